/-
  NARROWER THAN 'FOR EVERY INPUT', by the rows' own cells (each row's printed sentence says how): Publics: laid · Starts: laid · Lays: laid · Sends: laid · Reads: laid · States: laid · Raw: laid · Said: laid · Delivered: laid · Bent: laid · Junk: laid · Other: laid.
  DERIVED. THE GIVEN ROWS OF THIS SEAT. 12 by the template 'for every input the law returns true; each argument reads behind the call as it read before'; 0 by the template 'total and deterministic' (their statements: YteghoooelgcpkaaGreatDoorTotals.lean).
  GIVEN WITH THE SEED: the statements are not yours to turn. If you find one false, say at which input.
  Laid BY PROGRAM, IN A SANDBOX (cutbox-rows.mjs): the forced cells as the released guide's own fill.sh prints them over the translation 812320edd98daae3… (all of the seat's roots in one cut). By AI agents, Wed Nov 11 2026. No macro, syntax, notation, axiom, sorry.
-/
import Derived.Test.YteghoooelgcpkaaGreatDoorChecked
import GoSem.Claim
import GoSem.ClaimJoined
import GoSem.ClaimMapViews
import Derived.JoinedTies
import Derived.KernelRfl
namespace Go.Proofs.YteghoooelgcpkaaGreatDoor
/- THE CELL 'sum', in the pinned program and in every row, IS THE sha256 OF THE DUMP (.gsa) THAT YteghoooelgcpkaaGreatDoorProg.lean LOADS. Nothing in Lean hashes anything: it is a label: what it is worth is what the hold of that sum in a sandbox is worth. -/
noncomputable def Tryz.pinned : Pinned := { name := "yteghoooelgcpkaagreatdoor", sum := "812320edd98daae32e6bb0cc4bace3854d1897d986c569664626563ea848b8d6", checked := Tryz.checked }
namespace Rows
def none {H : Type} : Left H := { results := [], args := [] }

/- WHAT THE LISTED PACKAGE-LEVEL VARIABLES READ AS WHEN THE CALL BEGINS. Each datum BY PROGRAM (the guide's laid-datum.mjs) off the statement by which the dump's own 'gosem.cut.vars' lays the variable. In a bare row this is a premise. The card (YteghoooelgcpkaaGreatDoorCards.lean) ties it to the program's text. -/
def laid_messenger_digest_squares {H : Type} : DataW H := .agg [.lit (.int .u32 1779033703), .lit (.int .u32 3144134277), .lit (.int .u32 1013904242), .lit (.int .u32 2773480762), .lit (.int .u32 1359893119), .lit (.int .u32 2600822924), .lit (.int .u32 528734635), .lit (.int .u32 1541459225)]
def laid_messenger_digest_cubes {H : Type} : DataW H := .agg [.lit (.int .u32 1116352408), .lit (.int .u32 1899447441), .lit (.int .u32 3049323471), .lit (.int .u32 3921009573), .lit (.int .u32 961987163), .lit (.int .u32 1508970993), .lit (.int .u32 2453635748), .lit (.int .u32 2870763221), .lit (.int .u32 3624381080), .lit (.int .u32 310598401), .lit (.int .u32 607225278), .lit (.int .u32 1426881987), .lit (.int .u32 1925078388), .lit (.int .u32 2162078206), .lit (.int .u32 2614888103), .lit (.int .u32 3248222580), .lit (.int .u32 3835390401), .lit (.int .u32 4022224774), .lit (.int .u32 264347078), .lit (.int .u32 604807628), .lit (.int .u32 770255983), .lit (.int .u32 1249150122), .lit (.int .u32 1555081692), .lit (.int .u32 1996064986), .lit (.int .u32 2554220882), .lit (.int .u32 2821834349), .lit (.int .u32 2952996808), .lit (.int .u32 3210313671), .lit (.int .u32 3336571891), .lit (.int .u32 3584528711), .lit (.int .u32 113926993), .lit (.int .u32 338241895), .lit (.int .u32 666307205), .lit (.int .u32 773529912), .lit (.int .u32 1294757372), .lit (.int .u32 1396182291), .lit (.int .u32 1695183700), .lit (.int .u32 1986661051), .lit (.int .u32 2177026350), .lit (.int .u32 2456956037), .lit (.int .u32 2730485921), .lit (.int .u32 2820302411), .lit (.int .u32 3259730800), .lit (.int .u32 3345764771), .lit (.int .u32 3516065817), .lit (.int .u32 3600352804), .lit (.int .u32 4094571909), .lit (.int .u32 275423344), .lit (.int .u32 430227734), .lit (.int .u32 506948616), .lit (.int .u32 659060556), .lit (.int .u32 883997877), .lit (.int .u32 958139571), .lit (.int .u32 1322822218), .lit (.int .u32 1537002063), .lit (.int .u32 1747873779), .lit (.int .u32 1955562222), .lit (.int .u32 2024104815), .lit (.int .u32 2227730452), .lit (.int .u32 2361852424), .lit (.int .u32 2428436474), .lit (.int .u32 2756734187), .lit (.int .u32 3204031479), .lit (.int .u32 3329325298)]

/-- 'messengerlaw.Publics': WHATEVER THE INPUT: true; the input reads as it did. -/
def publicsSpec : ChangeSpec := { name := "publics", fn := fun _ => fun
  | [d] => { results := [.lit (.bool true)], args := [d] }
  | _ => none }
def publicsRow : OpenClaim := { program := "yteghoooelgcpkaagreatdoor", sum := "812320edd98daae32e6bb0cc4bace3854d1897d986c569664626563ea848b8d6", func := "messenger/messengerlaw.Publics", spec := "publics", named := ["messenger/digest.squares", "messenger/digest.cubes"], apart := false, laid := [("messenger/digest.squares", laid_messenger_digest_squares), ("messenger/digest.cubes", laid_messenger_digest_cubes)] }
def PublicsSaid : Prop := publicsRow.holds Tryz.pinned (OpenSpec.ofChange publicsSpec)

/-- ITS FALSE NEIGHBOUR: 'it returns false'. Refute it at one input. -/
def publicsWrong : ChangeSpec := { name := "publics", fn := fun _ => fun
  | [d] => { results := [.lit (.bool false)], args := [d] }
  | _ => none }
def PublicsWrongFalsely : Prop := publicsRow.holds Tryz.pinned (OpenSpec.ofChange publicsWrong)

/-- 'messengerlaw.Starts': WHATEVER THE INPUT: true; the input reads as it did. -/
def startsSpec : ChangeSpec := { name := "starts", fn := fun _ => fun
  | [d] => { results := [.lit (.bool true)], args := [d] }
  | _ => none }
def startsRow : OpenClaim := { program := "yteghoooelgcpkaagreatdoor", sum := "812320edd98daae32e6bb0cc4bace3854d1897d986c569664626563ea848b8d6", func := "messenger/messengerlaw.Starts", spec := "starts", named := ["messenger/digest.squares", "messenger/digest.cubes"], apart := false, laid := [("messenger/digest.squares", laid_messenger_digest_squares), ("messenger/digest.cubes", laid_messenger_digest_cubes)] }
def StartsSaid : Prop := startsRow.holds Tryz.pinned (OpenSpec.ofChange startsSpec)

/-- ITS FALSE NEIGHBOUR: 'it returns false'. Refute it at one input. -/
def startsWrong : ChangeSpec := { name := "starts", fn := fun _ => fun
  | [d] => { results := [.lit (.bool false)], args := [d] }
  | _ => none }
def StartsWrongFalsely : Prop := startsRow.holds Tryz.pinned (OpenSpec.ofChange startsWrong)

/-- 'messengerlaw.Lays': WHATEVER THE INPUT: true; the input reads as it did. -/
def laysSpec : ChangeSpec := { name := "lays", fn := fun _ => fun
  | [d] => { results := [.lit (.bool true)], args := [d] }
  | _ => none }
def laysRow : OpenClaim := { program := "yteghoooelgcpkaagreatdoor", sum := "812320edd98daae32e6bb0cc4bace3854d1897d986c569664626563ea848b8d6", func := "messenger/messengerlaw.Lays", spec := "lays", named := ["messenger/digest.squares", "messenger/digest.cubes"], apart := false, laid := [("messenger/digest.squares", laid_messenger_digest_squares), ("messenger/digest.cubes", laid_messenger_digest_cubes)] }
def LaysSaid : Prop := laysRow.holds Tryz.pinned (OpenSpec.ofChange laysSpec)

/-- ITS FALSE NEIGHBOUR: 'it returns false'. Refute it at one input. -/
def laysWrong : ChangeSpec := { name := "lays", fn := fun _ => fun
  | [d] => { results := [.lit (.bool false)], args := [d] }
  | _ => none }
def LaysWrongFalsely : Prop := laysRow.holds Tryz.pinned (OpenSpec.ofChange laysWrong)

/-- 'messengerlaw.Sends': WHATEVER THE INPUT: true; the input reads as it did. -/
def sendsSpec : ChangeSpec := { name := "sends", fn := fun _ => fun
  | [d] => { results := [.lit (.bool true)], args := [d] }
  | _ => none }
def sendsRow : OpenClaim := { program := "yteghoooelgcpkaagreatdoor", sum := "812320edd98daae32e6bb0cc4bace3854d1897d986c569664626563ea848b8d6", func := "messenger/messengerlaw.Sends", spec := "sends", named := ["messenger/digest.squares", "messenger/digest.cubes"], apart := false, laid := [("messenger/digest.squares", laid_messenger_digest_squares), ("messenger/digest.cubes", laid_messenger_digest_cubes)] }
def SendsSaid : Prop := sendsRow.holds Tryz.pinned (OpenSpec.ofChange sendsSpec)

/-- ITS FALSE NEIGHBOUR: 'it returns false'. Refute it at one input. -/
def sendsWrong : ChangeSpec := { name := "sends", fn := fun _ => fun
  | [d] => { results := [.lit (.bool false)], args := [d] }
  | _ => none }
def SendsWrongFalsely : Prop := sendsRow.holds Tryz.pinned (OpenSpec.ofChange sendsWrong)

/-- 'messengerlaw.Reads': WHATEVER THE INPUT: true; the input reads as it did. -/
def readsSpec : ChangeSpec := { name := "reads", fn := fun _ => fun
  | [d] => { results := [.lit (.bool true)], args := [d] }
  | _ => none }
def readsRow : OpenClaim := { program := "yteghoooelgcpkaagreatdoor", sum := "812320edd98daae32e6bb0cc4bace3854d1897d986c569664626563ea848b8d6", func := "messenger/messengerlaw.Reads", spec := "reads", named := ["messenger/digest.squares", "messenger/digest.cubes"], apart := false, laid := [("messenger/digest.squares", laid_messenger_digest_squares), ("messenger/digest.cubes", laid_messenger_digest_cubes)] }
def ReadsSaid : Prop := readsRow.holds Tryz.pinned (OpenSpec.ofChange readsSpec)

/-- ITS FALSE NEIGHBOUR: 'it returns false'. Refute it at one input. -/
def readsWrong : ChangeSpec := { name := "reads", fn := fun _ => fun
  | [d] => { results := [.lit (.bool false)], args := [d] }
  | _ => none }
def ReadsWrongFalsely : Prop := readsRow.holds Tryz.pinned (OpenSpec.ofChange readsWrong)

/-- 'messengerlaw.States': WHATEVER THE INPUT: true; the input reads as it did. -/
def statesSpec : ChangeSpec := { name := "states", fn := fun _ => fun
  | [d] => { results := [.lit (.bool true)], args := [d] }
  | _ => none }
def statesRow : OpenClaim := { program := "yteghoooelgcpkaagreatdoor", sum := "812320edd98daae32e6bb0cc4bace3854d1897d986c569664626563ea848b8d6", func := "messenger/messengerlaw.States", spec := "states", named := ["messenger/digest.squares", "messenger/digest.cubes"], apart := false, laid := [("messenger/digest.squares", laid_messenger_digest_squares), ("messenger/digest.cubes", laid_messenger_digest_cubes)] }
def StatesSaid : Prop := statesRow.holds Tryz.pinned (OpenSpec.ofChange statesSpec)

/-- ITS FALSE NEIGHBOUR: 'it returns false'. Refute it at one input. -/
def statesWrong : ChangeSpec := { name := "states", fn := fun _ => fun
  | [d] => { results := [.lit (.bool false)], args := [d] }
  | _ => none }
def StatesWrongFalsely : Prop := statesRow.holds Tryz.pinned (OpenSpec.ofChange statesWrong)

/-- 'messengerlaw.Raw': WHATEVER THE INPUT: true; the input reads as it did. -/
def rawSpec : ChangeSpec := { name := "raw", fn := fun _ => fun
  | [d1, d2, d3, d4] => { results := [.lit (.bool true)], args := [d1, d2, d3, d4] }
  | _ => none }
def rawRow : OpenClaim := { program := "yteghoooelgcpkaagreatdoor", sum := "812320edd98daae32e6bb0cc4bace3854d1897d986c569664626563ea848b8d6", func := "messenger/messengerlaw.Raw", spec := "raw", named := ["messenger/digest.squares", "messenger/digest.cubes"], apart := false, laid := [("messenger/digest.squares", laid_messenger_digest_squares), ("messenger/digest.cubes", laid_messenger_digest_cubes)] }
def RawSaid : Prop := rawRow.holds Tryz.pinned (OpenSpec.ofChange rawSpec)

/-- ITS FALSE NEIGHBOUR: 'it returns false'. Refute it at one input. -/
def rawWrong : ChangeSpec := { name := "raw", fn := fun _ => fun
  | [d1, d2, d3, d4] => { results := [.lit (.bool false)], args := [d1, d2, d3, d4] }
  | _ => none }
def RawWrongFalsely : Prop := rawRow.holds Tryz.pinned (OpenSpec.ofChange rawWrong)

/-- 'messengersays.Said': WHATEVER THE INPUT: true; the input reads as it did. -/
def saidSpec : ChangeSpec := { name := "said", fn := fun _ => fun
  | [d] => { results := [.lit (.bool true)], args := [d] }
  | _ => none }
def saidRow : OpenClaim := { program := "yteghoooelgcpkaagreatdoor", sum := "812320edd98daae32e6bb0cc4bace3854d1897d986c569664626563ea848b8d6", func := "messenger/messengersays.Said", spec := "said", named := ["messenger/digest.squares", "messenger/digest.cubes"], apart := false, laid := [("messenger/digest.squares", laid_messenger_digest_squares), ("messenger/digest.cubes", laid_messenger_digest_cubes)] }
def SaidSaid : Prop := saidRow.holds Tryz.pinned (OpenSpec.ofChange saidSpec)

/-- ITS FALSE NEIGHBOUR: 'it returns false'. Refute it at one input. -/
def saidWrong : ChangeSpec := { name := "said", fn := fun _ => fun
  | [d] => { results := [.lit (.bool false)], args := [d] }
  | _ => none }
def SaidWrongFalsely : Prop := saidRow.holds Tryz.pinned (OpenSpec.ofChange saidWrong)

/-- 'messengersays.Delivered': WHATEVER THE INPUT: true; the input reads as it did. -/
def deliveredSpec : ChangeSpec := { name := "delivered", fn := fun _ => fun
  | [d] => { results := [.lit (.bool true)], args := [d] }
  | _ => none }
def deliveredRow : OpenClaim := { program := "yteghoooelgcpkaagreatdoor", sum := "812320edd98daae32e6bb0cc4bace3854d1897d986c569664626563ea848b8d6", func := "messenger/messengersays.Delivered", spec := "delivered", named := ["messenger/digest.squares", "messenger/digest.cubes"], apart := false, laid := [("messenger/digest.squares", laid_messenger_digest_squares), ("messenger/digest.cubes", laid_messenger_digest_cubes)] }
def DeliveredSaid : Prop := deliveredRow.holds Tryz.pinned (OpenSpec.ofChange deliveredSpec)

/-- ITS FALSE NEIGHBOUR: 'it returns false'. Refute it at one input. -/
def deliveredWrong : ChangeSpec := { name := "delivered", fn := fun _ => fun
  | [d] => { results := [.lit (.bool false)], args := [d] }
  | _ => none }
def DeliveredWrongFalsely : Prop := deliveredRow.holds Tryz.pinned (OpenSpec.ofChange deliveredWrong)

/-- 'messengersays.Bent': WHATEVER THE INPUT: true; the input reads as it did. -/
def bentSpec : ChangeSpec := { name := "bent", fn := fun _ => fun
  | [d] => { results := [.lit (.bool true)], args := [d] }
  | _ => none }
def bentRow : OpenClaim := { program := "yteghoooelgcpkaagreatdoor", sum := "812320edd98daae32e6bb0cc4bace3854d1897d986c569664626563ea848b8d6", func := "messenger/messengersays.Bent", spec := "bent", named := ["messenger/digest.squares", "messenger/digest.cubes"], apart := false, laid := [("messenger/digest.squares", laid_messenger_digest_squares), ("messenger/digest.cubes", laid_messenger_digest_cubes)] }
def BentSaid : Prop := bentRow.holds Tryz.pinned (OpenSpec.ofChange bentSpec)

/-- ITS FALSE NEIGHBOUR: 'it returns false'. Refute it at one input. -/
def bentWrong : ChangeSpec := { name := "bent", fn := fun _ => fun
  | [d] => { results := [.lit (.bool false)], args := [d] }
  | _ => none }
def BentWrongFalsely : Prop := bentRow.holds Tryz.pinned (OpenSpec.ofChange bentWrong)

/-- 'messengersays.Junk': WHATEVER THE INPUT: true; the input reads as it did. -/
def junkSpec : ChangeSpec := { name := "junk", fn := fun _ => fun
  | [d] => { results := [.lit (.bool true)], args := [d] }
  | _ => none }
def junkRow : OpenClaim := { program := "yteghoooelgcpkaagreatdoor", sum := "812320edd98daae32e6bb0cc4bace3854d1897d986c569664626563ea848b8d6", func := "messenger/messengersays.Junk", spec := "junk", named := ["messenger/digest.squares", "messenger/digest.cubes"], apart := false, laid := [("messenger/digest.squares", laid_messenger_digest_squares), ("messenger/digest.cubes", laid_messenger_digest_cubes)] }
def JunkSaid : Prop := junkRow.holds Tryz.pinned (OpenSpec.ofChange junkSpec)

/-- ITS FALSE NEIGHBOUR: 'it returns false'. Refute it at one input. -/
def junkWrong : ChangeSpec := { name := "junk", fn := fun _ => fun
  | [d] => { results := [.lit (.bool false)], args := [d] }
  | _ => none }
def JunkWrongFalsely : Prop := junkRow.holds Tryz.pinned (OpenSpec.ofChange junkWrong)

/-- 'messengersays.Other': WHATEVER THE INPUT: true; the input reads as it did. -/
def otherSpec : ChangeSpec := { name := "other", fn := fun _ => fun
  | [d] => { results := [.lit (.bool true)], args := [d] }
  | _ => none }
def otherRow : OpenClaim := { program := "yteghoooelgcpkaagreatdoor", sum := "812320edd98daae32e6bb0cc4bace3854d1897d986c569664626563ea848b8d6", func := "messenger/messengersays.Other", spec := "other", named := ["messenger/digest.squares", "messenger/digest.cubes"], apart := false, laid := [("messenger/digest.squares", laid_messenger_digest_squares), ("messenger/digest.cubes", laid_messenger_digest_cubes)] }
def OtherSaid : Prop := otherRow.holds Tryz.pinned (OpenSpec.ofChange otherSpec)

/-- ITS FALSE NEIGHBOUR: 'it returns false'. Refute it at one input. -/
def otherWrong : ChangeSpec := { name := "other", fn := fun _ => fun
  | [d] => { results := [.lit (.bool false)], args := [d] }
  | _ => none }
def OtherWrongFalsely : Prop := otherRow.holds Tryz.pinned (OpenSpec.ofChange otherWrong)

/- THE SECOND FORM. 'bulk': how many values and letters a reading holds, each counted each time it is reached (what is shared counts as often as it is met; a slice's spare places count too). A statement '..UptoSaid' is the law's where the arguments, and the package variables that the reading takes, are together of bulk at most 1048576: NARROWER than '..Said'. Prove '..Said' where nothing that the law and all that it calls make is longer than what came in: it says more and counts as full. Else prove '..UptoSaid'. A law counts once. -/
mutual
def uptoBulk {H : Type} : DataW H → Nat
  | .lit (.string bytes) => bytes.length + 1
  | .lit _ => 1
  | .nil => 1
  | .ptr d => uptoBulk d + 1
  | .slice elems spare => uptoBulkAll elems + uptoBulkAll spare + 1
  | .agg parts => uptoBulkAll parts + 1
  | .iface _ d => uptoBulk d + 1
  | .map entries => uptoBulkEntries entries + 1
  | .held _ => 1
def uptoBulkAll {H : Type} : List (DataW H) → Nat
  | [] => 0
  | d :: r => uptoBulk d + uptoBulkAll r
def uptoBulkEntries {H : Type} : List (Lit × DataW H) → Nat
  | [] => 0
  | x :: r => uptoBulkEntry x + uptoBulkEntries r
def uptoBulkEntry {H : Type} : Lit × DataW H → Nat
  | (.string bytes, d) => bytes.length + uptoBulk d + 1
  | (_, d) => uptoBulk d + 1
 end
def uptoSmall : (H : Type) → List (DataW H) → Bool := fun _ ds => decide (uptoBulkAll ds ≤ 1048576)
def OpenSpec.upto (s : _root_.Go.ChangeSpec) : _root_.Go.OpenSpec := { _root_.Go.OpenSpec.ofChange s with cond := some uptoSmall }

/-- 'messengerlaw.Publics', WHERE WHAT IT READS IS OF BULK AT MOST 1048576: true; the input reads as it did. -/
def publicsUptoRow : OpenClaim := { program := "yteghoooelgcpkaagreatdoor", sum := "812320edd98daae32e6bb0cc4bace3854d1897d986c569664626563ea848b8d6", func := "messenger/messengerlaw.Publics", spec := "publics", named := ["messenger/digest.squares", "messenger/digest.cubes"], apart := false, laid := [("messenger/digest.squares", laid_messenger_digest_squares), ("messenger/digest.cubes", laid_messenger_digest_cubes)], narrowed := true }
def PublicsUptoSaid : Prop := publicsUptoRow.holds Tryz.pinned (OpenSpec.upto publicsSpec)

/-- 'messengerlaw.Starts', WHERE WHAT IT READS IS OF BULK AT MOST 1048576: true; the input reads as it did. -/
def startsUptoRow : OpenClaim := { program := "yteghoooelgcpkaagreatdoor", sum := "812320edd98daae32e6bb0cc4bace3854d1897d986c569664626563ea848b8d6", func := "messenger/messengerlaw.Starts", spec := "starts", named := ["messenger/digest.squares", "messenger/digest.cubes"], apart := false, laid := [("messenger/digest.squares", laid_messenger_digest_squares), ("messenger/digest.cubes", laid_messenger_digest_cubes)], narrowed := true }
def StartsUptoSaid : Prop := startsUptoRow.holds Tryz.pinned (OpenSpec.upto startsSpec)

/-- 'messengerlaw.Lays', WHERE WHAT IT READS IS OF BULK AT MOST 1048576: true; the input reads as it did. -/
def laysUptoRow : OpenClaim := { program := "yteghoooelgcpkaagreatdoor", sum := "812320edd98daae32e6bb0cc4bace3854d1897d986c569664626563ea848b8d6", func := "messenger/messengerlaw.Lays", spec := "lays", named := ["messenger/digest.squares", "messenger/digest.cubes"], apart := false, laid := [("messenger/digest.squares", laid_messenger_digest_squares), ("messenger/digest.cubes", laid_messenger_digest_cubes)], narrowed := true }
def LaysUptoSaid : Prop := laysUptoRow.holds Tryz.pinned (OpenSpec.upto laysSpec)

/-- 'messengerlaw.Sends', WHERE WHAT IT READS IS OF BULK AT MOST 1048576: true; the input reads as it did. -/
def sendsUptoRow : OpenClaim := { program := "yteghoooelgcpkaagreatdoor", sum := "812320edd98daae32e6bb0cc4bace3854d1897d986c569664626563ea848b8d6", func := "messenger/messengerlaw.Sends", spec := "sends", named := ["messenger/digest.squares", "messenger/digest.cubes"], apart := false, laid := [("messenger/digest.squares", laid_messenger_digest_squares), ("messenger/digest.cubes", laid_messenger_digest_cubes)], narrowed := true }
def SendsUptoSaid : Prop := sendsUptoRow.holds Tryz.pinned (OpenSpec.upto sendsSpec)

/-- 'messengerlaw.Reads', WHERE WHAT IT READS IS OF BULK AT MOST 1048576: true; the input reads as it did. -/
def readsUptoRow : OpenClaim := { program := "yteghoooelgcpkaagreatdoor", sum := "812320edd98daae32e6bb0cc4bace3854d1897d986c569664626563ea848b8d6", func := "messenger/messengerlaw.Reads", spec := "reads", named := ["messenger/digest.squares", "messenger/digest.cubes"], apart := false, laid := [("messenger/digest.squares", laid_messenger_digest_squares), ("messenger/digest.cubes", laid_messenger_digest_cubes)], narrowed := true }
def ReadsUptoSaid : Prop := readsUptoRow.holds Tryz.pinned (OpenSpec.upto readsSpec)

/-- 'messengerlaw.States', WHERE WHAT IT READS IS OF BULK AT MOST 1048576: true; the input reads as it did. -/
def statesUptoRow : OpenClaim := { program := "yteghoooelgcpkaagreatdoor", sum := "812320edd98daae32e6bb0cc4bace3854d1897d986c569664626563ea848b8d6", func := "messenger/messengerlaw.States", spec := "states", named := ["messenger/digest.squares", "messenger/digest.cubes"], apart := false, laid := [("messenger/digest.squares", laid_messenger_digest_squares), ("messenger/digest.cubes", laid_messenger_digest_cubes)], narrowed := true }
def StatesUptoSaid : Prop := statesUptoRow.holds Tryz.pinned (OpenSpec.upto statesSpec)

/-- 'messengerlaw.Raw', WHERE WHAT IT READS IS OF BULK AT MOST 1048576: true; the input reads as it did. -/
def rawUptoRow : OpenClaim := { program := "yteghoooelgcpkaagreatdoor", sum := "812320edd98daae32e6bb0cc4bace3854d1897d986c569664626563ea848b8d6", func := "messenger/messengerlaw.Raw", spec := "raw", named := ["messenger/digest.squares", "messenger/digest.cubes"], apart := false, laid := [("messenger/digest.squares", laid_messenger_digest_squares), ("messenger/digest.cubes", laid_messenger_digest_cubes)], narrowed := true }
def RawUptoSaid : Prop := rawUptoRow.holds Tryz.pinned (OpenSpec.upto rawSpec)

/-- 'messengersays.Said', WHERE WHAT IT READS IS OF BULK AT MOST 1048576: true; the input reads as it did. -/
def saidUptoRow : OpenClaim := { program := "yteghoooelgcpkaagreatdoor", sum := "812320edd98daae32e6bb0cc4bace3854d1897d986c569664626563ea848b8d6", func := "messenger/messengersays.Said", spec := "said", named := ["messenger/digest.squares", "messenger/digest.cubes"], apart := false, laid := [("messenger/digest.squares", laid_messenger_digest_squares), ("messenger/digest.cubes", laid_messenger_digest_cubes)], narrowed := true }
def SaidUptoSaid : Prop := saidUptoRow.holds Tryz.pinned (OpenSpec.upto saidSpec)

/-- 'messengersays.Delivered', WHERE WHAT IT READS IS OF BULK AT MOST 1048576: true; the input reads as it did. -/
def deliveredUptoRow : OpenClaim := { program := "yteghoooelgcpkaagreatdoor", sum := "812320edd98daae32e6bb0cc4bace3854d1897d986c569664626563ea848b8d6", func := "messenger/messengersays.Delivered", spec := "delivered", named := ["messenger/digest.squares", "messenger/digest.cubes"], apart := false, laid := [("messenger/digest.squares", laid_messenger_digest_squares), ("messenger/digest.cubes", laid_messenger_digest_cubes)], narrowed := true }
def DeliveredUptoSaid : Prop := deliveredUptoRow.holds Tryz.pinned (OpenSpec.upto deliveredSpec)

/-- 'messengersays.Bent', WHERE WHAT IT READS IS OF BULK AT MOST 1048576: true; the input reads as it did. -/
def bentUptoRow : OpenClaim := { program := "yteghoooelgcpkaagreatdoor", sum := "812320edd98daae32e6bb0cc4bace3854d1897d986c569664626563ea848b8d6", func := "messenger/messengersays.Bent", spec := "bent", named := ["messenger/digest.squares", "messenger/digest.cubes"], apart := false, laid := [("messenger/digest.squares", laid_messenger_digest_squares), ("messenger/digest.cubes", laid_messenger_digest_cubes)], narrowed := true }
def BentUptoSaid : Prop := bentUptoRow.holds Tryz.pinned (OpenSpec.upto bentSpec)

/-- 'messengersays.Junk', WHERE WHAT IT READS IS OF BULK AT MOST 1048576: true; the input reads as it did. -/
def junkUptoRow : OpenClaim := { program := "yteghoooelgcpkaagreatdoor", sum := "812320edd98daae32e6bb0cc4bace3854d1897d986c569664626563ea848b8d6", func := "messenger/messengersays.Junk", spec := "junk", named := ["messenger/digest.squares", "messenger/digest.cubes"], apart := false, laid := [("messenger/digest.squares", laid_messenger_digest_squares), ("messenger/digest.cubes", laid_messenger_digest_cubes)], narrowed := true }
def JunkUptoSaid : Prop := junkUptoRow.holds Tryz.pinned (OpenSpec.upto junkSpec)

/-- 'messengersays.Other', WHERE WHAT IT READS IS OF BULK AT MOST 1048576: true; the input reads as it did. -/
def otherUptoRow : OpenClaim := { program := "yteghoooelgcpkaagreatdoor", sum := "812320edd98daae32e6bb0cc4bace3854d1897d986c569664626563ea848b8d6", func := "messenger/messengersays.Other", spec := "other", named := ["messenger/digest.squares", "messenger/digest.cubes"], apart := false, laid := [("messenger/digest.squares", laid_messenger_digest_squares), ("messenger/digest.cubes", laid_messenger_digest_cubes)], narrowed := true }
def OtherUptoSaid : Prop := otherUptoRow.holds Tryz.pinned (OpenSpec.upto otherSpec)

end Rows
end Go.Proofs.YteghoooelgcpkaaGreatDoor
