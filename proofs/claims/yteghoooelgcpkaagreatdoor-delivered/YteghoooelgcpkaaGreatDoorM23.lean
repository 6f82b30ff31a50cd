import Derived.Test.YteghoooelgcpkaaGreatDoorRows
import Derived.Test.YteghoooelgcpkaaGreatDoorTie
import Derived.Test.YteghoooelgcpkaaGreatDoorCards
import Derived.WalkKit
import Derived.ProofKit
import Derived.OpenShut
import Derived.ShutString
import Derived.ChangeOld
import Derived.Below
import Derived.LaidMore
import Derived.Stop.Joined
import Derived.SevenTiedAt
import Derived.Deep.Slices
import Derived.Test.YteghoooelgcpkaaGreatDoorM19
import Derived.Test.YteghoooelgcpkaaGreatDoorM20
import Derived.Test.YteghoooelgcpkaaGreatDoorM21
import Derived.Test.YteghoooelgcpkaaGreatDoorM22
namespace Go.Proofs.YteghoooelgcpkaaGreatDoor
open Go.RowKit Go.Msg
def opS (K A B C : Int) (S T : ByteArray) : Array Value := #[.int .i64 K, .int .i64 A, .int .i64 B, .int .i64 C, .string S, .string T]
theorem sop_box (w : World) (K A B C : Int) (S T : ByteArray) : ∃ W, W = w.alloc (.cells #[.int .i64 K, .int .i64 A, .int .i64 B, .int .i64 C, .string S, .string T] 68) ∧ Below w.heap.size w W ∧ W.rowOf w.heap.size = opS K A B C S T :=
  ⟨_, rfl, by_alloc _ _, rowOf_new2 _ _ _ _ rfl⟩
theorem sop_cells {W : World} {g : Nat} {K A B C : Int} {S T : ByteArray} (r : W.rowOf g = opS K A B C S T) : W.cell? ⟨g, 0, none⟩ = some (.int .i64 K) ∧ W.cell? ⟨g, 1, none⟩ = some (.int .i64 A) ∧ W.cell? ⟨g, 2, none⟩ = some (.int .i64 B) ∧ W.cell? ⟨g, 3, none⟩ = some (.int .i64 C) ∧ W.cell? ⟨g, 4, none⟩ = some (.string S) ∧ W.cell? ⟨g, 5, none⟩ = some (.string T) :=
  ⟨rowcell r 0 _ rfl, rowcell r 1 _ rfl, rowcell r 2 _ rfl, rowcell r 3 _ rfl, rowcell r 4 _ rfl, rowcell r 5 _ rfl⟩
theorem sop_below {W W' : World} {g : Nat} {K A B C : Int} {S T : ByteArray} (r : W.rowOf g = opS K A B C S T) (b : Below W.heap.size W W') : W'.rowOf g = opS K A B C S T := (below_row b (by rw [r]; exact Nat.succ_pos 5)).trans r
theorem Live.below {w0 w w' : World} {gd n : Nat} (h : Live w0 gd n w) (b : Below w.heap.size w w') : Live w0 gd n w' := by
  obtain ⟨ρ, S, vl, vp, ls, ps, tw, lo, ld, sd, h1, h2⟩ := h
  exact ⟨ρ, S, vl, vp, ls, ps, tw, lo, ld, sd, h1.below b, h2⟩
theorem Live.mono {w0 w : World} {gd n m : Nat} (h : Live w0 gd n w) (hm : n ≤ m) : Live w0 gd m w := by
  obtain ⟨ρ, S, vl, vp, ls, ps, tw, lo, ld, sd, h1, h2⟩ := h
  exact ⟨ρ, S, vl, vp, ls, ps, tw, lo, ld, sd, h1, h2.mono hm⟩
theorem Shell.below {w0 w w' : World} {gd : Nat} (h : Shell w0 gd w) (b : Below w.heap.size w w') : Shell w0 gd w' :=
  ⟨by rw [below_row b (by rw [h.row]; decide)]; exact h.row, below_lift h.bl h.bl.size b, h.tb, h.old⟩
def DeskI (w0 : World) (gd n : Nat) (w : World) : Prop := Live w0 gd n w ∨ (Shell w0 gd w ∧ w.cell? ⟨gd, 0, none⟩ = some (.pointer none))
theorem DeskI.below {w0 w w' : World} {gd n : Nat} (h : DeskI w0 gd n w) (b : Below w.heap.size w w') : DeskI w0 gd n w' := by
  rcases h with h | ⟨h1, h2⟩
  · exact Or.inl (h.below b)
  · exact Or.inr ⟨h1.below b, cell_below b h2⟩
theorem DeskI.shell {w0 w : World} {gd n : Nat} (h : DeskI w0 gd n w) : Shell w0 gd w := by
  rcases h with h | ⟨h1, _⟩
  · exact h.shell
  · exact h1
set_option maxRecDepth 4000 in
set_option maxHeartbeats 8000000 in
theorem sstep_f {w0 w : World} {gd n : Nat} (hI : DeskI w0 gd n w) (hN : n ≤ 1400000) (K A B C : Int) (hB1 : -9223372036854775808 ≤ B) (hB2 : B ≤ 9223372036854775807) (hC1 : -9223372036854775808 ≤ C) (hC2 : C ≤ 9223372036854775807) (S T : ByteArray) :
    Calls Tryz.prog 72 #[.pointer (some ⟨gd, 0, none⟩), .agg #[.int .i64 K, .int .i64 A, .int .i64 B, .int .i64 C, .string S, .string T]] w fun e w' => e = .returned (.bool true) ∧ DeskI w0 gd (n + 1) w' := by
  obtain ⟨W0, hW0, B0, r0⟩ := sop_box w K A B C S T
  have HI0 := Hid.mk (hI.below B0)
  have R0 := Hid.mk r0
  obtain ⟨u0, u1, u2, u3, u4, u5⟩ := sop_cells r0
  have hg6 : w.heap.size < W0.heap.size := World.block_lt_of_cell? _ _ u0
  clear r0 hI
  go_enter Tryz.func72, Tryz.ntmps72
  go_upto_region 1 with fail
  rw [← hW0]
  clear hW0 B0
  go_cut [5] from 11 (fun v wx => (∃ x, v = .bool x) ∧ wx = W0)
  case first =>
    go_wp2_with fail
    go_meet
    exact ⟨⟨_, rfl⟩, rfl⟩
  case rest =>
  obtain ⟨⟨odd, rfl⟩, rfl⟩ := hcut
  obtain ⟨W1, hW1⟩ : ∃ W, W = wc := ⟨_, rfl⟩
  subst hW1
  generalize w.heap.size = g6 at *
  by_cases h1 : K = 1
  · subst h1
    have HT := Hid.mk (talk_f HI0.out.shell A (n + 1))
    go_wp2_with (first | (go_at_call 106; with_reducible refine HT.out.mono ?_; rintro e w2 ⟨rfl, hq⟩; have HQ := Hid.mk hq; clear hq) | fail)
    go_ret
    exact ⟨rfl, Or.inl HQ.out⟩
  rcases HI0.out with hL | ⟨hS, he⟩
  rotate_left
  · have hlt := World.block_lt_of_cell? _ _ he
    have HS := Hid.mk hS
    have HE := Hid.mk he
    clear hS
    go_wp2_with fail
    go_ret
    exact ⟨rfl, Or.inr ⟨HS.out, HE.out⟩⟩
  have HL := Hid.mk hL
  obtain ⟨ρ, Z, vl, vp, ls, ps, tw, lo, ld, sd, h, hi⟩ := hL
  have k0 := dp_c0 h.row
  have k5 := dp_c5 h.row
  have hlt := h.lt
  cases lo
  rotate_left
  · clear h hi
    go_wp2_with fail
    go_ret
    exact ⟨rfl, Or.inl (HL.out.mono (Nat.le_succ _))⟩
  have HD := Hid.mk h
  have HI := Hid.mk hi
  have HLF : Hid (LiveF w0 gd n _) := Hid.mk ⟨ρ, Z, vl, vp, ls, ps, tw, ld, sd, h, hi⟩
  by_cases h2 : K = 2
  · subst h2
    clear h hi
    have HM := Hid.mk (says_f HLF.out (by omega) odd S T)
    go_wp2_with (first | (go_at_call 107; with_reducible refine HM.out.mono ?_; rintro e w2 ⟨rfl, hq⟩; have HQ := Hid.mk hq; clear hq) | fail)
    go_ret
    exact ⟨rfl, Or.inl HQ.out⟩
  by_cases h5 : K = 5
  · subst h5
    clear h hi
    have HM := Hid.mk (junk_f HL.out odd S)
    go_wp2_with (first | (go_at_call 108; with_reducible refine HM.out.mono ?_; rintro e w2 ⟨rfl, hq⟩; have HQ := Hid.mk hq; clear hq) | fail)
    go_ret
    exact ⟨rfl, Or.inl HQ.out⟩
  by_cases h7 : K = 7
  · subst h7
    clear h hi
    have HM := Hid.mk (wake_f HL.out odd)
    go_wp2_with (first | (go_at_call 109; with_reducible refine HM.out.mono ?_; rintro e w2 ⟨rfl, hq⟩; have HQ := Hid.mk hq; clear hq) | fail)
    go_ret
    exact ⟨rfl, Or.inl HQ.out⟩
  by_cases h8 : K = 8
  · subst h8
    have HM := Hid.mk (twin_f h hi (by omega) odd B hB1 hB2 S)
    clear h hi
    go_wp2_with (first | (go_at_call 110; with_reducible refine HM.out.mono ?_; rintro e w2 ⟨rfl, hq⟩; have HQ := Hid.mk hq; clear hq) | fail)
    go_ret
    exact ⟨rfl, Or.inl HQ.out⟩
  obtain ⟨ao, cap, gL, rfl, hao, _⟩ := own_lms h.ol
  have k2 := dp_c2 h.row
  have hnl := hi.nl
  clear h hi hao
  generalize hnL : ls.length = nL at *
  by_cases hz : nL = 0
  · subst hz
    go_wp2_with fail
    go_ret
    exact ⟨rfl, Or.inl (HL.out.mono (Nat.le_succ _))⟩
  have cz : ¬ (nL : Int) = 0 := by omega
  have HPK := Hid.mk (fun W => spick_any B nL (by omega) hB1 hB2 (by omega) W)
  go_upto_region 17 with fail
  go_cut [6] from 7 (fun v wx => ∃ j : Nat, v = .int .i64 (j : Int) ∧ j < nL ∧ Hid (Below W1.heap.size W1 wx))
  case first =>
    go_region_with (go_at_call 111; with_reducible refine (HPK.out _).mono ?_; rintro e w4 ⟨j, rfl, hj, rfl⟩)
    all_goals go_wp2_with fail
    all_goals go_meet
    all_goals exact ⟨j, rfl, hj, Hid.mk (Below.refl _ _).drew⟩
  case rest =>
  obtain ⟨j, rfl, hj, hb4⟩ := hcut
  obtain ⟨c, hc⟩ : ∃ c, ls[j]? = some c := ⟨ls[j]'(by omega), List.getElem?_eq_getElem _⟩
  have D4 := HD.out.below hb4.out
  clear u0 u1 u2 u3 u4 u5 k0 k2 k5
  obtain ⟨u0, u1, u2, u3, u4, u5⟩ := sop_cells (sop_below R0.out hb4.out)
  have hg7 : g6 < wc.heap.size := World.block_lt_of_cell? _ _ u0
  have HL4 := Hid.mk (HL.out.below hb4.out)
  by_cases h3 : K = 3
  · subst h3
    have HM := Hid.mk (deliver_f D4 HI.out (by omega) hc)
    clear D4 hc
    go_wp2_with (first | (go_at_call 112; with_reducible refine HM.out.mono ?_; rintro e w2 ⟨rfl, hq⟩; have HQ := Hid.mk hq; clear hq) | fail)
    go_ret
    exact ⟨rfl, Or.inl HQ.out⟩
  by_cases h4 : K = 4
  · subst h4
    have HM := Hid.mk (flip_f D4 HI.out (by omega) hc C hC1 hC2)
    clear D4 hc
    go_wp2_with (first | (go_at_call 113; with_reducible refine HM.out.mono ?_; rintro e w2 ⟨rfl, hq⟩; have HQ := Hid.mk hq; clear hq) | fail)
    go_ret
    exact ⟨rfl, Or.inl HQ.out⟩
  by_cases h6 : K = 6
  · subst h6
    have HM := Hid.mk (other_f D4 HI.out (by omega) hc S)
    clear D4 hc
    go_wp2_with (first | (go_at_call 114; with_reducible refine HM.out.mono ?_; rintro e w2 ⟨rfl, hq⟩; have HQ := Hid.mk hq; clear hq) | fail)
    go_ret
    exact ⟨rfl, Or.inl HQ.out⟩
  by_cases h9 : K = 9
  · subst h9
    have HM := Hid.mk (echo_f D4 HI.out (by omega) hc)
    clear D4 hc
    go_wp2_with (first | (go_at_call 115; with_reducible refine HM.out.mono ?_; rintro e w2 ⟨rfl, hq⟩; have HQ := Hid.mk hq; clear hq) | fail)
    go_ret
    exact ⟨rfl, Or.inl HQ.out⟩
  clear D4 hc
  go_wp2_with fail
  go_ret
  exact ⟨rfl, Or.inl (HL4.out.mono (Nat.le_succ _))⟩
end Go.Proofs.YteghoooelgcpkaaGreatDoor
namespace Go.Proofs.YteghoooelgcpkaaGreatDoor
open Go.RowKit Go.Msg
structure Ops where
  K : Nat → Int
  A : Nat → Int
  B : Nat → Int
  C : Nat → Int
  S : Nat → ByteArray
  T : Nat → ByteArray
def OpAt (w : World) (b off : Nat) (o : Ops) (i : Nat) : Prop :=
  w.cell? ⟨b, off + i * 6, none⟩ = some (.int .i64 (o.K i)) ∧ w.cell? ⟨b, off + i * 6 + 1, none⟩ = some (.int .i64 (o.A i)) ∧ w.cell? ⟨b, off + i * 6 + 2, none⟩ = some (.int .i64 (o.B i)) ∧
  w.cell? ⟨b, off + i * 6 + 3, none⟩ = some (.int .i64 (o.C i)) ∧ w.cell? ⟨b, off + i * 6 + 4, none⟩ = some (.string (o.S i)) ∧ w.cell? ⟨b, off + i * 6 + 5, none⟩ = some (.string (o.T i))
theorem OpAt.lt {w : World} {b off : Nat} {o : Ops} {i : Nat} (h : OpAt w b off o i) : b < w.heap.size := World.block_lt_of_cell? w _ h.1
theorem OpAt.below {w w' : World} {b off : Nat} {o : Ops} {i B : Nat} (h : OpAt w b off o i) (hb : Below B w w') (hB : w.heap.size ≤ B) : OpAt w' b off o i := by
  have hl := Nat.lt_of_lt_of_le h.lt hB
  obtain ⟨h0, h1, h2, h3, h4, h5⟩ := h
  exact ⟨by rw [hb.cell hl]; exact h0, by rw [hb.cell hl]; exact h1, by rw [hb.cell hl]; exact h2, by rw [hb.cell hl]; exact h3, by rw [hb.cell hl]; exact h4, by rw [hb.cell hl]; exact h5⟩
structure OpsOk (o : Ops) (n : Nat) : Prop where
  a : ∀ i, i < n → -9223372036854775808 ≤ o.A i ∧ o.A i ≤ 9223372036854775807
  b : ∀ i, i < n → -9223372036854775808 ≤ o.B i ∧ o.B i ≤ 9223372036854775807
  c : ∀ i, i < n → -9223372036854775808 ≤ o.C i ∧ o.C i ≤ 9223372036854775807
theorem DeskI.init {w : World} (ht : Tbl w) : DeskI w w.heap.size 0 (w.alloc (.cells #[.pointer none, .pointer none, .slice none 0 0, .slice none 0 0, .bool false, .bool false, .int .i64 0, .int .i64 0] 117)) := by
  have r : (w.alloc (.cells #[.pointer none, .pointer none, .slice none 0 0, .slice none 0 0, .bool false, .bool false, .int .i64 0, .int .i64 0] 117)).rowOf w.heap.size = #[.pointer none, .pointer none, .slice none 0 0, .slice none 0 0, .bool false, .bool false, .int .i64 0, .int .i64 0] := rowOf_new2 _ _ _ _ rfl
  exact Or.inr ⟨⟨by rw [r]; rfl, by_alloc _ _, ht, Nat.le_refl _⟩, dp_c0 r⟩
set_option maxRecDepth 20000 in
set_option maxHeartbeats 4000000 in
theorem upto_f (at0 : Option Addr) (b off n cap : Nat) (o : Ops) (w : World) (hat : 0 < n → at0 = some ⟨b, off, none⟩) (hn : n ≤ 9223372036854775807) (hO : ∀ i, i < n → OpAt w b off o i) (hok : OpsOk o n) (hT : Tbl w) :
    Calls Tryz.prog 37 #[.slice at0 n cap] w fun e w' => e = .returned (.int .i64 (-1)) ∧ Below w.heap.size w w' := by
  have HAt := Hid.mk hat
  have HO := Hid.mk hO
  have HK := Hid.mk hok
  have L0 := Hid.mk (DeskI.init hT)
  clear hat hO hok hT
  go_enter Tryz.func37, Tryz.ntmps37
  go_wp2_with fail
  generalize w.alloc (.cells #[.pointer none, .pointer none, .slice none 0 0, .slice none 0 0, .bool false, .bool false, .int .i64 0, .int .i64 0] 117) = Wa at *
  generalize hg : w.heap.size = g at *
  go_loopw [4] (fun i wq => ∃ (k : Nat), i = .int .i64 k ∧ k ≤ n ∧ k ≤ 1048576 ∧ Hid (DeskI w g k wq)) (fun i _ => n - (intOf i).toNat)
  case atStart => exact ⟨0, rfl, by omega, by omega, L0⟩
  case round =>
    clear L0
    obtain ⟨k, rfl, hk, hk2, HL⟩ := hrel
    have HBL := Hid.mk HL.out.shell.bl
    by_cases hlt : k < n ∧ k < 1048576
    · obtain ⟨hlt, hlt2⟩ := hlt
      have c1 : (k : Int) < n := by omega
      have c2 : (k : Int) < 1048576 := by omega
      obtain rfl := HAt.out (by omega)
      have HOW := Hid.mk ((HO.out k hlt).below HBL.out (Nat.le_refl _))
      obtain ⟨o0, o1, o2, o3, o4, o5⟩ := HOW.out
      have HST := Hid.mk (sstep_f HL.out (by omega) (o.K k) (o.A k) (o.B k) (o.C k) (HK.out.b k hlt).1 (HK.out.b k hlt).2 (HK.out.c k hlt).1 (HK.out.c k hlt).2 (o.S k) (o.T k))
      go_wp2_with (first | (go_at_call 72; with_reducible refine HST.out.mono ?_; rintro e W2 ⟨rfl, hN⟩; have HN := Hid.mk hN; clear hN) | fail)
      go_roundw
      case rel => exact ⟨k + 1, by go_num, by omega, by omega, HN⟩
      case measure => simp [intOf]; omega
    · by_cases hlt1 : k < n
      · have c1 : (k : Int) < n := by omega
        have c2 : ¬ (k : Int) < 1048576 := by omega
        go_wp2_with fail
        go_ret
        exact ⟨rfl, by rw [← hg]; exact HBL.out⟩
      · have c1 : ¬ (k : Int) < n := by omega
        go_wp2_with fail
        go_ret
        exact ⟨rfl, by rw [← hg]; exact HBL.out⟩
end Go.Proofs.YteghoooelgcpkaaGreatDoor
namespace Go.Proofs.YteghoooelgcpkaaGreatDoor
open Go.ChangeShapes Go.WideShapes Go.ChangeAt Go.RowKit Go.Deep Go.Msg
theorem own0 : ownKnob Tryz.prog.godebug = none := by kernel_rfl
theorem laidOut0 : laidOutB Tryz.prog = true := by kernel_rfl
theorem cellsOp : Tryz.prog.cellsOf 68 = 6 := by kernel_rfl
theorem cellsInt : Tryz.prog.cellsOf 3 = 1 := by kernel_rfl
theorem cellsStr : Tryz.prog.cellsOf 9 = 1 := by kernel_rfl
theorem cellsU32 : Tryz.prog.cellsOf 138 = 1 := by kernel_rfl
abbrev laidL : List (String × DataW Unit) := [("messenger/digest.squares", Rows.laid_messenger_digest_squares), ("messenger/digest.cubes", Rows.laid_messenger_digest_cubes)]
theorem gSq : Tryz.prog.globalNamed "messenger/digest.squares" = some 0 := by kernel_rfl
theorem gCu : Tryz.prog.globalNamed "messenger/digest.cubes" = some 1 := by kernel_rfl
theorem tSq : (Tryz.prog.globals[0]?).map (·.type) = some 200 := by kernel_rfl
theorem tCu : (Tryz.prog.globals[1]?).map (·.type) = some 202 := by kernel_rfl
def sqD : List Int := [1779033703, 3144134277, 1013904242, 2773480762, 1359893119, 2600822924, 528734635, 1541459225]
def cuD : List Int := [1116352408, 1899447441, 3049323471, 3921009573, 961987163, 1508970993, 2453635748, 2870763221, 3624381080, 310598401, 607225278, 1426881987, 1925078388, 2162078206, 2614888103, 3248222580, 3835390401, 4022224774, 264347078, 604807628, 770255983, 1249150122, 1555081692, 1996064986, 2554220882, 2821834349, 2952996808, 3210313671, 3336571891, 3584528711, 113926993, 338241895, 666307205, 773529912, 1294757372, 1396182291, 1695183700, 1986661051, 2177026350, 2456956037, 2730485921, 2820302411, 3259730800, 3345764771, 3516065817, 3600352804, 4094571909, 275423344, 430227734, 506948616, 659060556, 883997877, 958139571, 1322822218, 1537002063, 1747873779, 1955562222, 2024104815, 2227730452, 2361852424, 2428436474, 2756734187, 3204031479, 3329325298]
theorem sqD_eq : ∀ i, i < 8 → sqD[i]? = some (Hc i) := by decide +kernel
theorem cuD_eq : ∀ i, i < 64 → cuD[i]? = some (Kc i) := by decide +kernel
theorem sqD_laid : (Rows.laid_messenger_digest_squares : DataW Unit) = .agg (sqD.map fun z => .lit (.int .u32 z)) := rfl
theorem cuD_laid : (Rows.laid_messenger_digest_cubes : DataW Unit) = .agg (cuD.map fun z => .lit (.int .u32 z)) := rfl
theorem arr_cells {H : Type} {enc : TypeId × Value → H} {W : World} {base fuel n : Nat} {spare : Nat → Bool} {held : Bool} {T : TypeId} {cs : List Value} {D : List Int} {p : List MemPlace} (hu : Tryz.prog.underlying T = some (.array n 138)) (h : DataW.trod enc Tryz.prog W base spare held fuel T cs = some (.agg (D.map fun z => .lit (.int .u32 z)), p)) (i : Nat) (hi : i < n) : ∃ z, D[i]? = some z ∧ cs[i]? = some (.int .u32 z) := by
  obtain ⟨xs, m, rfl, hx, hlen, hn, hel⟩ := DataW.trod_array hu h
  have h0 := hel i hi
  rw [cellsU32, Nat.mul_one, List.getElem?_eq_getElem (by omega : i < xs.length)] at h0
  obtain ⟨z, e1, e2, _⟩ := DataW.trod_int Tryz.underlying138 h0
  refine ⟨z, ?_, ?_⟩
  · simp only [Prod.mk.injEq, DataW.agg.injEq] at hx
    have e3 : (D.map fun z => (DataW.lit (.int .u32 z) : DataW H))[i]? = (xs.map (·.1))[i]? := by rw [hx.1]
    rw [List.getElem?_map, List.getElem?_map, List.getElem?_eq_getElem (by omega : i < xs.length), e2] at e3
    cases hD : D[i]? with
    | none => rw [hD] at e3; cases e3
    | some y =>
      rw [hD] at e3
      simp at e3
      rw [e3]
  · have e3 : ((cs.drop i).take 1)[0]? = some (.int .u32 z) := by rw [e1]; rfl
    simpa using e3
theorem tbl_of_laid {W : World} (h : laidMetH Tryz.prog laidL W) : Tbl W := by
  rw [MakeChecks.laidMetH_plain _ _ _ (by kernel_rfl)] at h
  obtain ⟨ps, ⟨g0, t0, cs0, f0, p0, q0, hg0, ht0, hv0, hd0, ⟨g1, t1, cs1, f1, p1, q1, hg1, ht1, hv1, hd1, _, _⟩, _⟩, _, _⟩ := h
  obtain rfl := Option.some.inj (gSq.symm.trans hg0)
  obtain rfl := Option.some.inj (gCu.symm.trans hg1)
  obtain rfl := Option.some.inj (tSq.symm.trans ht0)
  obtain rfl := Option.some.inj (tCu.symm.trans ht1)
  rw [sqD_laid] at hd0
  rw [cuD_laid] at hd1
  refine ⟨fun i hi => ?_, fun i hi => ?_⟩
  · obtain ⟨z, e1, e2⟩ := arr_cells Tryz.underlying200 hd0 i hi
    rw [sqD_eq i hi] at e1
    rw [World.var?_cell hg0 hv0 i, Option.some.inj e1]
    simpa using e2
  · obtain ⟨z, e1, e2⟩ := arr_cells Tryz.underlying202 hd1 i hi
    rw [cuD_eq i hi] at e1
    rw [World.var?_cell hg1 hv1 i, Option.some.inj e1]
    simpa using e2
theorem door_met (os : Os) (args : Array Value) : laidMetH Tryz.prog laidL ((World.doorLaid Tryz.prog 4000 os).forCall (fun _ _ => 0) ⟨#[], args, []⟩).memory :=
  laidMetH_of_parts3 (fuel := 8) (laidMet_of_run' 8 (by kernel_rfl) (by kernel_rfl)) (by kernel_rfl) (by kernel_rfl)
end Go.Proofs.YteghoooelgcpkaaGreatDoor
namespace Go.Proofs.YteghoooelgcpkaaGreatDoor
open Go.ChangeShapes Go.WideShapes Go.ChangeAt Go.RowKit Go.Deep Go.Msg
theorem list6 {α : Type} {l : List α} (h : l.length = 6) : ∃ a b c d e f, l = [a, b, c, d, e, f] := by
  match l, h with
  | [a, b, c, d, e, f], _ => exact ⟨a, b, c, d, e, f, rfl⟩
theorem open_op {H : Type} {enc : TypeId × Value → H} {W : World} {spare : Nat → Bool} {held : Bool} {fuel : Nat} {a : Addr} {cs : List Value} {x : DataW H × List MemPlace}
    (hc : W.cells? 0 a 6 = some cs) (h : DataW.trod enc Tryz.prog W 0 spare held fuel 68 cs = some x) :
    ∃ (y : Int × Int × Int × Int × ByteArray × ByteArray), (W.cell? (a.add 0) = some (.int .i64 y.1) ∧ W.cell? (a.add 1) = some (.int .i64 y.2.1) ∧ W.cell? (a.add 2) = some (.int .i64 y.2.2.1) ∧ W.cell? (a.add 3) = some (.int .i64 y.2.2.2.1) ∧ W.cell? (a.add 4) = some (.string y.2.2.2.2.1) ∧ W.cell? (a.add 5) = some (.string y.2.2.2.2.2)) ∧
      (-9223372036854775808 ≤ y.2.1 ∧ y.2.1 ≤ 9223372036854775807) ∧ (-9223372036854775808 ≤ y.2.2.1 ∧ y.2.2.1 ≤ 9223372036854775807) ∧ (-9223372036854775808 ≤ y.2.2.2.1 ∧ y.2.2.2.1 ≤ 9223372036854775807) := by
  obtain ⟨xs, n, _, _, hl, hxl, hf⟩ := DataW.trod_struct Tryz.underlying68 h
  rw [cellsOp] at hl
  have g := World.cells?_some hc
  obtain ⟨c0, c1, c2, c3, c4, c5, rfl⟩ := list6 hl
  obtain ⟨x0, x1, x2, x3, x4, x5, rfl⟩ := list6 (show xs.length = 6 from hxl)
  have f0 : DataW.trod enc Tryz.prog W 0 spare held n 3 (([c0, c1, c2, c3, c4, c5].drop 0).take (Tryz.prog.cellsOf 3)) = some x0 := hf 0 _ rfl
  rw [cellsInt] at f0
  have f1 : DataW.trod enc Tryz.prog W 0 spare held n 3 (([c0, c1, c2, c3, c4, c5].drop 1).take (Tryz.prog.cellsOf 3)) = some x1 := hf 1 _ rfl
  rw [cellsInt] at f1
  have f2 : DataW.trod enc Tryz.prog W 0 spare held n 3 (([c0, c1, c2, c3, c4, c5].drop 2).take (Tryz.prog.cellsOf 3)) = some x2 := hf 2 _ rfl
  rw [cellsInt] at f2
  have f3 : DataW.trod enc Tryz.prog W 0 spare held n 3 (([c0, c1, c2, c3, c4, c5].drop 3).take (Tryz.prog.cellsOf 3)) = some x3 := hf 3 _ rfl
  rw [cellsInt] at f3
  have f4 : DataW.trod enc Tryz.prog W 0 spare held n 9 (([c0, c1, c2, c3, c4, c5].drop 4).take (Tryz.prog.cellsOf 9)) = some x4 := hf 4 _ rfl
  rw [cellsStr] at f4
  have f5 : DataW.trod enc Tryz.prog W 0 spare held n 9 (([c0, c1, c2, c3, c4, c5].drop 5).take (Tryz.prog.cellsOf 9)) = some x5 := hf 5 _ rfl
  rw [cellsStr] at f5
  obtain ⟨n0, e0, _, _⟩ := DataW.trod_int Tryz.underlying3 f0
  obtain ⟨n1, e1, _, w1⟩ := DataW.trod_int Tryz.underlying3 f1
  obtain ⟨n2, e2, _, w2⟩ := DataW.trod_int Tryz.underlying3 f2
  obtain ⟨n3, e3, _, w3⟩ := DataW.trod_int Tryz.underlying3 f3
  obtain ⟨s4, e4, _, z4⟩ := DataW.trod_string Tryz.underlying9 f4
  obtain ⟨s5, e5, _, _⟩ := DataW.trod_string Tryz.underlying9 f5
  simp at e0 e1 e2 e3 e4 e5
  subst e0 e1 e2 e3 e4 e5
  exact ⟨(n0, n1, n2, n3, s4, s5), ⟨g.2.2 0 (by omega), g.2.2 1 (by omega), g.2.2 2 (by omega), g.2.2 3 (by omega), g.2.2 4 (by omega), g.2.2 5 (by omega)⟩, bounds_i64 w1, bounds_i64 w2, bounds_i64 w3⟩
theorem open_script {H : Type} {enc : TypeId × Value → H} {W : World} {a0 : Option Addr} {len cap : Nat} {d : DataW H} {p : List MemPlace}
    (h : DataW.Trod enc Tryz.prog W 0 (fun _ => true) true 40 (.slice a0 len cap) d p) :
    ∃ (b off : Nat) (o : Ops), (0 < len → a0 = some ⟨b, off, none⟩) ∧ len ≤ 9223372036854775807 ∧ (∀ i, i < len → OpAt W b off o i) ∧ OpsOk o len := by
  obtain ⟨fuel, hf⟩ := h
  have dummy : ∃ (b off : Nat) (o : Ops), (0 < 0 → (none : Option Addr) = some ⟨b, off, none⟩) ∧ OpsOk o 0 := ⟨0, 0, ⟨fun _ => 0, fun _ => 0, fun _ => 0, fun _ => 0, fun _ => ⟨#[]⟩, fun _ => ⟨#[]⟩⟩, fun h => absurd h (by omega), fun i hi => absurd hi (by omega), fun i hi => absurd hi (by omega), fun i hi => absurd hi (by omega)⟩
  rcases open_slice Tryz.underlying40 hf with ⟨hcs, _⟩ | ⟨a, l, c, m, n, D, Pl, hcs, _, hl, hm, hmm, _, hel⟩
  · simp [Value.cells] at hcs
    obtain ⟨rfl, rfl, rfl⟩ := hcs
    obtain ⟨b, off, o, _, ho⟩ := dummy
    exact ⟨b, off, o, fun h => absurd h (by omega), by omega, fun i hi => absurd hi (by omega), ho⟩
  · simp [Value.cells] at hcs
    obtain ⟨rfl, rfl, rfl⟩ := hcs
    have hlm : len ≤ m := by rw [hmm]; split <;> omega
    have hmax : len ≤ 9223372036854775807 := by have : maxLen = 9223372036854775807 := by decide
                                                omega
    rw [cellsOp] at hel
    obtain ⟨y, hy⟩ := choose_lt (n := len) (fun i hi => by
      obtain ⟨cs, hc, ht⟩ := hel i (by omega)
      exact open_op hc ht)
    obtain ⟨b, off, spot⟩ := a
    by_cases h0 : len = 0
    · subst h0
      obtain ⟨b, off, o, _, ho⟩ := dummy
      exact ⟨b, off, o, fun h => absurd h (by omega), by omega, fun i hi => absurd hi (by omega), ho⟩
    · have hspot : spot = none := by simpa [Addr.add] using World.cell?_spot (hy 0 (by omega)).1.1
      subst hspot
      have e : ∀ i j, ((⟨b, off, none⟩ : Addr).add (i * 6)).add j = ⟨b, off + i * 6 + j, none⟩ := fun i j => by rw [Addr.add_mid, Addr.add_mid]
      refine ⟨b, off, ⟨fun i => (y i).1, fun i => (y i).2.1, fun i => (y i).2.2.1, fun i => (y i).2.2.2.1, fun i => (y i).2.2.2.2.1, fun i => (y i).2.2.2.2.2⟩, fun _ => rfl, hmax, fun i hi => ?_, fun i hi => (hy i hi).2.1, fun i hi => (hy i hi).2.2.1, fun i hi => (hy i hi).2.2.2⟩
      obtain ⟨⟨k0, k1, k2, k3, k4, k5⟩, _, _, _⟩ := hy i hi
      rw [e] at k0 k1 k2 k3 k4 k5
      exact ⟨k0, k1, k2, k3, k4, k5⟩
set_option maxHeartbeats 1000000 in
theorem first_f (at0 : Option Addr) (b off n cap : Nat) (o : Ops) (w : World) (hat : 0 < n → at0 = some ⟨b, off, none⟩) (hn : n ≤ 9223372036854775807) (hO : ∀ i, i < n → OpAt w b off o i) (hok : OpsOk o n) (hT : Tbl w) (lo hi : Int) :
    Calls Tryz.prog 22 #[.slice at0 n cap, .int .i64 lo, .int .i64 hi] w fun e w' => e = .returned (.bool true) ∧ Below w.heap.size w w' := by
  have HM := Hid.mk (upto_f at0 b off n cap o w hat hn hO hok hT)
  clear hat hO hok hT
  go_enter Tryz.func22, Tryz.ntmps22
  go_wp2_with (first | (go_at_call 37; with_reducible refine HM.out.mono ?_; rintro e W1 ⟨rfl, hb⟩) | fail)
  go_ret
  exact ⟨rfl, hb⟩
end Go.Proofs.YteghoooelgcpkaaGreatDoor
