import Derived.Test.YteghoooelgcpkaaGreatDoorRows
import Derived.Test.YteghoooelgcpkaaGreatDoorTie
import Derived.Test.YteghoooelgcpkaaGreatDoorCards
import Derived.Test.YteghoooelgcpkaaGreatDoorM33
import Derived.WalkKit
import Derived.ProofKit
import Derived.OpenShut
import Derived.ShutString
import Derived.ChangeOld
import Derived.Below
import Derived.LaidMore
import Derived.Stop.Joined
import Derived.SevenTiedAt
import Derived.Deep.Slices
namespace Go.Proofs.YteghoooelgcpkaaGreatDoor
open Go.ChangeShapes Go.WideShapes Go.ChangeAt Go.RowKit Go.Deep Go.Msg
theorem own0 : ownKnob Tryz.prog.godebug = none := by kernel_rfl
theorem laidOut0 : laidOutB Tryz.prog = true := by kernel_rfl
theorem cellsOp : Tryz.prog.cellsOf 25 = 6 := by kernel_rfl
theorem cellsInt : Tryz.prog.cellsOf 3 = 1 := by kernel_rfl
theorem cellsStr : Tryz.prog.cellsOf 9 = 1 := by kernel_rfl
theorem cellsU32 : Tryz.prog.cellsOf 138 = 1 := by kernel_rfl
abbrev laidL : List (String × DataW Unit) := [("messenger/digest.squares", Rows.laid_messenger_digest_squares), ("messenger/digest.cubes", Rows.laid_messenger_digest_cubes)]
theorem gSq : Tryz.prog.globalNamed "messenger/digest.squares" = some 0 := by kernel_rfl
theorem gCu : Tryz.prog.globalNamed "messenger/digest.cubes" = some 1 := by kernel_rfl
theorem tSq : (Tryz.prog.globals[0]?).map (·.type) = some 200 := by kernel_rfl
theorem tCu : (Tryz.prog.globals[1]?).map (·.type) = some 202 := by kernel_rfl
def sqD : List Int := [1779033703, 3144134277, 1013904242, 2773480762, 1359893119, 2600822924, 528734635, 1541459225]
def cuD : List Int := [1116352408, 1899447441, 3049323471, 3921009573, 961987163, 1508970993, 2453635748, 2870763221, 3624381080, 310598401, 607225278, 1426881987, 1925078388, 2162078206, 2614888103, 3248222580, 3835390401, 4022224774, 264347078, 604807628, 770255983, 1249150122, 1555081692, 1996064986, 2554220882, 2821834349, 2952996808, 3210313671, 3336571891, 3584528711, 113926993, 338241895, 666307205, 773529912, 1294757372, 1396182291, 1695183700, 1986661051, 2177026350, 2456956037, 2730485921, 2820302411, 3259730800, 3345764771, 3516065817, 3600352804, 4094571909, 275423344, 430227734, 506948616, 659060556, 883997877, 958139571, 1322822218, 1537002063, 1747873779, 1955562222, 2024104815, 2227730452, 2361852424, 2428436474, 2756734187, 3204031479, 3329325298]
theorem sqD_eq : ∀ i, i < 8 → sqD[i]? = some (Hc i) := by decide +kernel
theorem cuD_eq : ∀ i, i < 64 → cuD[i]? = some (Kc i) := by decide +kernel
theorem sqD_laid : (Rows.laid_messenger_digest_squares : DataW Unit) = .agg (sqD.map fun z => .lit (.int .u32 z)) := rfl
theorem cuD_laid : (Rows.laid_messenger_digest_cubes : DataW Unit) = .agg (cuD.map fun z => .lit (.int .u32 z)) := rfl
theorem arr_cells {H : Type} {enc : TypeId × Value → H} {W : World} {base fuel n : Nat} {spare : Nat → Bool} {held : Bool} {T : TypeId} {cs : List Value} {D : List Int} {p : List MemPlace} (hu : Tryz.prog.underlying T = some (.array n 138)) (h : DataW.trod enc Tryz.prog W base spare held fuel T cs = some (.agg (D.map fun z => .lit (.int .u32 z)), p)) (i : Nat) (hi : i < n) : ∃ z, D[i]? = some z ∧ cs[i]? = some (.int .u32 z) := by
  obtain ⟨xs, m, rfl, hx, hlen, hn, hel⟩ := DataW.trod_array hu h
  have h0 := hel i hi
  rw [cellsU32, Nat.mul_one, List.getElem?_eq_getElem (by omega : i < xs.length)] at h0
  obtain ⟨z, e1, e2, _⟩ := DataW.trod_int Tryz.underlying138 h0
  refine ⟨z, ?_, ?_⟩
  · simp only [Prod.mk.injEq, DataW.agg.injEq] at hx
    have e3 : (D.map fun z => (DataW.lit (.int .u32 z) : DataW H))[i]? = (xs.map (·.1))[i]? := by rw [hx.1]
    rw [List.getElem?_map, List.getElem?_map, List.getElem?_eq_getElem (by omega : i < xs.length), e2] at e3
    cases hD : D[i]? with
    | none => rw [hD] at e3; cases e3
    | some y =>
      rw [hD] at e3
      simp at e3
      rw [e3]
  · have e3 : ((cs.drop i).take 1)[0]? = some (.int .u32 z) := by rw [e1]; rfl
    simpa using e3
theorem tbl_of_laid {W : World} (h : laidMetH Tryz.prog laidL W) : Tbl W := by
  rw [MakeChecks.laidMetH_plain _ _ _ (by kernel_rfl)] at h
  obtain ⟨ps, ⟨g0, t0, cs0, f0, p0, q0, hg0, ht0, hv0, hd0, ⟨g1, t1, cs1, f1, p1, q1, hg1, ht1, hv1, hd1, _, _⟩, _⟩, _, _⟩ := h
  obtain rfl := Option.some.inj (gSq.symm.trans hg0)
  obtain rfl := Option.some.inj (gCu.symm.trans hg1)
  obtain rfl := Option.some.inj (tSq.symm.trans ht0)
  obtain rfl := Option.some.inj (tCu.symm.trans ht1)
  rw [sqD_laid] at hd0
  rw [cuD_laid] at hd1
  refine ⟨fun i hi => ?_, fun i hi => ?_⟩
  · obtain ⟨z, e1, e2⟩ := arr_cells Tryz.underlying200 hd0 i hi
    rw [sqD_eq i hi] at e1
    rw [World.var?_cell hg0 hv0 i, Option.some.inj e1]
    simpa using e2
  · obtain ⟨z, e1, e2⟩ := arr_cells Tryz.underlying202 hd1 i hi
    rw [cuD_eq i hi] at e1
    rw [World.var?_cell hg1 hv1 i, Option.some.inj e1]
    simpa using e2
theorem door_met (os : Os) (args : Array Value) : laidMetH Tryz.prog laidL ((World.doorLaid Tryz.prog 4000 os).forCall (fun _ _ => 0) ⟨#[], args, []⟩).memory :=
  laidMetH_of_parts3 (fuel := 8) (laidMet_of_run' 8 (by kernel_rfl) (by kernel_rfl)) (by kernel_rfl) (by kernel_rfl)
end Go.Proofs.YteghoooelgcpkaaGreatDoor
