import Derived.Test.YteghoooelgcpkaaGreatDoorRows
import Derived.Test.YteghoooelgcpkaaGreatDoorTie
import Derived.Test.YteghoooelgcpkaaGreatDoorCards
import Derived.WalkKit
import Derived.ProofKit
import Derived.OpenShut
import Derived.ShutString
import Derived.ChangeOld
import Derived.Below
import Derived.LaidMore
import Derived.Stop.Joined
import Derived.SevenTiedAt
import Derived.Deep.Slices
import Derived.Test.YteghoooelgcpkaaGreatDoorM38
namespace Go.Proofs.YteghoooelgcpkaaGreatDoor
open Go.ChangeShapes Go.WideShapes Go.ChangeAt Go.RowKit Go.Deep Go.Msg
theorem own0 : ownKnob Tryz.prog.godebug = none := by kernel_rfl
theorem laidOut0 : laidOutB Tryz.prog = true := by kernel_rfl
theorem cellsOp : Tryz.prog.cellsOf 25 = 6 := by kernel_rfl
theorem cellsInt : Tryz.prog.cellsOf 3 = 1 := by kernel_rfl
theorem cellsStr : Tryz.prog.cellsOf 9 = 1 := by kernel_rfl
theorem cellsU32 : Tryz.prog.cellsOf 138 = 1 := by kernel_rfl
abbrev laidL : List (String × DataW Unit) := [("messenger/digest.squares", Rows.laid_messenger_digest_squares), ("messenger/digest.cubes", Rows.laid_messenger_digest_cubes)]
theorem gSq : Tryz.prog.globalNamed "messenger/digest.squares" = some 0 := by kernel_rfl
theorem gCu : Tryz.prog.globalNamed "messenger/digest.cubes" = some 1 := by kernel_rfl
theorem tSq : (Tryz.prog.globals[0]?).map (·.type) = some 200 := by kernel_rfl
theorem tCu : (Tryz.prog.globals[1]?).map (·.type) = some 202 := by kernel_rfl
def sqD : List Int := [1779033703, 3144134277, 1013904242, 2773480762, 1359893119, 2600822924, 528734635, 1541459225]
def cuD : List Int := [1116352408, 1899447441, 3049323471, 3921009573, 961987163, 1508970993, 2453635748, 2870763221, 3624381080, 310598401, 607225278, 1426881987, 1925078388, 2162078206, 2614888103, 3248222580, 3835390401, 4022224774, 264347078, 604807628, 770255983, 1249150122, 1555081692, 1996064986, 2554220882, 2821834349, 2952996808, 3210313671, 3336571891, 3584528711, 113926993, 338241895, 666307205, 773529912, 1294757372, 1396182291, 1695183700, 1986661051, 2177026350, 2456956037, 2730485921, 2820302411, 3259730800, 3345764771, 3516065817, 3600352804, 4094571909, 275423344, 430227734, 506948616, 659060556, 883997877, 958139571, 1322822218, 1537002063, 1747873779, 1955562222, 2024104815, 2227730452, 2361852424, 2428436474, 2756734187, 3204031479, 3329325298]
theorem sqD_eq : ∀ i, i < 8 → sqD[i]? = some (Hc i) := by decide +kernel
theorem cuD_eq : ∀ i, i < 64 → cuD[i]? = some (Kc i) := by decide +kernel
theorem sqD_laid : (Rows.laid_messenger_digest_squares : DataW Unit) = .agg (sqD.map fun z => .lit (.int .u32 z)) := rfl
theorem cuD_laid : (Rows.laid_messenger_digest_cubes : DataW Unit) = .agg (cuD.map fun z => .lit (.int .u32 z)) := rfl
theorem arr_cells {H : Type} {enc : TypeId × Value → H} {W : World} {base fuel n : Nat} {spare : Nat → Bool} {held : Bool} {T : TypeId} {cs : List Value} {D : List Int} {p : List MemPlace} (hu : Tryz.prog.underlying T = some (.array n 138)) (h : DataW.trod enc Tryz.prog W base spare held fuel T cs = some (.agg (D.map fun z => .lit (.int .u32 z)), p)) (i : Nat) (hi : i < n) : ∃ z, D[i]? = some z ∧ cs[i]? = some (.int .u32 z) := by
  obtain ⟨xs, m, rfl, hx, hlen, hn, hel⟩ := DataW.trod_array hu h
  have h0 := hel i hi
  rw [cellsU32, Nat.mul_one, List.getElem?_eq_getElem (by omega : i < xs.length)] at h0
  obtain ⟨z, e1, e2, _⟩ := DataW.trod_int Tryz.underlying138 h0
  refine ⟨z, ?_, ?_⟩
  · simp only [Prod.mk.injEq, DataW.agg.injEq] at hx
    have e3 : (D.map fun z => (DataW.lit (.int .u32 z) : DataW H))[i]? = (xs.map (·.1))[i]? := by rw [hx.1]
    rw [List.getElem?_map, List.getElem?_map, List.getElem?_eq_getElem (by omega : i < xs.length), e2] at e3
    cases hD : D[i]? with
    | none => rw [hD] at e3; cases e3
    | some y =>
      rw [hD] at e3
      simp at e3
      rw [e3]
  · have e3 : ((cs.drop i).take 1)[0]? = some (.int .u32 z) := by rw [e1]; rfl
    simpa using e3
theorem tbl_of_laid {W : World} (h : laidMetH Tryz.prog laidL W) : Tbl W := by
  rw [MakeChecks.laidMetH_plain _ _ _ (by kernel_rfl)] at h
  obtain ⟨ps, ⟨g0, t0, cs0, f0, p0, q0, hg0, ht0, hv0, hd0, ⟨g1, t1, cs1, f1, p1, q1, hg1, ht1, hv1, hd1, _, _⟩, _⟩, _, _⟩ := h
  obtain rfl := Option.some.inj (gSq.symm.trans hg0)
  obtain rfl := Option.some.inj (gCu.symm.trans hg1)
  obtain rfl := Option.some.inj (tSq.symm.trans ht0)
  obtain rfl := Option.some.inj (tCu.symm.trans ht1)
  rw [sqD_laid] at hd0
  rw [cuD_laid] at hd1
  refine ⟨fun i hi => ?_, fun i hi => ?_⟩
  · obtain ⟨z, e1, e2⟩ := arr_cells Tryz.underlying200 hd0 i hi
    rw [sqD_eq i hi] at e1
    rw [World.var?_cell hg0 hv0 i, Option.some.inj e1]
    simpa using e2
  · obtain ⟨z, e1, e2⟩ := arr_cells Tryz.underlying202 hd1 i hi
    rw [cuD_eq i hi] at e1
    rw [World.var?_cell hg1 hv1 i, Option.some.inj e1]
    simpa using e2
theorem door_met (os : Os) (args : Array Value) : laidMetH Tryz.prog laidL ((World.doorLaid Tryz.prog 4000 os).forCall (fun _ _ => 0) ⟨#[], args, []⟩).memory :=
  laidMetH_of_parts3 (fuel := 8) (laidMet_of_run' 8 (by kernel_rfl) (by kernel_rfl)) (by kernel_rfl) (by kernel_rfl)
end Go.Proofs.YteghoooelgcpkaaGreatDoor
namespace Go.Proofs.YteghoooelgcpkaaGreatDoor
open Go.ChangeShapes Go.WideShapes Go.ChangeAt Go.RowKit Go.Deep Go.Msg
theorem list6 {α : Type} {l : List α} (h : l.length = 6) : ∃ a b c d e f, l = [a, b, c, d, e, f] := by
  match l, h with
  | [a, b, c, d, e, f], _ => exact ⟨a, b, c, d, e, f, rfl⟩
theorem open_op {H : Type} {enc : TypeId × Value → H} {W : World} {spare : Nat → Bool} {held : Bool} {fuel : Nat} {a : Addr} {cs : List Value} {x : DataW H × List MemPlace}
    (hc : W.cells? 0 a 6 = some cs) (h : DataW.trod enc Tryz.prog W 0 spare held fuel 25 cs = some x) :
    ∃ (y : Int × Int × Int × Int × ByteArray × ByteArray), (W.cell? (a.add 0) = some (.int .i64 y.1) ∧ W.cell? (a.add 1) = some (.int .i64 y.2.1) ∧ W.cell? (a.add 2) = some (.int .i64 y.2.2.1) ∧ W.cell? (a.add 3) = some (.int .i64 y.2.2.2.1) ∧ W.cell? (a.add 4) = some (.string y.2.2.2.2.1) ∧ W.cell? (a.add 5) = some (.string y.2.2.2.2.2)) ∧
      (-9223372036854775808 ≤ y.2.1 ∧ y.2.1 ≤ 9223372036854775807) ∧ (-9223372036854775808 ≤ y.2.2.1 ∧ y.2.2.1 ≤ 9223372036854775807) ∧ y.2.2.2.2.1.size ≤ 9223372036854775807 := by
  obtain ⟨xs, n, _, _, hl, hxl, hf⟩ := DataW.trod_struct Tryz.underlying25 h
  rw [cellsOp] at hl
  have g := World.cells?_some hc
  obtain ⟨c0, c1, c2, c3, c4, c5, rfl⟩ := list6 hl
  obtain ⟨x0, x1, x2, x3, x4, x5, rfl⟩ := list6 (show xs.length = 6 from hxl)
  have f0 : DataW.trod enc Tryz.prog W 0 spare held n 3 (([c0, c1, c2, c3, c4, c5].drop 0).take (Tryz.prog.cellsOf 3)) = some x0 := hf 0 _ rfl
  rw [cellsInt] at f0
  have f1 : DataW.trod enc Tryz.prog W 0 spare held n 3 (([c0, c1, c2, c3, c4, c5].drop 1).take (Tryz.prog.cellsOf 3)) = some x1 := hf 1 _ rfl
  rw [cellsInt] at f1
  have f2 : DataW.trod enc Tryz.prog W 0 spare held n 3 (([c0, c1, c2, c3, c4, c5].drop 2).take (Tryz.prog.cellsOf 3)) = some x2 := hf 2 _ rfl
  rw [cellsInt] at f2
  have f3 : DataW.trod enc Tryz.prog W 0 spare held n 3 (([c0, c1, c2, c3, c4, c5].drop 3).take (Tryz.prog.cellsOf 3)) = some x3 := hf 3 _ rfl
  rw [cellsInt] at f3
  have f4 : DataW.trod enc Tryz.prog W 0 spare held n 9 (([c0, c1, c2, c3, c4, c5].drop 4).take (Tryz.prog.cellsOf 9)) = some x4 := hf 4 _ rfl
  rw [cellsStr] at f4
  have f5 : DataW.trod enc Tryz.prog W 0 spare held n 9 (([c0, c1, c2, c3, c4, c5].drop 5).take (Tryz.prog.cellsOf 9)) = some x5 := hf 5 _ rfl
  rw [cellsStr] at f5
  obtain ⟨n0, e0, _, _⟩ := DataW.trod_int Tryz.underlying3 f0
  obtain ⟨n1, e1, _, w1⟩ := DataW.trod_int Tryz.underlying3 f1
  obtain ⟨n2, e2, _, w2⟩ := DataW.trod_int Tryz.underlying3 f2
  obtain ⟨n3, e3, _, _⟩ := DataW.trod_int Tryz.underlying3 f3
  obtain ⟨s4, e4, _, z4⟩ := DataW.trod_string Tryz.underlying9 f4
  obtain ⟨s5, e5, _, _⟩ := DataW.trod_string Tryz.underlying9 f5
  simp at e0 e1 e2 e3 e4 e5
  subst e0 e1 e2 e3 e4 e5
  exact ⟨(n0, n1, n2, n3, s4, s5), ⟨g.2.2 0 (by omega), g.2.2 1 (by omega), g.2.2 2 (by omega), g.2.2 3 (by omega), g.2.2 4 (by omega), g.2.2 5 (by omega)⟩, bounds_i64 w1, bounds_i64 w2, z4⟩
theorem open_script {H : Type} {enc : TypeId × Value → H} {W : World} {a0 : Option Addr} {len cap : Nat} {d : DataW H} {p : List MemPlace}
    (h : DataW.Trod enc Tryz.prog W 0 (fun _ => true) true 22 (.slice a0 len cap) d p) :
    ∃ (b off : Nat) (o : Ops), (0 < len → a0 = some ⟨b, off, none⟩) ∧ len ≤ 9223372036854775807 ∧ (∀ i, i < len → OpAt W b off o i) ∧ OpsOk o len := by
  obtain ⟨fuel, hf⟩ := h
  have dummy : ∃ (b off : Nat) (o : Ops), (0 < 0 → (none : Option Addr) = some ⟨b, off, none⟩) ∧ OpsOk o 0 := ⟨0, 0, ⟨fun _ => 0, fun _ => 0, fun _ => 0, fun _ => 0, fun _ => ⟨#[]⟩, fun _ => ⟨#[]⟩⟩, fun h => absurd h (by omega), fun i hi => absurd hi (by omega), fun i hi => absurd hi (by omega), fun i hi => absurd hi (by omega)⟩
  rcases open_slice Tryz.underlying22 hf with ⟨hcs, _⟩ | ⟨a, l, c, m, n, D, Pl, hcs, _, hl, hm, hmm, _, hel⟩
  · simp [Value.cells] at hcs
    obtain ⟨rfl, rfl, rfl⟩ := hcs
    obtain ⟨b, off, o, _, ho⟩ := dummy
    exact ⟨b, off, o, fun h => absurd h (by omega), by omega, fun i hi => absurd hi (by omega), ho⟩
  · simp [Value.cells] at hcs
    obtain ⟨rfl, rfl, rfl⟩ := hcs
    have hlm : len ≤ m := by rw [hmm]; split <;> omega
    have hmax : len ≤ 9223372036854775807 := by have : maxLen = 9223372036854775807 := by decide
                                                omega
    rw [cellsOp] at hel
    obtain ⟨y, hy⟩ := choose_lt (n := len) (fun i hi => by
      obtain ⟨cs, hc, ht⟩ := hel i (by omega)
      exact open_op hc ht)
    obtain ⟨b, off, spot⟩ := a
    by_cases h0 : len = 0
    · subst h0
      obtain ⟨b, off, o, _, ho⟩ := dummy
      exact ⟨b, off, o, fun h => absurd h (by omega), by omega, fun i hi => absurd hi (by omega), ho⟩
    · have hspot : spot = none := by simpa [Addr.add] using World.cell?_spot (hy 0 (by omega)).1.1
      subst hspot
      have e : ∀ i j, ((⟨b, off, none⟩ : Addr).add (i * 6)).add j = ⟨b, off + i * 6 + j, none⟩ := fun i j => by rw [Addr.add_mid, Addr.add_mid]
      refine ⟨b, off, ⟨fun i => (y i).1, fun i => (y i).2.1, fun i => (y i).2.2.1, fun i => (y i).2.2.2.1, fun i => (y i).2.2.2.2.1, fun i => (y i).2.2.2.2.2⟩, fun _ => rfl, hmax, fun i hi => ?_, fun i hi => (hy i hi).2.1, fun i hi => (hy i hi).2.2.1, fun i hi => (hy i hi).2.2.2⟩
      obtain ⟨⟨k0, k1, k2, k3, k4, k5⟩, _, _, _⟩ := hy i hi
      rw [e] at k0 k1 k2 k3 k4 k5
      exact ⟨k0, k1, k2, k3, k4, k5⟩
set_option maxHeartbeats 1000000 in
theorem first_f (at0 : Option Addr) (b off n cap : Nat) (o : Ops) (w : World) (hat : 0 < n → at0 = some ⟨b, off, none⟩) (hn : n ≤ 9223372036854775807) (hO : ∀ i, i < n → OpAt w b off o i) (hok : OpsOk o n) (hT : Tbl w) (lo hi : Int) :
    Calls Tryz.prog 16 #[.slice at0 n cap, .int .i64 lo, .int .i64 hi] w fun e w' => e = .returned (.bool true) ∧ Below w.heap.size w w' := by
  have HM := Hid.mk (upto_f at0 b off n cap o w hat hn hO hok hT)
  clear hat hO hok hT
  go_enter Tryz.func16, Tryz.ntmps16
  go_wp2_with (first | (go_at_call 15; with_reducible refine HM.out.mono ?_; rintro e W1 ⟨rfl, hb⟩) | fail)
  go_ret
  exact ⟨rfl, hb⟩
end Go.Proofs.YteghoooelgcpkaaGreatDoor
