/- The walks of the document's own answer: doubling, and sums whose difference is known. -/
import Derived.Test.YtogkchcclcbobaaRf6
namespace Go.Proofs.Ytogkchcclcbobaa
open Go.RowKit Go.Msg

theorem res_eq {w : World} {v : Value} {x y : Int} (h : Res w v (x % P25519)) (e : Eqv x y) : Res w v (y % P25519) := by
  rw [show x % P25519 = y % P25519 from e] at h; exact h
theorem arr_four : #[Value.int IntKind.i64 4] = tab .i64 1 (fun _ => 4) := by rw [tab_eq]; rfl
theorem by_alloc (w : World) (o : Obj) : Below w.heap.size w (w.alloc o) := (Below.refl _ _).alloc (Nat.le_refl _) _
theorem four_num (w : World) (t : Nat) : Res (w.alloc (.cells (tab .i64 1 (fun _ => 4)) t)) (.slice (some ⟨w.heap.size, 0, none⟩) 1 1) 4 :=
  ⟨⟨1, fun _ => 4, NumAt.of_row (N := 1) (F := fun _ => 4) (by simp [go_sem]) (by omega) (by omega) (fun _ _ => rfl), fun _ _ => by simp, fun _ => by decide, by decide⟩, by decide⟩
set_option maxHeartbeats 2000000 in
theorem between_any {w : World} {vu : Value} {u : Int} (hu : Res w vu u) {vx : Value} {x : Int} (hx : Res w vx x) {vz : Value} {z : Int} (hz : Res w vz z) {vp : Value} {p : Int} (hp : Res w vp p) {vq : Value} {q : Int} (hq : Res w vq q) :
    Calls Try.prog 63 #[vu, vx, vz, vp, vq] w fun e w' => ∃ v v', e = .returned (.tuple #[v, v']) ∧ Res w' v (bt1 x z p q % P25519) ∧ Res w' v' (bt2 u x z p q % P25519) ∧ Below w.heap.size w w' := by
  have B0 := Below.refl w.heap.size w
  have s0 : w.heap.size ≤ w.heap.size := Nat.le_refl _
  go_enter Try.func63, Try.ntmps63
  go_wp2_with (first
    | (go_at_call 66; have M := mul_any hx hp; with_reducible refine M.mono ?_; clear M; rintro e W1 ⟨va, rfl, ha, hZ⟩; replace hu := hu.below hZ; replace hx := hx.below hZ; replace hz := hz.below hZ; replace hp := hp.below hZ; replace hq := hq.below hZ; replace B0 := below_lift B0 s0 hZ; replace s0 := B0.size; clear hZ)
    | (go_at_call 66; have M := mul_any hz hq; with_reducible refine M.mono ?_; clear M; rintro e W2 ⟨vb, rfl, hb, hZ⟩; replace hu := hu.below hZ; replace hx := hx.below hZ; replace hz := hz.below hZ; replace hp := hp.below hZ; replace hq := hq.below hZ; replace ha := ha.below hZ; replace B0 := below_lift B0 s0 hZ; replace s0 := B0.size; clear hZ)
    | (go_at_call 74; have M := sub_any ha hb; with_reducible refine M.mono ?_; clear M; rintro e W3 ⟨va2, rfl, ha2, hZ⟩; replace hu := hu.below hZ; replace hx := hx.below hZ; replace hz := hz.below hZ; replace hp := hp.below hZ; replace hq := hq.below hZ; replace ha := ha.below hZ; replace hb := hb.below hZ; replace B0 := below_lift B0 s0 hZ; replace s0 := B0.size; clear hZ)
    | (go_at_call 66; have M := mul_any ha2 ha2; with_reducible refine M.mono ?_; clear M; rintro e W4 ⟨va3, rfl, ha3, hZ⟩; replace hu := hu.below hZ; replace hx := hx.below hZ; replace hz := hz.below hZ; replace hp := hp.below hZ; replace hq := hq.below hZ; replace ha := ha.below hZ; replace hb := hb.below hZ; replace ha2 := ha2.below hZ; replace B0 := below_lift B0 s0 hZ; replace s0 := B0.size; clear hZ)
    | (go_at_call 66; have M := mul_any hx hq; with_reducible refine M.mono ?_; clear M; rintro e W5 ⟨vc, rfl, hc, hZ⟩; replace hu := hu.below hZ; replace hx := hx.below hZ; replace hz := hz.below hZ; replace hp := hp.below hZ; replace hq := hq.below hZ; replace ha := ha.below hZ; replace hb := hb.below hZ; replace ha2 := ha2.below hZ; replace ha3 := ha3.below hZ; replace B0 := below_lift B0 s0 hZ; replace s0 := B0.size; clear hZ)
    | (go_at_call 66; have M := mul_any hz hp; with_reducible refine M.mono ?_; clear M; rintro e W6 ⟨vd, rfl, hd, hZ⟩; replace hu := hu.below hZ; replace hx := hx.below hZ; replace hz := hz.below hZ; replace hp := hp.below hZ; replace hq := hq.below hZ; replace ha := ha.below hZ; replace hb := hb.below hZ; replace ha2 := ha2.below hZ; replace ha3 := ha3.below hZ; replace hc := hc.below hZ; replace B0 := below_lift B0 s0 hZ; replace s0 := B0.size; clear hZ)
    | (go_at_call 74; have M := sub_any hc hd; with_reducible refine M.mono ?_; clear M; rintro e W7 ⟨vc2, rfl, hc2, hZ⟩; replace hu := hu.below hZ; replace hx := hx.below hZ; replace hz := hz.below hZ; replace hp := hp.below hZ; replace hq := hq.below hZ; replace ha := ha.below hZ; replace hb := hb.below hZ; replace ha2 := ha2.below hZ; replace ha3 := ha3.below hZ; replace hc := hc.below hZ; replace hd := hd.below hZ; replace B0 := below_lift B0 s0 hZ; replace s0 := B0.size; clear hZ)
    | (go_at_call 66; have M := mul_any hc2 hc2; with_reducible refine M.mono ?_; clear M; rintro e W8 ⟨vc3, rfl, hc3, hZ⟩; replace hu := hu.below hZ; replace hx := hx.below hZ; replace hz := hz.below hZ; replace hp := hp.below hZ; replace hq := hq.below hZ; replace ha := ha.below hZ; replace hb := hb.below hZ; replace ha2 := ha2.below hZ; replace ha3 := ha3.below hZ; replace hc := hc.below hZ; replace hd := hd.below hZ; replace hc2 := hc2.below hZ; replace B0 := below_lift B0 s0 hZ; replace s0 := B0.size; clear hZ)
    | (go_at_call 66; have M := mul_any hc3 hu; with_reducible refine M.mono ?_; clear M; rintro e W9 ⟨vc4, rfl, hc4, hZ⟩; replace hu := hu.below hZ; replace hx := hx.below hZ; replace hz := hz.below hZ; replace hp := hp.below hZ; replace hq := hq.below hZ; replace ha := ha.below hZ; replace hb := hb.below hZ; replace ha2 := ha2.below hZ; replace ha3 := ha3.below hZ; replace hc := hc.below hZ; replace hd := hd.below hZ; replace hc2 := hc2.below hZ; replace hc3 := hc3.below hZ; replace B0 := below_lift B0 s0 hZ; replace s0 := B0.size; clear hZ))
  go_ret2
  have e1 : Eqv ((x * p % P25519 - z * q % P25519) % P25519) (x * p - z * q) := (Eqv.mod _).trans ((Eqv.mod _).sub (Eqv.mod _))
  have e2 : Eqv ((x * q % P25519 - z * p % P25519) % P25519) (x * q - z * p) := (Eqv.mod _).trans ((Eqv.mod _).sub (Eqv.mod _))
  have f1 := e1.mul e1
  have f2 := (((Eqv.mod _).trans (e2.mul e2)).mul (Eqv.refl u)).trans (Eqv.of_eq (Int.mul_comm _ _))
  exact ⟨_, _, rfl, res_eq ha3 f1, res_eq hc4 f2, B0⟩
set_option maxHeartbeats 2000000 in
theorem twice_any {w : World} {vx : Value} {x : Int} (hx : Res w vx x) {vz : Value} {z : Int} (hz : Res w vz z) :
    Calls Try.prog 64 #[vx, vz] w fun e w' => ∃ v v', e = .returned (.tuple #[v, v']) ∧ Res w' v (tw1 x z % P25519) ∧ Res w' v' (tw2 x z % P25519) ∧ Below w.heap.size w w' := by
  have B0 := Below.refl w.heap.size w
  have s0 : w.heap.size ≤ w.heap.size := Nat.le_refl _
  go_enter Try.func64, Try.ntmps64
  go_wp2_with (first
    | (go_at_call 66; have M := mul_any hx hx; with_reducible refine M.mono ?_; clear M; rintro e W1 ⟨va, rfl, ha, hZ⟩; replace hx := hx.below hZ; replace hz := hz.below hZ; replace B0 := below_lift B0 s0 hZ; replace s0 := B0.size; clear hZ)
    | (go_at_call 66; have M := mul_any hz hz; with_reducible refine M.mono ?_; clear M; rintro e W2 ⟨vb, rfl, hb, hZ⟩; replace hx := hx.below hZ; replace hz := hz.below hZ; replace ha := ha.below hZ; replace B0 := below_lift B0 s0 hZ; replace s0 := B0.size; clear hZ)
    | (go_at_call 66; have M := mul_any hx hz; with_reducible refine M.mono ?_; clear M; rintro e W3 ⟨vc, rfl, hc, hZ⟩; replace hx := hx.below hZ; replace hz := hz.below hZ; replace ha := ha.below hZ; replace hb := hb.below hZ; replace B0 := below_lift B0 s0 hZ; replace s0 := B0.size; clear hZ)
    | (go_at_call 74; have M := sub_any ha hb; with_reducible refine M.mono ?_; clear M; rintro e W4 ⟨vd, rfl, hd, hZ⟩; replace hx := hx.below hZ; replace hz := hz.below hZ; replace ha := ha.below hZ; replace hb := hb.below hZ; replace hc := hc.below hZ; replace B0 := below_lift B0 s0 hZ; replace s0 := B0.size; clear hZ)
    | (go_at_call 66; have M := mul_any hd hd; with_reducible refine M.mono ?_; clear M; rintro e W5 ⟨vd2, rfl, hd2, hZ⟩; replace hx := hx.below hZ; replace hz := hz.below hZ; replace ha := ha.below hZ; replace hb := hb.below hZ; replace hc := hc.below hZ; replace hd := hd.below hZ; replace B0 := below_lift B0 s0 hZ; replace s0 := B0.size; clear hZ)
    | (go_at_call 22; refine (int_any 486662 (by omega) (by omega) _).mono ?_; rintro e W6 ⟨vk, rfl, hi, hZ⟩; have hk : Res W6 vk 486662 := ⟨hi, by decide⟩; replace hx := hx.below hZ; replace hz := hz.below hZ; replace ha := ha.below hZ; replace hb := hb.below hZ; replace hc := hc.below hZ; replace hd := hd.below hZ; replace hd2 := hd2.below hZ; replace B0 := below_lift B0 s0 hZ; replace s0 := B0.size; clear hZ)
    | (go_at_call 66; have M := mul_any hc hk; with_reducible refine M.mono ?_; clear M; rintro e W7 ⟨vb1, rfl, hb1, hZ⟩; replace hx := hx.below hZ; replace hz := hz.below hZ; replace ha := ha.below hZ; replace hb := hb.below hZ; replace hc := hc.below hZ; replace hd := hd.below hZ; replace hd2 := hd2.below hZ; replace hk := hk.below hZ; replace B0 := below_lift B0 s0 hZ; replace s0 := B0.size; clear hZ)
    | (go_at_call 75; have M := add_any hb1 ha; with_reducible refine M.mono ?_; clear M; rintro e W8 ⟨vb2, rfl, hb2, hZ⟩; replace hx := hx.below hZ; replace hz := hz.below hZ; replace ha := ha.below hZ; replace hb := hb.below hZ; replace hc := hc.below hZ; replace hd := hd.below hZ; replace hd2 := hd2.below hZ; replace hk := hk.below hZ; replace hb1 := hb1.below hZ; replace B0 := below_lift B0 s0 hZ; replace s0 := B0.size; clear hZ)
    | (go_at_call 75; have M := add_any hb2 hb; with_reducible refine M.mono ?_; clear M; rintro e W9 ⟨vb3, rfl, hb3, hZ⟩; replace hx := hx.below hZ; replace hz := hz.below hZ; replace ha := ha.below hZ; replace hb := hb.below hZ; replace hc := hc.below hZ; replace hd := hd.below hZ; replace hd2 := hd2.below hZ; replace hk := hk.below hZ; replace hb1 := hb1.below hZ; replace hb2 := hb2.below hZ; replace B0 := below_lift B0 s0 hZ; replace s0 := B0.size; clear hZ)
    | (go_at_call 66; have M := mul_any hb3 hc; with_reducible refine M.mono ?_; clear M; rintro e W10 ⟨vb4, rfl, hb4, hZ⟩; replace hx := hx.below hZ; replace hz := hz.below hZ; replace ha := ha.below hZ; replace hb := hb.below hZ; replace hc := hc.below hZ; replace hd := hd.below hZ; replace hd2 := hd2.below hZ; replace hk := hk.below hZ; replace hb1 := hb1.below hZ; replace hb2 := hb2.below hZ; replace hb3 := hb3.below hZ; replace B0 := below_lift B0 s0 hZ; replace s0 := B0.size; clear hZ)
    | (go_at_call 66; rw [arr_four]; have M := mul_any (hb4.below (by_alloc W10 (.cells (tab .i64 1 (fun _ => 4)) 3))) (four_num W10 _); with_reducible refine M.mono ?_; clear M; rintro e W11 ⟨vb5, rfl, hb5, hc⟩; have hZ := below_lift (by_alloc W10 (.cells (tab .i64 1 (fun _ => 4)) 3)) (by simp) hc; clear hc; replace hx := hx.below hZ; replace hz := hz.below hZ; replace ha := ha.below hZ; replace hb := hb.below hZ; replace hc := hc.below hZ; replace hd := hd.below hZ; replace hd2 := hd2.below hZ; replace hk := hk.below hZ; replace hb1 := hb1.below hZ; replace hb2 := hb2.below hZ; replace hb3 := hb3.below hZ; replace hb4 := hb4.below hZ; replace B0 := below_lift B0 s0 hZ; replace s0 := B0.size; clear hZ))
  go_ret2
  have ea : Eqv (x * x % P25519) (x * x) := Eqv.mod _
  have eb : Eqv (z * z % P25519) (z * z) := Eqv.mod _
  have ec : Eqv (x * z % P25519) (x * z) := Eqv.mod _
  have ed := (Eqv.mod _).trans (ea.sub eb)
  have e1 := (Eqv.mod _).trans (ec.mul (Eqv.refl 486662))
  have e2 := (Eqv.mod _).trans (e1.add ea)
  have e3 := (Eqv.mod _).trans (e2.add eb)
  have e4 := (Eqv.mod _).trans (e3.mul ec)
  have f1 := ed.mul ed
  have f2 := (e4.mul (Eqv.refl 4)).trans (Eqv.of_eq (show _ = tw2 x z by unfold tw2; grind))
  exact ⟨_, _, rfl, res_eq hd2 f1, res_eq hb5 f2, B0⟩
end Go.Proofs.Ytogkchcclcbobaa
