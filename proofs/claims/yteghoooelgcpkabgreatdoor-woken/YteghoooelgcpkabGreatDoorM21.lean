import Derived.Test.YteghoooelgcpkabGreatDoorM17
namespace Go.Proofs.YteghoooelgcpkabGreatDoor
open Go.RowKit Go.Msg
section
variable {w0 w w' : World} {gd n : Nat} {ρ : Nat → Nat} {S : Bool → SR} {vl vp : Value} {ls : List Lm} {ps : List ByteArray} {tw lo : Bool} {ld sd : Int}
set_option maxRecDepth 4000 in
set_option maxHeartbeats 4000000 in
theorem echo_f (h : DW w0 gd ρ w S vl vp ls ps tw false ld sd) (hi : DI S ls ps tw false n) (hN : n ≤ 1500000) {k : Nat} {c : Lm} (hc : ls[k]? = some c) :
    Calls Tryz.prog 22 #[.pointer (some ⟨gd, 0, none⟩), .int .i64 (k : Int)] w fun e w' => e = .returned (.bool true) ∧ Live w0 gd (n + 1) w' := by
  obtain ⟨ao, cap, gL, rfl, hao, _⟩ := own_lms h.ol
  have hkl := (List.getElem?_eq_some_iff.1 hc).1
  obtain ⟨rfl, hob⟩ := hao (Nat.lt_of_le_of_lt (Nat.zero_le _) hkl)
  have hnl := hi.nl
  have hnp := hi.np
  have H := Hid.mk h
  have HI := Hid.mk hi
  have HC := Hid.mk hc
  have HS := Hid.mk (side_f h c.odd)
  have HX := Hid.mk (export_f (S c.odd).x (h.wf c.odd) (S c.odd).g (S c.odd).vK (S c.odd).vP (S c.odd).vD w (h.se c.odd))
  have HIM : Hid (∀ w1, Calls Tryz.prog 45 #[.string (keptB (S c.odd).x)] w1 fun e w' => ∃ r : SR, e = .returned (.tuple #[.pointer (some ⟨r.g, 0, none⟩), .int .i64 0]) ∧ r.x = (S c.odd).x ∧ w1.heap.size ≤ r.g ∧ Hid (SesAt w' r.g r.x r.vK r.vP r.vD ∧ (∀ g, g ≤ r.g → Offs g r.vK r.vP r.vD) ∧ Below w1.heap.size w1 w')) := Hid.mk (fun w1 => copy_f h c.odd w1)
  have y0 := (h.lm hc hob).c0
  have k2 := dp_c2 h.row
  have hlt := h.lt
  have HWF := Hid.mk (h.wf c.odd)
  clear h hi hc hao
  generalize hnL : ls.length = nL at *
  have ck : (k : Int) < nL := by omega
  generalize hK : keptB (S c.odd).x = K at *
  go_enter Tryz.func22, Tryz.ntmps22
  go_upto_region 7 with (first
    | (go_at_call 41; with_reducible refine HS.out.mono ?_; rintro e w1 ⟨rfl, rfl⟩)
    | (go_at_call 35; with_reducible refine HX.out.mono ?_; rintro e w1 ⟨rfl, b1⟩)
    | (go_at_call 45; with_reducible refine (HIM.out _).mono ?_; rintro e w2 ⟨r, rfl, hrx, hrg, HR⟩)
    | fail)
  have B2 : Below w.heap.size w w2 := below_lift b1 b1.size HR.out.2.2
  have D2 := H.out.below B2
  have hrw : w.heap.size ≤ r.g := Nat.le_trans b1.size hrg
  have hr0 : ρ r.g = 0 := H.out.rf r.g hrw
  have hxw : r.x.Wf := by rw [hrx]; exact HWF.out
  have HLY := Hid.mk (lays_f D2.dp D2.bl.size (by omega) hxw HR.out.1 (HR.out.2.1 r.g (Nat.le_refl _)) (fun e => by omega) (fun e => by have := (H.out.op.lt _ e).2; omega) (HR.out.2.1 gd (by omega)) (fun b e => HR.out.2.1 b (by have := (H.out.op.lt _ e).2; omega)))
  have HD2 := Hid.mk D2
  clear D2 y0 k2
  go_upto_region 8 with (first
    | (go_at_call 47; with_reducible refine HLY.out.mono ?_; rintro e w3 ⟨rfl, hq⟩; have HQ := Hid.mk hq; clear hq)
    | fail)
  obtain ⟨ρ3, r3, vp3, ps3, tw3, ld3, rg3, wf3, se3, of3, rz3, D3, l3, alt⟩ := HD2.out.laidC hxw hr0 (Nat.le_trans H.out.bl.size hrw) HR.out.1.lt (HR.out.2.1 r.g (Nat.le_refl _)) (fun q => (H.out.se q).fresh hrw) HQ.out
  have HI3 := Hid.mk (HI.out.noted l3 alt)
  have hfr : ∀ q, Offs r3.g (S q).vK (S q).vP (S q).vD := fun q => by rw [rg3]; exact (H.out.se q).fresh hrw
  have hlo : w0.heap.size ≤ r3.g := by rw [rg3]; exact Nat.le_trans H.out.bl.size hrw
  have HAS : Hid (∀ ω, Below w3.heap.size w3 ω → Calls Tryz.prog 44 #[.pointer (some ⟨r3.g, 0, none⟩), .string c.bytes, .string c.data] ω fun e w' => e = .returned (.tuple #[.string (heardS r3.x c.bytes c.data).2.1, .int .i64 (heardS r3.x c.bytes c.data).2.2, .bool true]) ∧ Hid (DW w0 gd ρ3 w' S (.slice (some ⟨gL, 0, none⟩) nL cap) vp3 ls ps3 tw3 false ld3 sd)) := Hid.mk (fun ω hω => (asked_f r3.x wf3 r3.g r3.vK r3.vP r3.vD c.bytes c.data ω (se3.below hω) of3 (D3.tbl.below hω)).mono (fun e w' q => ⟨q.1, Hid.mk ((D3.below hω).tchF (TchS.of_tch q.2.1 (fun _ => rfl)) rz3 hlo hfr)⟩))
  have L3 := D3.lm HC.out hob
  have y1 := L3.c1
  have y3 := L3.c3
  have hlt3 := D3.lt
  rw [rg3] at HAS
  clear L3 D3 se3 of3 alt HLY HQ hfr
  generalize heardS r3.x c.bytes c.data = R at *
  go_cut [10, 11, 12] from 51 (fun v10 v11 v12 wx => v10 = .string R.2.1 ∧ v11 = .int .i64 R.2.2 ∧ v12 = .bool true ∧ Hid (DW w0 gd ρ3 wx S (.slice (some ⟨gL, 0, none⟩) nL cap) vp3 ls ps3 tw3 false ld3 sd))
  case first =>
    go_region_with (go_at_call 44; with_reducible refine (HAS.out _ (Below.refl _ _).drew).mono ?_; rintro e w4 ⟨rfl, HZ⟩)
    all_goals go_wp2_with fail
    all_goals go_meet
    all_goals exact ⟨rfl, rfl, rfl, HZ⟩
  case rest =>
  obtain ⟨rfl, rfl, rfl, HZ⟩ := hcut
  go_wp2_with fail
  go_ret
  exact ⟨rfl, _, _, _, _, _, _, _, _, _, _, HZ.out, HI3.out⟩
end
end Go.Proofs.YteghoooelgcpkabGreatDoor
