import Derived.Test.YteghoooelgcpkaaGreatDoorM32
namespace Go.Proofs.YteghoooelgcpkaaGreatDoor
open Go.RowKit Go.Msg
abbrev RetQ (w1 ω : World) (r : PR) (y : Sd) (t : ByteArray) (c : Int) (e : Ending) (w' : World) : Prop :=
  ∃ aS mS cS aP mP cP aD mD cD, e = .returned (.tuple #[.agg #[.string y.root, .string y.self, .string (pubF y.self), .string y.theirs, .string y.send, .string y.read, .int .i64 (y.ns : Int), .int .i64 (y.nr : Int), .int .i64 (y.pn : Int), .slice aS mS cS, .slice aP mP cP, .slice aD mD cD], .string t, .int .i64 c]) ∧ Hid (NewL w1 ω w' r y (.slice aS mS cS) (.slice aP mP cP) (.slice aD mD cD))
theorem hear_ret {w1 : World} {r : PR} {y : Sd} {t : ByteArray} {c : Int} {ω : World} (b : Below w1.heap.size w1 ω) {pv : Value} {m data : ByteArray} (h : Calls Tryz.prog 31 #[pv, .agg (sideC r.x r.vS r.vP r.vD), .string m, .string data] ω fun e w' => HearP ω r.vS r.vP r.vD (y, t, c) e w') :
    Calls Tryz.prog 31 #[pv, .agg #[.string r.x.root, .string r.x.self, .string (pubF r.x.self), .string r.x.theirs, .string r.x.send, .string r.x.read, .int .i64 (r.x.ns : Int), .int .i64 (r.x.nr : Int), .int .i64 (r.x.pn : Int), r.vS, r.vP, r.vD], .string m, .string data] ω fun e w' => RetQ w1 ω r y t c e w' := by
  refine Calls.mono h (fun e w' q => ?_)
  obtain ⟨vS, vP, vD, he, hk, hp, hd, ho, hb⟩ := q
  obtain ⟨aS, mS, cS, rfl⟩ := hk.slice
  obtain ⟨aP, mP, cP, rfl⟩ := hp.slice
  obtain ⟨aD, mD, cD, rfl⟩ := hd.slice
  exact ⟨aS, mS, cS, aP, mP, cP, aD, mD, cD, he, Hid.mk ⟨hk, hp, hd, ho, b, hb⟩⟩
theorem newl_row {w ω w' : World} {r : PR} {y : Sd} {vS vP vD : Value} (h : NewL w ω w' r y vS vP vD) (hω : ω.rowOf w.heap.size = side0) : w'.rowOf w.heap.size = side0 := (below_row h.b2 (by rw [hω]; exact side0_pos)).trans hω
theorem side_new (w : World) : ((w.alloc (.cells #[.string ⟨#[]⟩, .string ⟨#[]⟩, .string ⟨#[]⟩, .string ⟨#[]⟩, .string ⟨#[]⟩, .string ⟨#[]⟩, .int .i64 0, .int .i64 0, .int .i64 0, .slice none 0 0, .slice none 0 0, .slice none 0 0] 55)).drew).rowOf w.heap.size = side0 := rowOf_new2 w side0 _ _ rfl
set_option maxRecDepth 4000 in
set_option maxHeartbeats 8000000 in
theorem readL_f {w0 w : World} {gw : Nat} {pv : Value} {ρ : Nat → Nat} {vp vm : Value} {L : List PR} {M : List ByteArray} {a b : ByteArray} {n : Nat} (h : LW w0 gw pv ρ w vp vm L M a b) (h1 : L.length ≤ n) (h2 : M.length ≤ n) {i : Nat} {r : PR} (hi : L[i]? = some r) (m data : ByteArray) (hm : m.size ≤ 9223372036854775807) :
    Calls Tryz.prog 19 #[.pointer (some ⟨gw, 0, none⟩), .pointer (some ⟨r.gp, 0, none⟩), .string m, .string data] w fun e w' => e = .returned (.bool true) ∧ Nxt w0 gw pv n ρ w w' := by
  obtain ⟨hp, hne, op, os, n1, n2⟩ := h.at hi
  have k0 := pair_c0 hp.row
  have hlt := hp.lt
  have hgw := h.lt
  have HLS : Hid (LWs w0 gw pv n ρ w) := Hid.mk ⟨_, _, _, _, _, _, h, h1, h2⟩
  have H := Hid.mk h
  have HP := Hid.mk hp
  have HI := Hid.mk hi
  have HOP := Hid.mk op
  have HOS := Hid.mk os
  by_cases hd : data.size ≤ 100
  · have c1 : ¬ (data.size : Int) > 100 := by omega
    have HM := Hid.mk (read_f r.x hp.wf r.gs r.vK r.vQ r.vE m data hd w hp.ses os.k h.tbl)
    have HWF := Hid.mk (hearS_wf hp.wf m data)
    have HERR := Hid.mk (hearS_err (x := r.x) (m := m) (data := data))
    have HHE : Hid (∀ ω : World, PrimAt ω pv → KpsAt ω r.vS r.x.saved → StrsAt ω r.vP r.x.past → StrsAt ω r.vD r.x.draws → Calls Tryz.prog 31 #[pv, .agg (sideC r.x r.vS r.vP r.vD), .string m, .string data] ω fun e w' => HearP ω r.vS r.vP r.vD (hearS r.x m data) e w') := Hid.mk (fun ω q1 q2 q3 q4 => hear_f pv r.x hp.wf r.vS r.vP r.vD m data hm hd ω q1 q2 q3 q4)
    obtain ⟨R, hR⟩ : ∃ R, R = hearS r.x m data := ⟨_, rfl⟩
    rw [← hR] at HM HWF HERR HHE
    obtain ⟨y, t, c⟩ := R
    have HM1 : Hid (Calls Tryz.prog 30 #[.pointer (some ⟨r.gs, 0, none⟩), .string m, .string data] w fun e w' => e = .returned (.tuple #[.string t, .int .i64 c]) ∧ Hid (Tch r.gs w w' ∧ ∃ vK' vP' vD', SesAt w' r.gs y vK' vP' vD' ∧ ∀ k, k < w.heap.size → Offs k r.vK r.vQ r.vE → Offs k vK' vP' vD')) := Hid.mk (HM.out.mono (fun e w' q => by
      refine ⟨q.1, Hid.mk ?_⟩
      rcases q.2 with ⟨q1, q2⟩ | ⟨_, q2, q3⟩
      · have e1 : y = r.x := HERR.out q1
        exact ⟨tch_of q2 _, r.vK, r.vQ, r.vE, by rw [e1]; exact HP.out.ses.below q2, fun _ _ q => q⟩
      · exact ⟨q2, q3⟩))
    have HWF' : Hid y.Wf := HWF
    clear h hp hi op os hR HM HWF HERR hd hm
    go_enter Tryz.func19, Tryz.ntmps19
    go_upto_region 4 with (first
      | (go_at_call 30; with_reducible refine HM1.out.mono ?_; rintro e w1 ⟨rfl, HQ⟩; clear k0)
      | fail)
    have T1 : Tch r.gs w w1 := HQ.out.1
    have HT1 := Hid.mk T1
    have rw1 : w1.rowOf gw = #[pv, vp, vm, .string a, .string b] := (T1.row (by rw [H.out.row]; exact Nat.succ_pos 4) (Ne.symm n2)).trans H.out.row
    have rp1 := pair_tch HP.out T1 hne
    have k0 := rowcell rw1 0 pv rfl
    have hl1 : r.gp < w1.heap.size := Nat.lt_of_lt_of_le hlt T1.size
    have hg1 : gw < w1.heap.size := Nat.lt_of_lt_of_le hgw T1.size
    have HRP := Hid.mk rp1
    have HK1 := Hid.mk (HP.out.ks.tch T1 HOS.out.s.k)
    have HPA1 := Hid.mk (HP.out.ps.tch T1 HOS.out.s.p)
    have HD1 := Hid.mk (HP.out.ds.tch T1 HOS.out.s.d)
    have HPR1 := Hid.mk (H.out.pr.below (H.out.bl' (S := fun g => g = r.gs) (TchS.of_tch T1 (fun _ => rfl)) (fun g e => by rw [e, (H.out.pa i r HI.out).2.2.1]; omega)))
    have HF : Hid (Offs w1.heap.size r.vS r.vP r.vD) := Hid.mk ⟨HK1.out.fresh (Nat.le_refl _), HPA1.out.fresh (Nat.le_refl _), HD1.out.fresh (Nat.le_refl _)⟩
    have HH : Hid (∀ ω : World, Below w1.heap.size w1 ω → Calls Tryz.prog 31 #[pv, .agg #[.string r.x.root, .string r.x.self, .string (pubF r.x.self), .string r.x.theirs, .string r.x.send, .string r.x.read, .int .i64 (r.x.ns : Int), .int .i64 (r.x.nr : Int), .int .i64 (r.x.pn : Int), r.vS, r.vP, r.vD], .string m, .string data] ω fun e w' => RetQ w1 ω r y t c e w') := Hid.mk (fun ω bω => hear_ret bω (HHE.out ω (HPR1.out.below bω) (HK1.out.below bω) (HPA1.out.below bω) (HD1.out.below bω)))
    obtain ⟨q1, q2, q3, q4, q5, q6, q7, q8, q9, qA, qB, qC⟩ := pair_cells rp1
    clear rw1 rp1 T1 HHE
    go_cut [11, 12, 13] from 33 (fun v11 v12 v13 wx => CutP w1 r y t c v11 v12 v13 wx)
    case first =>
      go_region_with (go_at_call 31; with_reducible refine (HH.out _ (by first | exact (Below.refl _ _).drew | exact (by_alloc _ _).drew)).mono ?_; rintro e w2 ⟨aS, mS, cS, aP, mP, cP, aD, mD, cD, rfl, HZ⟩; (try ((have r1 := side_new w1); (have r2 := newl_row HZ.out r1); (have HR1 := Hid.mk r1); obtain ⟨⟨k0', k1', k2', k3', k4', k5', k6', k7', k8', k9', kA', kB'⟩, ⟨z0', z1', z2', z3', z4', z5', z6', z7', z8', z9', zA', zB'⟩⟩ := side_cells r2; clear r1 r2)))
      all_goals go_wp2_with fail
      all_goals go_meet
      all_goals first
        | with_reducible exact HZ.out.boxB
        | with_reducible exact HZ.out.boxA HF.out HR1.out
    case rest =>
      obtain ⟨rfl, rfl, g, vS, vP, vD, rfl, hg, hrow, hk, hpa, hdr, ho, hb⟩ := hcut
      have HROW := Hid.mk hrow
      have HB := Hid.mk hb
      have HKX := Hid.mk hk
      have HPX := Hid.mk hpa
      have HDX := Hid.mk hdr
      have HOX := Hid.mk ho
      have HALL := Hid.mk (sideC_all hk hpa hdr)
      have HTH : Hid (wc.there r.gp 1 (sideC y vS vP vD).size) := Hid.mk (pair_there ((below_row hb (by rw [HRP.out, pairC_size]; omega)).trans HRP.out) y vS vP vD)
      clear hrow hb hk hpa hdr ho q1 q2 q3 q4 q5 q6 q7 q8 q9 qA qB qC k0
      go_wp2_with (first
        | (refine at_load 55 rfl ?_; refine wpl_load rtSide rfl _ rfl g rfl (sideC y vS vP vD) HROW.out (sideC_size _ _ _ _) ?_)
        | (refine at_store 55 rfl ?_; refine wpl_put rfl _ _ rfl r.gp y vS vP vD rfl rfl HTH.out HALL.out ?_)
        | fail)
      go_ret
      obtain ⟨_, vK, vQ, vE, hs1, hok⟩ := HQ.out
      obtain ⟨p1, p2, p3⟩ := put_pair HP.out hne HOP.out HWF'.out HT1.out hs1 hok HB.out HKX.out HPX.out HDX.out HOX.out
      obtain ⟨l1, l2⟩ := H.out.pair HI.out p2 _ p1 rfl rfl p3
      exact ⟨rfl, Nxt.of l2 l1 (by rw [List.length_set]; exact h1) h2⟩
  · have c1 : (data.size : Int) > 100 := by omega
    have HM := Hid.mk (read_long r.gs m data (by omega) w)
    clear h hp hi op os hd hm
    go_enter Tryz.func19, Tryz.ntmps19
    go_wp2_with (first
      | (go_at_call 30; with_reducible refine HM.out.mono ?_; rintro e w1 ⟨rfl, b1⟩)
      | fail)
    go_ret
    exact ⟨rfl, Nxt.of_below HLS.out b1⟩
end Go.Proofs.YteghoooelgcpkaaGreatDoor
