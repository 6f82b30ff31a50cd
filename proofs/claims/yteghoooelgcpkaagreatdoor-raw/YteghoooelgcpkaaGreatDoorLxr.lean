import Derived.Test.YteghoooelgcpkaaGreatDoorM34
namespace Go.Proofs.YteghoooelgcpkaaGreatDoor
open Go.RowKit Go.Msg
def NxtP (w0 : World) (gw : Nat) (pv : Value) (n : Nat) (ρ : Nat → Nat) (w : World) (i g : Nat) (w' : World) : Prop := TchS (fun g => ρ g ≠ 0) w w' ∧ ∃ ρ' vp vm L M a b, LW w0 gw pv ρ' w' vp vm L M a b ∧ L.length ≤ n ∧ M.length ≤ n ∧ ∃ r : PR, L[i]? = some r ∧ r.gp = g
theorem set_at {α : Type} {L : List α} {i : Nat} {r : α} (h : L[i]? = some r) (r' : α) : (L.set i r')[i]? = some r' := by
  have := (List.getElem?_eq_some_iff.1 h).1
  rw [List.getElem?_set]
  simp [this]
theorem NxtP.of_below {w0 w w' : World} {gw : Nat} {pv : Value} {ρ : Nat → Nat} {vp vm : Value} {L : List PR} {M : List ByteArray} {a b : ByteArray} {n : Nat} (h : LW w0 gw pv ρ w vp vm L M a b) {i : Nat} {r : PR} (hi : L[i]? = some r) (h1 : L.length ≤ n) (h2 : M.length ≤ n) (hb : Below w.heap.size w w') : NxtP w0 gw pv n ρ w i r.gp w' :=
  ⟨TchS.of_below hb, ρ, _, _, _, _, _, _, h.below hb, h1, h2, r, hi, rfl⟩
set_option maxRecDepth 4000 in
set_option maxHeartbeats 8000000 in
theorem readP_f {w0 w : World} {gw : Nat} {pv : Value} {ρ : Nat → Nat} {vp vm : Value} {L : List PR} {M : List ByteArray} {a b : ByteArray} {n : Nat} (h : LW w0 gw pv ρ w vp vm L M a b) (h1 : L.length ≤ n) (h2 : M.length ≤ n) {i : Nat} {r : PR} (hi : L[i]? = some r) (m data : ByteArray) (hm : m.size ≤ 9223372036854775807) :
    Calls Tryz.prog 19 #[.pointer (some ⟨gw, 0, none⟩), .pointer (some ⟨r.gp, 0, none⟩), .string m, .string data] w fun e w' => e = .returned (.bool true) ∧ NxtP w0 gw pv n ρ w i r.gp w' := by
  obtain ⟨hp, hne, op, os, n1, n2⟩ := h.at hi
  have k0 := pair_c0 hp.row
  have hlt := hp.lt
  have hgw := h.lt
  have HLS : Hid (LWs w0 gw pv n ρ w) := Hid.mk ⟨_, _, _, _, _, _, h, h1, h2⟩
  have H := Hid.mk h
  have HP := Hid.mk hp
  have HI := Hid.mk hi
  have HOP := Hid.mk op
  have HOS := Hid.mk os
  by_cases hd : data.size ≤ 100
  · have c1 : ¬ (data.size : Int) > 100 := by omega
    have HM := Hid.mk (read_f r.x hp.wf r.gs r.vK r.vQ r.vE m data hd w hp.ses os.k h.tbl)
    have HWF := Hid.mk (hearS_wf hp.wf m data)
    have HERR := Hid.mk (hearS_err (x := r.x) (m := m) (data := data))
    have HHE : Hid (∀ ω : World, PrimAt ω pv → KpsAt ω r.vS r.x.saved → StrsAt ω r.vP r.x.past → StrsAt ω r.vD r.x.draws → Calls Tryz.prog 31 #[pv, .agg (sideC r.x r.vS r.vP r.vD), .string m, .string data] ω fun e w' => HearP ω r.vS r.vP r.vD (hearS r.x m data) e w') := Hid.mk (fun ω q1 q2 q3 q4 => hear_f pv r.x hp.wf r.vS r.vP r.vD m data hm hd ω q1 q2 q3 q4)
    obtain ⟨R, hR⟩ : ∃ R, R = hearS r.x m data := ⟨_, rfl⟩
    rw [← hR] at HM HWF HERR HHE
    obtain ⟨y, t, c⟩ := R
    have HM1 : Hid (Calls Tryz.prog 30 #[.pointer (some ⟨r.gs, 0, none⟩), .string m, .string data] w fun e w' => e = .returned (.tuple #[.string t, .int .i64 c]) ∧ Hid (Tch r.gs w w' ∧ ∃ vK' vP' vD', SesAt w' r.gs y vK' vP' vD' ∧ ∀ k, k < w.heap.size → Offs k r.vK r.vQ r.vE → Offs k vK' vP' vD')) := Hid.mk (HM.out.mono (fun e w' q => by
      refine ⟨q.1, Hid.mk ?_⟩
      rcases q.2 with ⟨q1, q2⟩ | ⟨_, q2, q3⟩
      · have e1 : y = r.x := HERR.out q1
        exact ⟨tch_of q2 _, r.vK, r.vQ, r.vE, by rw [e1]; exact HP.out.ses.below q2, fun _ _ q => q⟩
      · exact ⟨q2, q3⟩))
    have HWF' : Hid y.Wf := HWF
    clear h hp hi op os hR HM HWF HERR hd hm
    go_enter Tryz.func19, Tryz.ntmps19
    go_upto_region 4 with (first
      | (go_at_call 30; with_reducible refine HM1.out.mono ?_; rintro e w1 ⟨rfl, HQ⟩; clear k0)
      | fail)
    have T1 : Tch r.gs w w1 := HQ.out.1
    have HT1 := Hid.mk T1
    have rw1 : w1.rowOf gw = #[pv, vp, vm, .string a, .string b] := (T1.row (by rw [H.out.row]; exact Nat.succ_pos 4) (Ne.symm n2)).trans H.out.row
    have rp1 := pair_tch HP.out T1 hne
    have k0 := rowcell rw1 0 pv rfl
    have hl1 : r.gp < w1.heap.size := Nat.lt_of_lt_of_le hlt T1.size
    have hg1 : gw < w1.heap.size := Nat.lt_of_lt_of_le hgw T1.size
    have HRP := Hid.mk rp1
    have HK1 := Hid.mk (HP.out.ks.tch T1 HOS.out.s.k)
    have HPA1 := Hid.mk (HP.out.ps.tch T1 HOS.out.s.p)
    have HD1 := Hid.mk (HP.out.ds.tch T1 HOS.out.s.d)
    have HPR1 := Hid.mk (H.out.pr.below (H.out.bl' (S := fun g => g = r.gs) (TchS.of_tch T1 (fun _ => rfl)) (fun g e => by rw [e, (H.out.pa i r HI.out).2.2.1]; omega)))
    have HF : Hid (Offs w1.heap.size r.vS r.vP r.vD) := Hid.mk ⟨HK1.out.fresh (Nat.le_refl _), HPA1.out.fresh (Nat.le_refl _), HD1.out.fresh (Nat.le_refl _)⟩
    have HH : Hid (∀ ω : World, Below w1.heap.size w1 ω → Calls Tryz.prog 31 #[pv, .agg #[.string r.x.root, .string r.x.self, .string (pubF r.x.self), .string r.x.theirs, .string r.x.send, .string r.x.read, .int .i64 (r.x.ns : Int), .int .i64 (r.x.nr : Int), .int .i64 (r.x.pn : Int), r.vS, r.vP, r.vD], .string m, .string data] ω fun e w' => RetQ w1 ω r y t c e w') := Hid.mk (fun ω bω => hear_ret bω (HHE.out ω (HPR1.out.below bω) (HK1.out.below bω) (HPA1.out.below bω) (HD1.out.below bω)))
    obtain ⟨q1, q2, q3, q4, q5, q6, q7, q8, q9, qA, qB, qC⟩ := pair_cells rp1
    clear rw1 rp1 T1 HHE
    go_cut [11, 12, 13] from 33 (fun v11 v12 v13 wx => CutP w1 r y t c v11 v12 v13 wx)
    case first =>
      go_region_with (go_at_call 31; with_reducible refine (HH.out _ (by first | exact (Below.refl _ _).drew | exact (by_alloc _ _).drew)).mono ?_; rintro e w2 ⟨aS, mS, cS, aP, mP, cP, aD, mD, cD, rfl, HZ⟩; (try ((have r1 := side_new w1); (have r2 := newl_row HZ.out r1); (have HR1 := Hid.mk r1); obtain ⟨⟨k0', k1', k2', k3', k4', k5', k6', k7', k8', k9', kA', kB'⟩, ⟨z0', z1', z2', z3', z4', z5', z6', z7', z8', z9', zA', zB'⟩⟩ := side_cells r2; clear r1 r2)))
      all_goals go_wp2_with fail
      all_goals go_meet
      all_goals first
        | with_reducible exact HZ.out.boxB
        | with_reducible exact HZ.out.boxA HF.out HR1.out
    case rest =>
      obtain ⟨rfl, rfl, g, vS, vP, vD, rfl, hg, hrow, hk, hpa, hdr, ho, hb⟩ := hcut
      have HROW := Hid.mk hrow
      have HB := Hid.mk hb
      have HKX := Hid.mk hk
      have HPX := Hid.mk hpa
      have HDX := Hid.mk hdr
      have HOX := Hid.mk ho
      have HALL := Hid.mk (sideC_all hk hpa hdr)
      have HTH : Hid (wc.there r.gp 1 (sideC y vS vP vD).size) := Hid.mk (pair_there ((below_row hb (by rw [HRP.out, pairC_size]; omega)).trans HRP.out) y vS vP vD)
      clear hrow hb hk hpa hdr ho q1 q2 q3 q4 q5 q6 q7 q8 q9 qA qB qC k0
      go_wp2_with (first
        | (refine at_load 55 rfl ?_; refine wpl_load rtSide rfl _ rfl g rfl (sideC y vS vP vD) HROW.out (sideC_size _ _ _ _) ?_)
        | (refine at_store 55 rfl ?_; refine wpl_put rfl _ _ rfl r.gp y vS vP vD rfl rfl HTH.out HALL.out ?_)
        | fail)
      go_ret
      obtain ⟨_, vK, vQ, vE, hs1, hok⟩ := HQ.out
      obtain ⟨p1, p2, p3⟩ := put_pair HP.out hne HOP.out HWF'.out HT1.out hs1 hok HB.out HKX.out HPX.out HDX.out HOX.out
      obtain ⟨l1, l2⟩ := H.out.pair HI.out p2 _ p1 rfl rfl p3
      exact ⟨rfl, l2, ρ, _, _, _, _, _, _, l1, by rw [List.length_set]; exact h1, h2, _, set_at HI.out _, rfl⟩
  · have c1 : (data.size : Int) > 100 := by omega
    have HM := Hid.mk (read_long r.gs m data (by omega) w)
    clear h hp hi op os hd hm
    go_enter Tryz.func19, Tryz.ntmps19
    go_wp2_with (first
      | (go_at_call 30; with_reducible refine HM.out.mono ?_; rintro e w1 ⟨rfl, b1⟩)
      | fail)
    go_ret
    exact ⟨rfl, NxtP.of_below H.out HI.out h1 h2 b1⟩
set_option maxRecDepth 4000 in
set_option maxHeartbeats 8000000 in
theorem sentP_f {w0 w : World} {gw : Nat} {pv : Value} {ρ : Nat → Nat} {vp vm : Value} {L : List PR} {M : List ByteArray} {a b : ByteArray} {n : Nat} (h : LW w0 gw pv ρ w vp vm L M a b) (h1 : L.length ≤ n) (h2 : M.length ≤ n) (hn : n ≤ 3000000) {i : Nat} {r : PR} (hi : L[i]? = some r) (text data : ByteArray) :
    Calls Tryz.prog 21 #[.pointer (some ⟨gw, 0, none⟩), .pointer (some ⟨r.gp, 0, none⟩), .string text, .string data] w fun e w' => e = .returned (.bool true) ∧ NxtP w0 gw pv (n + 1) ρ w i r.gp w' := by
  obtain ⟨hp, hne, op, os, n1, n2⟩ := h.at hi
  have k0 := pair_c0 hp.row
  have hlt := hp.lt
  have hgw := h.lt
  have HLS : Hid (LWs w0 gw pv n ρ w) := Hid.mk ⟨_, _, _, _, _, _, h, h1, h2⟩
  have H := Hid.mk h
  have HP := Hid.mk hp
  have HI := Hid.mk hi
  have HOP := Hid.mk op
  have HOS := Hid.mk os
  by_cases hbad : 200 < text.size ∨ 100 < data.size
  · have HM := Hid.mk (send_long (.pointer (some ⟨r.gs, 0, none⟩)) text data hbad w)
    by_cases ht : 200 < text.size
    · have c1 : (text.size : Int) > 200 := by omega
      clear h hp hi op os hbad ht
      go_enter Tryz.func21, Tryz.ntmps21
      go_wp2_with (first
        | (go_at_call 34; with_reducible refine HM.out.mono ?_; rintro e w1 ⟨rfl, b1⟩)
        | fail)
      go_ret
      exact ⟨rfl, NxtP.of_below H.out HI.out (Nat.le_succ_of_le h1) (Nat.le_succ_of_le h2) b1⟩
    · have c1 : ¬ (text.size : Int) > 200 := by omega
      have c2 : (data.size : Int) > 100 := by omega
      clear h hp hi op os hbad ht
      go_enter Tryz.func21, Tryz.ntmps21
      go_wp2_with (first
        | (go_at_call 34; with_reducible refine HM.out.mono ?_; rintro e w1 ⟨rfl, b1⟩)
        | fail)
      go_ret
      exact ⟨rfl, NxtP.of_below H.out HI.out (Nat.le_succ_of_le h1) (Nat.le_succ_of_le h2) b1⟩
  · have ht : text.size ≤ 200 := by omega
    have hd : data.size ≤ 100 := by omega
    have c1 : ¬ (text.size : Int) > 200 := by omega
    have c2 : ¬ (data.size : Int) > 100 := by omega
    have HM := Hid.mk (send_f r.x hp.wf r.gs r.vK r.vQ r.vE text data ht hd w h.tbl hp.ses os.k)
    have HWF' := Hid.mk (sayS_wf hp.wf text data)
    have HTX := Hid.mk (sayS_text r.x text data ht)
    have HHE : Hid (∀ w1 ω : World, Below w1.heap.size w1 ω → PrimAt ω pv → KpsAt ω r.vS r.x.saved → StrsAt ω r.vP r.x.past → StrsAt ω r.vD r.x.draws → Calls Tryz.prog 35 #[pv, .agg #[.string r.x.root, .string r.x.self, .string (pubF r.x.self), .string r.x.theirs, .string r.x.send, .string r.x.read, .int .i64 (r.x.ns : Int), .int .i64 (r.x.nr : Int), .int .i64 (r.x.pn : Int), r.vS, r.vP, r.vD], .string text, .string data] ω fun e w' => RetQ w1 ω r (sayS r.x text data).1 (sayS r.x text data).2.1 (sayS r.x text data).2.2 e w') := Hid.mk (fun w1 ω bω q1 q2 q3 q4 => say_ret bω text data hp.wf ht hd q1 q2 q3 q4)
    have HM1 : Hid (Calls Tryz.prog 34 #[.pointer (some ⟨r.gs, 0, none⟩), .string text, .string data] w fun e w' => e = .returned (.tuple #[.string (sayS r.x text data).2.1, .int .i64 (sayS r.x text data).2.2]) ∧ Hid (Tch r.gs w w' ∧ ∃ vK' vP' vD', SesAt w' r.gs (sayS r.x text data).1 vK' vP' vD' ∧ ∀ k, k < w.heap.size → Offs k r.vK r.vQ r.vE → Offs k vK' vP' vD')) := Hid.mk (HM.out.mono (fun e w' q => by
      unfold sayS
      rcases q with ⟨q1, q2, q3⟩ | ⟨q1, q2, q3, q4⟩ | ⟨q1, q2, q3, q4, q5⟩
      · rw [if_pos q1]; exact ⟨q2, Hid.mk ⟨tch_of q3 _, r.vK, r.vQ, r.vE, HP.out.ses.below q3, fun _ _ q => q⟩⟩
      · rw [if_neg q1, if_pos q2]; exact ⟨q3, Hid.mk ⟨tch_of q4 _, r.vK, r.vQ, r.vE, HP.out.ses.below q4, fun _ _ q => q⟩⟩
      · rw [if_neg q1, if_neg q2]; exact ⟨q3, Hid.mk ⟨q5, r.vK, r.vQ, r.vE, q4, fun _ _ q => q⟩⟩))
    obtain ⟨R, hR⟩ : ∃ R, R = sayS r.x text data := ⟨_, rfl⟩
    rw [← hR] at HM1 HWF' HHE HTX
    obtain ⟨y, t, c⟩ := R
    simp only at HM1 HWF' HHE HTX
    clear h hp hi op os hR HM hd ht hbad
    go_enter Tryz.func21, Tryz.ntmps21
    go_upto_region 4 with (first
      | (go_at_call 34; with_reducible refine HM1.out.mono ?_; rintro e w1 ⟨rfl, HQ⟩; clear k0)
      | fail)
    have T1 : Tch r.gs w w1 := HQ.out.1
    have HT1 := Hid.mk T1
    have rw1 : w1.rowOf gw = #[pv, vp, vm, .string a, .string b] := (T1.row (by rw [H.out.row]; exact Nat.succ_pos 4) (Ne.symm n2)).trans H.out.row
    have rp1 := pair_tch HP.out T1 hne
    have k0 := rowcell rw1 0 pv rfl
    have hl1 : r.gp < w1.heap.size := Nat.lt_of_lt_of_le hlt T1.size
    have hg1 : gw < w1.heap.size := Nat.lt_of_lt_of_le hgw T1.size
    have HRP := Hid.mk rp1
    have HK1 := Hid.mk (HP.out.ks.tch T1 HOS.out.s.k)
    have HPA1 := Hid.mk (HP.out.ps.tch T1 HOS.out.s.p)
    have HD1 := Hid.mk (HP.out.ds.tch T1 HOS.out.s.d)
    have HPR1 := Hid.mk (H.out.pr.below (H.out.bl' (S := fun g => g = r.gs) (TchS.of_tch T1 (fun _ => rfl)) (fun g e => by rw [e, (H.out.pa i r HI.out).2.2.1]; omega)))
    have HF : Hid (Offs w1.heap.size r.vS r.vP r.vD) := Hid.mk ⟨HK1.out.fresh (Nat.le_refl _), HPA1.out.fresh (Nat.le_refl _), HD1.out.fresh (Nat.le_refl _)⟩
    have HH : Hid (∀ ω : World, Below w1.heap.size w1 ω → Calls Tryz.prog 35 #[pv, .agg #[.string r.x.root, .string r.x.self, .string (pubF r.x.self), .string r.x.theirs, .string r.x.send, .string r.x.read, .int .i64 (r.x.ns : Int), .int .i64 (r.x.nr : Int), .int .i64 (r.x.pn : Int), r.vS, r.vP, r.vD], .string text, .string data] ω fun e w' => RetQ w1 ω r y t c e w') := Hid.mk (fun ω bω => HHE.out w1 ω bω (HPR1.out.below bω) (HK1.out.below bω) (HPA1.out.below bω) (HD1.out.below bω))
    obtain ⟨q1, q2, q3, q4, q5, q6, q7, q8, q9, qA, qB, qC⟩ := pair_cells rp1
    clear rw1 rp1 T1 HHE
    go_cut [11, 12, 13] from 38 (fun v11 v12 v13 wx => CutP w1 r y t c v11 v12 v13 wx)
    case first =>
      go_region_with (go_at_call 35; with_reducible refine (HH.out _ (by first | exact (Below.refl _ _).drew | exact (by_alloc _ _).drew)).mono ?_; rintro e w2 ⟨aS, mS, cS, aP, mP, cP, aD, mD, cD, rfl, HZ⟩; (try ((have r1 := side_new w1); (have r2 := newl_row HZ.out r1); (have HR1 := Hid.mk r1); obtain ⟨⟨k0', k1', k2', k3', k4', k5', k6', k7', k8', k9', kA', kB'⟩, ⟨z0', z1', z2', z3', z4', z5', z6', z7', z8', z9', zA', zB'⟩⟩ := side_cells r2; clear r1 r2)))
      all_goals go_wp2_with fail
      all_goals go_meet
      all_goals first
        | with_reducible exact HZ.out.boxB
        | with_reducible exact HZ.out.boxA HF.out HR1.out
    case rest =>
      obtain ⟨rfl, rfl, g, vS, vP, vD, rfl, hg, hrow, hk, hpa, hdr, ho, hb⟩ := hcut
      have HROW := Hid.mk hrow
      have HB := Hid.mk hb
      have HKX := Hid.mk hk
      have HPX := Hid.mk hpa
      have HDX := Hid.mk hdr
      have HOX := Hid.mk ho
      have HALL := Hid.mk (sideC_all hk hpa hdr)
      have HTH : Hid (wc.there r.gp 1 (sideC y vS vP vD).size) := Hid.mk (pair_there ((below_row hb (by rw [HRP.out, pairC_size]; omega)).trans HRP.out) y vS vP vD)
      clear hrow hb hk hpa hdr ho q1 q2 q3 q4 q5 q6 q7 q8 q9 qA qB qC k0
      have LL : Hid (∃ r' : PR, r'.gp = r.gp ∧ LW w0 gw pv ρ (putSide wc r.gp y vS vP vD) vp vm (L.set i r') M a b ∧ TchS (fun g => ρ g ≠ 0) w (putSide wc r.gp y vS vP vD)) := Hid.mk (by
        obtain ⟨_, vK, vQ, vE, hs1, hok⟩ := HQ.out
        obtain ⟨p1, p2, p3⟩ := put_pair HP.out hne HOP.out HWF'.out HT1.out hs1 hok HB.out HKX.out HPX.out HDX.out HOX.out
        exact ⟨⟨r.gp, r.gs, y, vS, vP, vD, vK, vQ, vE⟩, rfl, H.out.pair HI.out p2 _ p1 rfl rfl p3⟩)
      obtain ⟨r', hl⟩ := LL.out
      have HL' := Hid.mk hl
      clear hl LL
      by_cases hem : t.toList = []
      · have b1 : t.toList.isEmpty = true := by rw [hem]; rfl
        go_wp2_with (first
          | (refine at_load 55 rfl ?_; refine wpl_load rtSide rfl _ rfl g rfl (sideC y vS vP vD) HROW.out (sideC_size _ _ _ _) ?_)
          | (refine at_store 55 rfl ?_; refine wpl_put rfl _ _ rfl r.gp y vS vP vD rfl rfl HTH.out HALL.out ?_)
          | fail)
        go_ret
        exact ⟨rfl, HL'.out.2.2, ρ, _, _, _, _, _, _, HL'.out.2.1, by rw [List.length_set]; omega, by omega, r', set_at HI.out _, HL'.out.1⟩
      · have b1 : t.toList.isEmpty = false := by cases hq : t.toList with | nil => exact absurd hq hem | cons _ _ => rfl
        go_wp2_with (first
          | (refine at_load 55 rfl ?_; refine wpl_load rtSide rfl _ rfl g rfl (sideC y vS vP vD) HROW.out (sideC_size _ _ _ _) ?_)
          | (refine at_store 55 rfl ?_; refine wpl_put rfl _ _ rfl r.gp y vS vP vD rfl rfl HTH.out HALL.out ?_)
          | (go_at_call 36; have M := said_f HL'.out.2.1 t HTX.out (by omega); with_reducible refine M.mono ?_; clear M; rintro e w4 ⟨rfl, ρ4, v4, l4, t4⟩)
          | fail)
        go_ret
        exact ⟨rfl, HL'.out.2.2.trans t4, ρ4, _, _, _, _, _, _, l4, by rw [List.length_set]; omega, by rw [List.length_append]; simp; omega, r', set_at HI.out _, HL'.out.1⟩
end Go.Proofs.YteghoooelgcpkaaGreatDoor
