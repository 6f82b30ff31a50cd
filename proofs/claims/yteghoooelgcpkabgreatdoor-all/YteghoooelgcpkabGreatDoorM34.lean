import Derived.Test.YteghoooelgcpkabGreatDoorM33
namespace Go.Proofs.YteghoooelgcpkabGreatDoor
open Go.RowKit Go.Msg
def sayS (x : Sd) (text data : ByteArray) : Sd × ByteArray × Int := if x.send = ⟨#[]⟩ then (x, ⟨#[]⟩, 3) else if x.ns = 300 then (x, ⟨#[]⟩, 4) else (saidS x, msgF x text data, 0)
theorem sayS_wf {x : Sd} (h : x.Wf) (text data : ByteArray) : (sayS x text data).1.Wf := by
  unfold sayS
  split
  · exact h
  · split
    · exact h
    · next q => exact saidS_wf h q
theorem sayS_lists (x : Sd) (text data : ByteArray) : (sayS x text data).1.saved = x.saved ∧ (sayS x text data).1.past = x.past ∧ (sayS x text data).1.draws = x.draws := by
  unfold sayS
  split
  · exact ⟨rfl, rfl, rfl⟩
  · split
    · exact ⟨rfl, rfl, rfl⟩
    · exact ⟨rfl, rfl, rfl⟩
theorem msgF_size (x : Sd) (text data : ByteArray) (ht : text.size ≤ 200) : (msgF x text data).size ≤ 1000 ∧ 0 < (msgF x text data).size := by
  unfold msgF
  simp only [ByteArray.size_append, headF_size, be_size, turnF_size, tagF_size]
  omega
theorem sayS_text (x : Sd) (text data : ByteArray) (ht : text.size ≤ 200) : (sayS x text data).2.1.size ≤ 1000 := by
  have := (msgF_size x text data ht).1
  unfold sayS
  split
  · exact Nat.zero_le _
  · split
    · exact Nat.zero_le _
    · exact this
theorem say_ret {w1 : World} {r : PR} {ω : World} (b : Below w1.heap.size w1 ω) {pv : Value} (text data : ByteArray) (hx : r.x.Wf) (ht : text.size ≤ 200) (hd : data.size ≤ 100) (hp : PrimAt ω pv) (hk : KpsAt ω r.vS r.x.saved) (hpa : StrsAt ω r.vP r.x.past) (hdr : StrsAt ω r.vD r.x.draws) :
    Calls Tryz.prog 60 #[pv, .agg #[.string r.x.root, .string r.x.self, .string (pubF r.x.self), .string r.x.theirs, .string r.x.send, .string r.x.read, .int .i64 (r.x.ns : Int), .int .i64 (r.x.nr : Int), .int .i64 (r.x.pn : Int), r.vS, r.vP, r.vD], .string text, .string data] ω fun e w' => RetQ w1 ω r (sayS r.x text data).1 (sayS r.x text data).2.1 (sayS r.x text data).2.2 e w' := by
  have M := say_f pv r.x hx (sideC r.x r.vS r.vP r.vD) r.vS r.vP r.vD text data ht hd ω hp ⟨rfl, hk, hpa, hdr⟩
  refine Calls.mono M (fun e w' q => ?_)
  obtain ⟨l1, l2, l3⟩ := sayS_lists r.x text data
  obtain ⟨q, hb⟩ := q
  have HN : NewL w1 ω w' r (sayS r.x text data).1 r.vS r.vP r.vD := ⟨by rw [l1]; exact hk.below hb, by rw [l2]; exact hpa.below hb, by rw [l3]; exact hdr.below hb, fun _ _ q => q, b, hb⟩
  have he : e = .returned (.tuple #[.agg (sideC (sayS r.x text data).1 r.vS r.vP r.vD), .string (sayS r.x text data).2.1, .int .i64 (sayS r.x text data).2.2]) := by
    unfold sayS
    rcases q with ⟨q1, q2⟩ | ⟨q1, q2, q3⟩ | ⟨q1, q2, q3⟩
    · rw [if_pos q1]; exact q2
    · rw [if_neg q1, if_pos q2]; exact q3
    · rw [if_neg q1, if_neg q2]; exact q3
  obtain ⟨aS, mS, cS, eS⟩ := hk.slice
  obtain ⟨aP, mP, cP, eP⟩ := hpa.slice
  obtain ⟨aD, mD, cD, eD⟩ := hdr.slice
  rw [eS, eP, eD] at HN he
  exact ⟨aS, mS, cS, aP, mP, cP, aD, mD, cD, he, Hid.mk HN⟩
set_option maxRecDepth 4000 in
set_option maxHeartbeats 8000000 in
theorem sentL_f {w0 w : World} {gw : Nat} {pv : Value} {ρ : Nat → Nat} {vp vm : Value} {L : List PR} {M : List ByteArray} {a b : ByteArray} {n : Nat} (h : LW w0 gw pv ρ w vp vm L M a b) (h1 : L.length ≤ n) (h2 : M.length ≤ n) (hn : n ≤ 3000000) {i : Nat} {r : PR} (hi : L[i]? = some r) (text data : ByteArray) :
    Calls Tryz.prog 33 #[.pointer (some ⟨gw, 0, none⟩), .pointer (some ⟨r.gp, 0, none⟩), .string text, .string data] w fun e w' => e = .returned (.bool true) ∧ Nxt w0 gw pv (n + 1) ρ w w' := by
  obtain ⟨hp, hne, op, os, n1, n2⟩ := h.at hi
  have k0 := pair_c0 hp.row
  have hlt := hp.lt
  have hgw := h.lt
  have HLS : Hid (LWs w0 gw pv n ρ w) := Hid.mk ⟨_, _, _, _, _, _, h, h1, h2⟩
  have H := Hid.mk h
  have HP := Hid.mk hp
  have HI := Hid.mk hi
  have HOP := Hid.mk op
  have HOS := Hid.mk os
  by_cases hbad : 200 < text.size ∨ 100 < data.size
  · have HM := Hid.mk (send_long (.pointer (some ⟨r.gs, 0, none⟩)) text data hbad w)
    by_cases ht : 200 < text.size
    · have c1 : (text.size : Int) > 200 := by omega
      clear h hp hi op os hbad ht
      go_enter Tryz.func33, Tryz.ntmps33
      go_wp2_with (first
        | (go_at_call 42; with_reducible refine HM.out.mono ?_; rintro e w1 ⟨rfl, b1⟩)
        | fail)
      go_ret
      exact ⟨rfl, Nxt.of_below (HLS.out.mono (Nat.le_succ _)) b1⟩
    · have c1 : ¬ (text.size : Int) > 200 := by omega
      have c2 : (data.size : Int) > 100 := by omega
      clear h hp hi op os hbad ht
      go_enter Tryz.func33, Tryz.ntmps33
      go_wp2_with (first
        | (go_at_call 42; with_reducible refine HM.out.mono ?_; rintro e w1 ⟨rfl, b1⟩)
        | fail)
      go_ret
      exact ⟨rfl, Nxt.of_below (HLS.out.mono (Nat.le_succ _)) b1⟩
  · have ht : text.size ≤ 200 := by omega
    have hd : data.size ≤ 100 := by omega
    have c1 : ¬ (text.size : Int) > 200 := by omega
    have c2 : ¬ (data.size : Int) > 100 := by omega
    have HM := Hid.mk (send_f r.x hp.wf r.gs r.vK r.vQ r.vE text data ht hd w h.tbl hp.ses os.k)
    have HWF' := Hid.mk (sayS_wf hp.wf text data)
    have HTX := Hid.mk (sayS_text r.x text data ht)
    have HHE : Hid (∀ w1 ω : World, Below w1.heap.size w1 ω → PrimAt ω pv → KpsAt ω r.vS r.x.saved → StrsAt ω r.vP r.x.past → StrsAt ω r.vD r.x.draws → Calls Tryz.prog 60 #[pv, .agg #[.string r.x.root, .string r.x.self, .string (pubF r.x.self), .string r.x.theirs, .string r.x.send, .string r.x.read, .int .i64 (r.x.ns : Int), .int .i64 (r.x.nr : Int), .int .i64 (r.x.pn : Int), r.vS, r.vP, r.vD], .string text, .string data] ω fun e w' => RetQ w1 ω r (sayS r.x text data).1 (sayS r.x text data).2.1 (sayS r.x text data).2.2 e w') := Hid.mk (fun w1 ω bω q1 q2 q3 q4 => say_ret bω text data hp.wf ht hd q1 q2 q3 q4)
    have HM1 : Hid (Calls Tryz.prog 42 #[.pointer (some ⟨r.gs, 0, none⟩), .string text, .string data] w fun e w' => e = .returned (.tuple #[.string (sayS r.x text data).2.1, .int .i64 (sayS r.x text data).2.2]) ∧ Hid (Tch r.gs w w' ∧ ∃ vK' vP' vD', SesAt w' r.gs (sayS r.x text data).1 vK' vP' vD' ∧ ∀ k, k < w.heap.size → Offs k r.vK r.vQ r.vE → Offs k vK' vP' vD')) := Hid.mk (HM.out.mono (fun e w' q => by
      unfold sayS
      rcases q with ⟨q1, q2, q3⟩ | ⟨q1, q2, q3, q4⟩ | ⟨q1, q2, q3, q4, q5⟩
      · rw [if_pos q1]; exact ⟨q2, Hid.mk ⟨tch_of q3 _, r.vK, r.vQ, r.vE, HP.out.ses.below q3, fun _ _ q => q⟩⟩
      · rw [if_neg q1, if_pos q2]; exact ⟨q3, Hid.mk ⟨tch_of q4 _, r.vK, r.vQ, r.vE, HP.out.ses.below q4, fun _ _ q => q⟩⟩
      · rw [if_neg q1, if_neg q2]; exact ⟨q3, Hid.mk ⟨q5, r.vK, r.vQ, r.vE, q4, fun _ _ q => q⟩⟩))
    obtain ⟨R, hR⟩ : ∃ R, R = sayS r.x text data := ⟨_, rfl⟩
    rw [← hR] at HM1 HWF' HHE HTX
    obtain ⟨y, t, c⟩ := R
    simp only at HM1 HWF' HHE HTX
    clear h hp hi op os hR HM hd ht hbad
    go_enter Tryz.func33, Tryz.ntmps33
    go_upto_region 4 with (first
      | (go_at_call 42; with_reducible refine HM1.out.mono ?_; rintro e w1 ⟨rfl, HQ⟩; clear k0)
      | fail)
    have T1 : Tch r.gs w w1 := HQ.out.1
    have HT1 := Hid.mk T1
    have rw1 : w1.rowOf gw = #[pv, vp, vm, .string a, .string b] := (T1.row (by rw [H.out.row]; exact Nat.succ_pos 4) (Ne.symm n2)).trans H.out.row
    have rp1 := pair_tch HP.out T1 hne
    have k0 := rowcell rw1 0 pv rfl
    have hl1 : r.gp < w1.heap.size := Nat.lt_of_lt_of_le hlt T1.size
    have hg1 : gw < w1.heap.size := Nat.lt_of_lt_of_le hgw T1.size
    have HRP := Hid.mk rp1
    have HK1 := Hid.mk (HP.out.ks.tch T1 HOS.out.s.k)
    have HPA1 := Hid.mk (HP.out.ps.tch T1 HOS.out.s.p)
    have HD1 := Hid.mk (HP.out.ds.tch T1 HOS.out.s.d)
    have HPR1 := Hid.mk (H.out.pr.below (H.out.bl' (S := fun g => g = r.gs) (TchS.of_tch T1 (fun _ => rfl)) (fun g e => by rw [e, (H.out.pa i r HI.out).2.2.1]; omega)))
    have HF : Hid (Offs w1.heap.size r.vS r.vP r.vD) := Hid.mk ⟨HK1.out.fresh (Nat.le_refl _), HPA1.out.fresh (Nat.le_refl _), HD1.out.fresh (Nat.le_refl _)⟩
    have HH : Hid (∀ ω : World, Below w1.heap.size w1 ω → Calls Tryz.prog 60 #[pv, .agg #[.string r.x.root, .string r.x.self, .string (pubF r.x.self), .string r.x.theirs, .string r.x.send, .string r.x.read, .int .i64 (r.x.ns : Int), .int .i64 (r.x.nr : Int), .int .i64 (r.x.pn : Int), r.vS, r.vP, r.vD], .string text, .string data] ω fun e w' => RetQ w1 ω r y t c e w') := Hid.mk (fun ω bω => HHE.out w1 ω bω (HPR1.out.below bω) (HK1.out.below bω) (HPA1.out.below bω) (HD1.out.below bω))
    obtain ⟨q1, q2, q3, q4, q5, q6, q7, q8, q9, qA, qB, qC⟩ := pair_cells rp1
    clear rw1 rp1 T1 HHE
    go_cut [11, 12, 13] from 38 (fun v11 v12 v13 wx => CutP w1 r y t c v11 v12 v13 wx)
    case first =>
      go_region_with (go_at_call 60; with_reducible refine (HH.out _ (by first | exact (Below.refl _ _).drew | exact (by_alloc _ _).drew)).mono ?_; rintro e w2 ⟨aS, mS, cS, aP, mP, cP, aD, mD, cD, rfl, HZ⟩; (try ((have r1 := side_new w1); (have r2 := newl_row HZ.out r1); (have HR1 := Hid.mk r1); obtain ⟨⟨k0', k1', k2', k3', k4', k5', k6', k7', k8', k9', kA', kB'⟩, ⟨z0', z1', z2', z3', z4', z5', z6', z7', z8', z9', zA', zB'⟩⟩ := side_cells r2; clear r1 r2)))
      all_goals go_wp2_with fail
      all_goals go_meet
      all_goals first
        | with_reducible exact HZ.out.boxB
        | with_reducible exact HZ.out.boxA HF.out HR1.out
    case rest =>
      obtain ⟨rfl, rfl, g, vS, vP, vD, rfl, hg, hrow, hk, hpa, hdr, ho, hb⟩ := hcut
      have HROW := Hid.mk hrow
      have HB := Hid.mk hb
      have HKX := Hid.mk hk
      have HPX := Hid.mk hpa
      have HDX := Hid.mk hdr
      have HOX := Hid.mk ho
      have HALL := Hid.mk (sideC_all hk hpa hdr)
      have HTH : Hid (wc.there r.gp 1 (sideC y vS vP vD).size) := Hid.mk (pair_there ((below_row hb (by rw [HRP.out, pairC_size]; omega)).trans HRP.out) y vS vP vD)
      clear hrow hb hk hpa hdr ho q1 q2 q3 q4 q5 q6 q7 q8 q9 qA qB qC k0
      have LL : Hid (∃ r', LW w0 gw pv ρ (putSide wc r.gp y vS vP vD) vp vm (L.set i r') M a b ∧ TchS (fun g => ρ g ≠ 0) w (putSide wc r.gp y vS vP vD)) := Hid.mk (by
        obtain ⟨_, vK, vQ, vE, hs1, hok⟩ := HQ.out
        obtain ⟨p1, p2, p3⟩ := put_pair HP.out hne HOP.out HWF'.out HT1.out hs1 hok HB.out HKX.out HPX.out HDX.out HOX.out
        exact ⟨_, H.out.pair HI.out p2 _ p1 rfl rfl p3⟩)
      obtain ⟨r', hl⟩ := LL.out
      have HL' := Hid.mk hl
      clear hl LL
      by_cases hem : t.toList = []
      · have b1 : t.toList.isEmpty = true := by rw [hem]; rfl
        go_wp2_with (first
          | (refine at_load 67 rfl ?_; refine wpl_load rtSide rfl _ rfl g rfl (sideC y vS vP vD) HROW.out (sideC_size _ _ _ _) ?_)
          | (refine at_store 67 rfl ?_; refine wpl_put rfl _ _ rfl r.gp y vS vP vD rfl rfl HTH.out HALL.out ?_)
          | fail)
        go_ret
        exact ⟨rfl, (Nxt.of HL'.out.2 HL'.out.1 (by rw [List.length_set]; exact h1) h2).mono (Nat.le_succ _)⟩
      · have b1 : t.toList.isEmpty = false := by cases hq : t.toList with | nil => exact absurd hq hem | cons _ _ => rfl
        go_wp2_with (first
          | (refine at_load 67 rfl ?_; refine wpl_load rtSide rfl _ rfl g rfl (sideC y vS vP vD) HROW.out (sideC_size _ _ _ _) ?_)
          | (refine at_store 67 rfl ?_; refine wpl_put rfl _ _ rfl r.gp y vS vP vD rfl rfl HTH.out HALL.out ?_)
          | (go_at_call 52; have M := said_f HL'.out.1 t HTX.out (by omega); with_reducible refine M.mono ?_; clear M; rintro e w4 ⟨rfl, ρ4, v4, l4, t4⟩)
          | fail)
        go_ret
        exact ⟨rfl, HL'.out.2.trans t4, ρ4, _, _, _, _, _, _, l4, by rw [List.length_set]; omega, by rw [List.length_append]; simp; omega⟩
end Go.Proofs.YteghoooelgcpkabGreatDoor
