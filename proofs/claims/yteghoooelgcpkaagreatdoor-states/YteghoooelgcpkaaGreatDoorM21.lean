import Derived.Test.YteghoooelgcpkaaGreatDoorM20
namespace Go.Msg
open Go.RowKit Go.Proofs.YteghoooelgcpkaaGreatDoor
def hearP (x : Sd) (p : Pt) (data : ByteArray) : Sd × ByteArray × Int :=
  match x.saved.findIdx? (isK p.point p.n) with
  | some i => match x.saved[i]? with
    | some k => hearK x p data i k
    | none => (x, ⟨#[]⟩, 5)
  | none => if x.theirs = p.point then onS x p data else if been x p.point = true then (x, ⟨#[]⟩, 6) else newS x p data
theorem hearS_eq {x : Sd} {m data : ByteArray} (h : IsMsg m) : hearS x m data = hearP x (ptF m) data := by
  unfold hearS hearP onS newS
  rw [if_neg (by simpa using h)]
  generalize ptF m = p
  cases x.saved.findIdx? (isK p.point p.n) with
  | some i => cases x.saved[i]? <;> rfl
  | none =>
    cases x.draws with
    | nil => rfl
    | cons d l => rfl
theorem hearP_err (x : Sd) (p : Pt) (data : ByteArray) (h : (hearP x p data).2.2 ≠ 0) : (hearP x p data).1 = x := by
  revert h
  unfold hearP
  split
  · split
    · unfold hearK; split
      · intro h; exact absurd rfl h
      · intro _; rfl
    · intro _; rfl
  · split
    · unfold onS; split
      · intro _; rfl
      · split
        · intro _; rfl
        · unfold hearC; split
          · intro h; exact absurd rfl h
          · intro _; rfl
    · split
      · intro _; rfl
      · unfold newS; split
        · intro _; rfl
        · split
          · intro _; rfl
          · split
            · intro _; rfl
            · split
              · intro _; rfl
              · split
                · intro _; rfl
                · unfold hearN; split
                  · intro h; exact absurd rfl h
                  · intro _; rfl
theorem hearP_text (x : Sd) (p : Pt) (data : ByteArray) (h : (hearP x p data).2.2 ≠ 0) : (hearP x p data).2.1 = ⟨#[]⟩ := by
  revert h
  unfold hearP
  split
  · split
    · unfold hearK; split
      · intro h; exact absurd rfl h
      · intro _; rfl
    · intro _; rfl
  · split
    · unfold onS; split
      · intro _; rfl
      · split
        · intro _; rfl
        · unfold hearC; split
          · intro h; exact absurd rfl h
          · intro _; rfl
    · split
      · intro _; rfl
      · unfold newS; split
        · intro _; rfl
        · split
          · intro _; rfl
          · split
            · intro _; rfl
            · split
              · intro _; rfl
              · split
                · intro _; rfl
                · unfold hearN; split
                  · intro h; exact absurd rfl h
                  · intro _; rfl
end Go.Msg
namespace Go.Proofs.YteghoooelgcpkaaGreatDoor
open Go.RowKit Go.Msg
theorem rtSes : RowTy Tryz.prog 82 11 := ⟨by decide, by kernel_rfl, _, Tryz.underlying82, rfl⟩
theorem outs_tch {g : Nat} {w W w' : World} {vK vP vD : Value} {r : Sd × ByteArray × Int} {e : Ending} (h : Outs g W vK vP vD r e w') (t : Tch g w W) : Outs g w vK vP vD r e w' := by
  obtain ⟨h1, h2, h3⟩ := h
  refine ⟨h1, t.trans h2, fun h => ?_⟩
  obtain ⟨a, b, c, h4, h5⟩ := h3 h
  exact ⟨a, b, c, h4, fun k hk => h5 k (Nat.lt_of_lt_of_le hk t.size)⟩
theorem readOn_o (x : Sd) (hx : x.Wf) (g : Nat) (vK vP vD : Value) (p : Pt) (hp : PtOk p) (hth : x.theirs = p.point) (data : ByteArray) (hd : (data ++ p.head).size ≤ 200) (w : World) (hs : SesAt w g x vK vP vD) (ho : Offs g vK vP vD) (hT : Tbl w) (hg2 : 2 ≤ g) :
    Calls Tryz.prog 90 #[.pointer (some ⟨g, 0, none⟩), .agg (ptC p), .string (data ++ p.head)] w fun e w' => Outs g w vK vP vD (onS x p data) e w' :=
  (readOn_f x hx g vK vP vD p hp hth data hd w hs ho hT hg2).mono (fun e w' h => by
    obtain ⟨x', t, er, h1, h2, h3, h4⟩ := h
    rw [h1]
    refine ⟨h2, h3, fun h0 => ?_⟩
    obtain ⟨v, h5, h6⟩ := h4 h0
    exact ⟨v, vP, vD, h5, fun k hk ho => ⟨h6 k hk, ho.p, ho.d⟩⟩)
theorem outs_ret {g : Nat} {w w' : World} {vK vP vD : Value} {r : Sd × ByteArray × Int} {e : Ending} (h : Outs g w vK vP vD r e w') : e = .returned (.tuple #[.string r.2.1, .int .i64 r.2.2]) := h.1
set_option maxRecDepth 8000 in
set_option maxHeartbeats 16000000 in
theorem sread_f (x : Sd) (hx : x.Wf) (g : Nat) (vK vP vD : Value) (p : Pt) (hp : PtOk p) (data : ByteArray) (hd : (data ++ p.head).size ≤ 200) (w : World) (hs : SesAt w g x vK vP vD) (ho : Offs g vK vP vD) (hT : Tbl w) (hg2 : 2 ≤ g) :
    Calls Tryz.prog 55 #[.pointer (some ⟨g, 0, none⟩), .agg (ptC p), .string (data ++ p.head)] w fun e w' => Outs g w vK vP vD (hearP x p data) e w' := by
  obtain ⟨V, hV, R0, B0, z0⟩ := box_pt w p
  have hgl := hs.lt
  have hgb : w.heap.size ≠ g := by omega
  have S0 := hs.below B0
  have s0 := B0.size
  obtain ⟨kf, hkf⟩ : ∃ a, a = kfS p.point p.n x.saved := ⟨_, rfl⟩
  have HKF := Hid.mk hkf
  have hsl := hx.saved
  have HM : Hid (∀ W, Below V.heap.size V W → Calls Tryz.prog 88 #[vK, .string p.point, .int .i64 (p.n : Int)] W fun e w' => ∃ v', e = .returned (.tuple #[.string kf.1, v']) ∧ KpsAt w' v' kf.2 ∧ (∀ k, k < w.heap.size → Off k v') ∧ Below V.heap.size V w') := Hid.mk (fun W b => (keptFor_f vK x.saved (by omega) p.point p.n W (S0.vk.below b)).mono (fun e w' h => by
    obtain ⟨v', h1, h2, h3, h4⟩ := h
    rw [← hkf] at h1 h2
    exact ⟨v', h1, h2, fun k hk => h3 k (by have := b.size; omega), below_lift b b.size h4⟩))
  obtain ⟨DD, hDD⟩ : ∃ D, D = data ++ p.head := ⟨_, rfl⟩
  have HON : Hid (x.theirs = p.point → ∀ W, SesAt W g x vK vP vD → Tbl W → Calls Tryz.prog 90 #[.pointer (some ⟨g, 0, none⟩), .agg (ptC p), .string DD] W fun e w' => Outs g W vK vP vD (onS x p data) e w') := Hid.mk (fun h W S T => by rw [hDD]; exact readOn_o x hx g vK vP vD p hp h data hd W S ho T hg2)
  have HNW : Hid (∀ W, SesAt W g x vK vP vD → Tbl W → Calls Tryz.prog 92 #[.pointer (some ⟨g, 0, none⟩), .agg (ptC p), .string DD] W fun e w' => Outs g W vK vP vD (newS x p data) e w') := Hid.mk (fun W S T => by rw [hDD]; exact readNew_f x hx g vK vP vD p hp data hd W S ho T hg2)
  have HDD := Hid.mk hDD
  rw [← hDD] at hd ⊢
  obtain ⟨RES, hRES⟩ : ∃ r, r = hearP x p data := ⟨_, rfl⟩
  have HRES := Hid.mk hRES
  rw [← hRES]
  have HR0 := Hid.mk R0
  have HS0 := Hid.mk S0
  have HO := Hid.mk ho
  have HT := Hid.mk hT
  have HX := Hid.mk hx
  have HP := Hid.mk hp
  obtain ⟨aK, mK, cK, eK⟩ := hs.vk.slice
  have g8 : V.cell? ⟨g, 8, none⟩ = some vK := rowcell S0.row 8 _ rfl
  have p0 := pt_c0 R0
  have p2 := pt_c2 R0
  clear R0 S0 hs ho hT hx hp hkf hDD hRES
  rw [eK] at g8 HM
  rw [box_ptC]
  go_enter Tryz.func55, Tryz.ntmps55
  go_upto_region 1 with fail
  rw [← hV]
  clear hV
  go_cut [8, 9] from 10 to 21 (fun key oth wx => key = .string kf.1 ∧ KpsAt wx oth kf.2 ∧ (∀ k, k < w.heap.size → Off k oth) ∧ Below V.heap.size V wx)
  case first =>
    go_region_with (first | (go_at_call 88; with_reducible refine (HM.out _ (by first | exact (Below.refl _ _).drew | exact below_drewN (Below.refl _ _) _)).mono ?_; rintro e w1 ⟨v1, rfl, hv1, hoff, b1⟩) | fail)
    all_goals go_wp2_with fail
    all_goals go_meet
    all_goals exact ⟨rfl, hv1, hoff, b1⟩
  case rest =>
    obtain ⟨rfl, hv1, hoff, b1⟩ := hcut
    obtain ⟨aV, mV, cV, eV⟩ := hv1.slice
    subst eV
    have B1 := below_lift B0 s0 b1
    have HV1 := Hid.mk hv1
    have HOF := Hid.mk hoff
    have HS1 := Hid.mk (HS0.out.below b1)
    have HR1 := Hid.mk (pt_below HR0.out b1)
    clear hv1 hoff g8 p0 p2 HS0 HR0
    obtain ⟨W1, hW1⟩ : ∃ W, W = wc := ⟨_, rfl⟩
    subst hW1
    cases hfi : x.saved.findIdx? (isK p.point p.n) with
    | some i =>
      obtain ⟨k, hk⟩ := idx_some hfi
      have hkk := kfS_some HX.out.savedW hfi hk
      rw [← HKF.out] at hkk
      have hkey : k.key.size = 32 := (HX.out.savedW k (List.mem_of_getElem? hk)).key
      have e1 : kf.1 = k.key := by rw [hkk]
      have e2 : kf.2 = x.saved.take i ++ x.saved.drop (i + 1) := by rw [hkk]
      rw [e1]
      rw [e2] at HV1
      have hne : k.key.toList.isEmpty = false := by
        cases h : k.key.toList with
        | nil => have := size_zero.2 (toList_nil.1 h); omega
        | cons _ _ => rfl
      have hne2 : ¬ k.key.toList = [] := fun h => by rw [h] at hne; cases hne
      have HRK : Hid (RES = hearK x p data i k) := Hid.mk (by rw [HRES.out]; unfold hearP; rw [hfi]; simp only [hk])
      have g8 : W1.cell? ⟨g, 8, none⟩ = some vK := rowcell HS1.out.row 8 _ rfl
      rw [eK] at g8
      have y8 := rowfz2 HS1.out.row 8 (by rw [sesC_size]; omega)
      have HR2 : Hid ((W1.setCell ⟨g, 8, none⟩ (.slice aV mV cV)).rowOf w.heap.size = ptC p) := Hid.mk (pt_tch HR1.out ((tch_refl g W1).setCell 8 _) hgb)
      have t2 : Tch g W1 (W1.setCell ⟨g, 8, none⟩ (.slice aV mV cV)) := (tch_refl g W1).setCell 8 _
      have T2 : Tch g w (W1.setCell ⟨g, 8, none⟩ (.slice aV mV cV)) := (tch_of B1 g).trans t2
      have HMO := Hid.mk (opened_f k.key hkey p HP.out DD hd (W1.setCell ⟨g, 8, none⟩ (.slice aV mV cV)) (HT.out.tch T2 hg2))
      clear hfi hk hkk e1 e2 hkey
      by_cases hq : tagF k.key DD p.turned = p.tag
      · have HQ := Hid.mk hq
        have HRS : Hid (RES = ({ x with saved := x.saved.take i ++ x.saved.drop (i + 1) }, turnF k.key p.turned, 0)) := Hid.mk (by rw [HRK.out]; unfold hearK okK; rw [← HDD.out, if_pos (by simp [hq])])
        clear hq
        go_wp2_with (first
          | (refine wpl_load rtPt rfl _ rfl w.heap.size rfl (ptC p) HR2.out (ptC_size p) ?_)
          | (go_at_call 89; with_reducible refine HMO.out.mono ?_; rintro e w6 ⟨h6, b6⟩; have he6 := h6.elim (fun q => q.2) (fun q => absurd HQ.out q.1); subst he6; clear h6)
          | fail)
        go_ret2
        rw [HRS.out]
        have S2 : SesAt (W1.setCell ⟨g, 8, none⟩ (.slice aV mV cV)) g { x with saved := x.saved.take i ++ x.saved.drop (i + 1) } (.slice aV mV cV) vP vD := ⟨rowOf_setCell HS1.out.row (by rw [sesC_size]; omega) 8 _, HV1.out.tch t2 (HOF.out g hgl), HS1.out.vp.tch t2 HO.out.p, HS1.out.vd.tch t2 HO.out.d⟩
        exact ⟨rfl, T2.trans (tch_of b6 g), fun _ => ⟨.slice aV mV cV, vP, vD, S2.below b6, fun k hk h => h.new (HOF.out k hk)⟩⟩
      · have HQ := Hid.mk hq
        have HRS : Hid (RES = (x, ⟨#[]⟩, 10)) := Hid.mk (by rw [HRK.out]; unfold hearK okK; rw [← HDD.out, if_neg (by simp [hq])])
        clear hq
        go_wp2_with (first
          | (refine wpl_load rtPt rfl _ rfl w.heap.size rfl (ptC p) HR2.out (ptC_size p) ?_)
          | (go_at_call 89; with_reducible refine HMO.out.mono ?_; rintro e w6 ⟨h6, b6⟩; have he6 := h6.elim (fun q => absurd q.1 HQ.out) (fun q => q.2); subst he6; clear h6)
          | fail)
        go_ret2
        exact outs_err HRS.out (by decide) (T2.trans (tch_of b6 g)) rfl
    | none =>
      have hkk := kfS_none hfi
      rw [← HKF.out] at hkk
      have e1 : kf.1 = ⟨#[]⟩ := by rw [hkk]
      rw [e1]
      have HRN : Hid (RES = if x.theirs = p.point then onS x p data else if been x p.point = true then (x, ⟨#[]⟩, 6) else newS x p data) := Hid.mk (by rw [HRES.out]; unfold hearP; rw [hfi])
      have g2 := ses_c2 HS1.out
      have p0 := pt_c0 HR1.out
      clear hfi hkk e1
      by_cases hth : p.point.toList = x.theirs.toList
      · have bth : (p.point.toList == x.theirs.toList) = true := by rw [hth]; simp
        have hte : x.theirs = p.point := (toList_inj.1 hth).symm
        have HRS : Hid (RES = onS x p data) := Hid.mk (by rw [HRN.out, if_pos hte])
        have HM2 := HON.out hte
        have HMM := Hid.mk HM2
        clear HM2 hte
        go_wp2_with fail
        go_quiet (fail)
        have B2 := below_drewN B1 nq
        have R2 : (W1.drewN nq).rowOf w.heap.size = ptC p := HR1.out
        have S2 := Hid.mk (HS1.out.below (below_drewN (Below.refl _ _) nq))
        generalize W1.drewN nq = W2 at B2 R2 S2 ⊢
        clear g2 p0
        go_wp2_with (first
          | (refine wpl_load rtPt rfl _ rfl w.heap.size rfl (ptC p) R2 (ptC_size p) ?_)
          | (go_at_call 90; have M := HMM.out W2 S2.out (HT.out.below B2); with_reducible refine M.mono ?_; clear M; rintro e w6 h6; have he6 := outs_ret h6; subst he6; have H6 := Hid.mk h6; clear h6)
          | fail)
        go_ret2
        rw [HRS.out]
        exact outs_tch H6.out (tch_of B2 g)
      · have bth : (p.point.toList == x.theirs.toList) = false := by simpa using hth
        have hte : ¬ x.theirs = p.point := fun e => hth (by rw [e])
        obtain ⟨aP, mP, cP, eP⟩ := HS1.out.vp.slice
        go_wp2_with fail
        go_quiet (fail)
        have B2 := below_drewN B1 nq
        have R2 := Hid.mk (show (W1.drewN nq).rowOf w.heap.size = ptC p from HR1.out)
        have S2 := Hid.mk (HS1.out.below (below_drewN (Below.refl _ _) nq))
        generalize W1.drewN nq = W2 at B2 R2 S2 ⊢
        have s2 := B2.size
        clear g2 p0
        go_wp2_with fail
        have E9 : ∀ W, Below W2.heap.size W2 W → W.cell? ⟨g, 9, none⟩ = some vP := fun W hW => rowcell (S2.out.below hW).row 9 _ rfl
        have E0 : ∀ W, Below W2.heap.size W2 W → W.cell? ⟨w.heap.size, 0, none⟩ = some (.string p.point) := fun W hW => pt_c0 (pt_below R2.out hW)
        have hpl := HX.out.past
        refine wp_region_quiet (C := fun W => Below W2.heap.size W2 W) mixed_any (by kernel_rfl) (Below.refl _ _).drew ?_
        simp only
        refine quiet_move rfl _ rfl (.pointer (some ⟨g, 0, none⟩)) rfl ?_
        simp only [Act.put, List.setIfInBounds_toArray, List.set_cons_succ, List.set_cons_zero]
        refine quiet_nil rfl _ rfl ⟨g, 0, none⟩ rfl ?_
        simp only [Act.put, List.setIfInBounds_toArray, List.set_cons_succ, List.set_cons_zero]
        refine quiet_value rfl (.pointer (some ⟨g, 9, none⟩)) (fun W hW => ⟨W, by unfold execOp; simp [go_sem, Act.eval], rfl⟩) ?_
        simp only [Act.put, List.setIfInBounds_toArray, List.set_cons_succ, List.set_cons_zero]
        refine quiet_value rfl (.slice aP mP cP) (fun W hW => ⟨W, by have E := E9 W hW; rw [eP] at E; unfold execOp; simp [go_sem, Act.eval, E], rfl⟩) ?_
        simp only [Act.put, List.setIfInBounds_toArray, List.set_cons_succ, List.set_cons_zero]
        refine quiet_value rfl (.pointer (some ⟨w.heap.size, 0, none⟩)) (fun W hW => ⟨W, by unfold execOp; simp [go_sem, Act.eval], rfl⟩) ?_
        simp only [Act.put, List.setIfInBounds_toArray, List.set_cons_succ, List.set_cons_zero]
        refine quiet_value rfl (.string p.point) (fun W hW => ⟨W, by have E := E0 W hW; unfold execOp; simp [go_sem, Act.eval, E], rfl⟩) ?_
        simp only [Act.put, List.setIfInBounds_toArray, List.set_cons_succ, List.set_cons_zero]
        refine quiet_call rfl (.bool (been x p.point)) 91 #[.slice aP mP cP, .string p.point] (fun W => by unfold execOp; simp [go_sem, Act.eval]) (fun W hW => (has_f (.slice aP mP cP) x.past (by omega) p.point W (by rw [← eP]; exact (S2.out.below hW).vp)).mono fun _ _ h => ⟨h.1, by rw [h.2]; exact hW⟩) ?_
        simp only [Act.put, List.setIfInBounds_toArray, List.set_cons_succ, List.set_cons_zero]
        refine wpQuiet_nil ?_
        intro W3 b3
        have B3 := below_lift B2 s2 b3
        have HS3 := Hid.mk (S2.out.below b3)
        have R3 := pt_below R2.out b3
        clear E9 E0 b3 S2 R2
        cases hbn : been x p.point with
        | true =>
          have HRS : Hid (RES = (x, ⟨#[]⟩, 6)) := Hid.mk (by rw [HRN.out, if_neg hte, if_pos hbn])
          clear hbn hte
          go_wp2
          go_ret2
          exact outs_err HRS.out (by decide) (tch_of B3 g) rfl
        | false =>
          have HRS : Hid (RES = newS x p data) := Hid.mk (by rw [HRN.out, if_neg hte, if_neg (by rw [hbn]; simp)])
          clear hbn hte
          go_wp2_with (first
            | (refine wpl_load rtPt rfl _ rfl w.heap.size rfl (ptC p) R3 (ptC_size p) ?_)
            | (go_at_call 92; have M := HNW.out W3 HS3.out (HT.out.below B3); with_reducible refine M.mono ?_; clear M; rintro e w6 h6; have he6 := outs_ret h6; subst he6; have H6 := Hid.mk h6; clear h6)
            | fail)
          go_ret2
          rw [HRS.out]
          exact outs_tch H6.out (tch_of B3 g)
end Go.Proofs.YteghoooelgcpkaaGreatDoor
