import Derived.Test.YteghoooelgcpkaaGreatDoorM22
namespace Go.Proofs.YteghoooelgcpkaaGreatDoor
open Go.RowKit Go.Msg
set_option maxRecDepth 20000 in
set_option maxHeartbeats 100000000 in
theorem hear_newB (pv : Value) (x : Sd) (hx : x.Wf) (vS vP vD : Value) (m data : ByteArray) (hms : m.size ≤ 9223372036854775807) (hm : IsMsg m) (hdt : data.size ≤ 100) (hf : x.saved.findIdx? (isK (ptF m).point (ptF m).n) = none) (hth : x.theirs ≠ (ptF m).point) (hpr : x.read.size = 0) (hpt : x.theirs.size ≠ 0) (w : World) (hpv : PrimAt w pv) (hS : KpsAt w vS x.saved) (hP : StrsAt w vP x.past) (hD : StrsAt w vD x.draws) :
    Calls Tryz.prog 31 #[pv, .agg (sideC x vS vP vD), .string m, .string data] w fun e w' => HearP w vS vP vD (hearS x m data) e w' := by
  obtain ⟨p, hp⟩ : ∃ p, p = ptF m := ⟨_, rfl⟩
  have HOK : Hid (PtOk p) := Hid.mk (by rw [hp]; exact pt_ok hm)
  have zh : p.head.size = 38 := by rw [hp]; exact (ptF_sizes hm).2.1
  obtain ⟨RES, hRES⟩ : ∃ r, r = hearS x m data := ⟨_, rfl⟩
  have HRES : Hid (RES = hearP x p data) := Hid.mk (by rw [hRES, hearS_eq hm, hp])
  rw [← hRES]
  rw [← hp] at hf
  have HF := Hid.mk hf
  clear hf
  rw [← hp] at hth
  have HTHP := Hid.mk hth
  have HPR := Hid.mk hpr
  have HPT := Hid.mk hpt
  clear hth hpr hpt
  have HK := Hid.mk hS
  have HPA := Hid.mk hP
  have HDR := Hid.mk hD
  have HXO := Hid.mk (side_one hS hP hD)
  obtain ⟨W0, hW0, RX0, RR0, B0, z0⟩ := hear_box w x vS vP vD
  have s0 := B0.size
  have HM : Hid (Calls Tryz.prog 56 #[.string m] W0 fun e w' => e = .returned (.tuple #[.agg (partsC p), .bool true]) ∧ Below W0.heap.size W0 w') := Hid.mk ((split_f m hms W0).mono (fun e w' h => by
    rcases h.1 with ⟨_, h1⟩ | ⟨h1, _⟩
    · exact ⟨by rw [h1, hp], h.2⟩
    · exact absurd hm h1))
  obtain ⟨aoS, nS, capS, eS⟩ := hS.slice
  obtain ⟨aoP, nP, capP, eP⟩ := hP.slice
  obtain ⟨aoD, nD, capD, eD⟩ := hD.slice
  have HES := Hid.mk eS
  have HEP := Hid.mk eP
  have HED := Hid.mk eD
  rw [eS] at hS
  rw [eP] at hP
  rw [eD] at hD
  obtain ⟨hlS, hcS, gS, oS, haS, hxS⟩ := hS.opened
  obtain ⟨hlP, hcP, gP, oP, haP, hxP⟩ := hP.opened
  obtain ⟨hlD, hcD, gD, oD, haD, hxD⟩ := hD.opened
  have HX := Hid.mk hx
  have HLS := Hid.mk hlS
  have HLP := Hid.mk hlP
  have HLD := Hid.mk hlD
  have HXS := Hid.mk hxS
  have HXP := Hid.mk hxP
  have HXD := Hid.mk hxD
  have HPV := Hid.mk hpv
  have HPO := Hid.mk HPA.out.one
  have HDO := Hid.mk HDR.out.one
  have bS : nS ≤ 32 := by rw [hlS]; exact hx.saved
  have bP : nP ≤ 24 := by rw [hlP]; exact hx.past
  have bD : nD ≤ 8 := by rw [hlD]; exact hx.draws
  have zDH : (data ++ p.head).size ≤ 200 := by rw [ByteArray.size_append]; omega
  have zpt := HOK.out.point
  have ztu := HOK.out.turned
  have ztg := HOK.out.tag
  have hpa := HOK.out.ahead
  have hpn := HOK.out.n
  have hnr := hx.nr
  have hns := hx.ns
  have hpn' : (p.n : Int) < 300 := by omega
  have hpa' : (p.ahead : Int) ≤ 300 := by omega
  have hnr' : (x.nr : Int) ≤ 300 := by omega
  have zsf := hx.self
  have zrt := hx.root
  obtain ⟨DH, hDH⟩ : ∃ d, d = data ++ p.head := ⟨_, rfl⟩
  rw [← hDH] at zDH
  have HDH := Hid.mk hDH
  have zdd : data.size + p.head.size ≤ 200 := by omega
  clear hS hP hD hx hp hm hRES hxS hxP hxD hpv hlS hlP hlD eS eP eD hDH
  rw [side_lit]
  go_enter Tryz.func31, Tryz.ntmps31
  go_upto_region 1 with fail
  rw [← hW0]
  clear hW0
  go_upto_region 4 with (first
    | (go_at_call 56; with_reducible refine HM.out.mono ?_; rintro e w1 ⟨rfl, b1⟩; have B1 := below_lift B0 s0 b1; obtain ⟨r1, w2, hw2, R2, B2, z2⟩ := new_stored B1 pa0 (partsC p) 98 pa0_pos; have hx1 := (below_row b1 (by rw [RX0, sideC_size]; omega)).trans RX0; have hr1 := (below_row b1 (by rw [RR0]; exact side0_pos)).trans RR0; have hx2 := ns_other hw2 hx1 (by rw [sideC_size]; omega); have hr2 := ns_other hw2 hr1 side0_pos; clear hx1 hr1 RX0 RR0)
    | (refine at_store 98 rfl ?_; refine wpl_store rtParts rfl _ _ rfl w1.heap.size rfl (partsC p) rfl ?_ (partsC_size p) (partsC_one p) w2 hw2.symm ?_; (focus (exact congrArg Array.size r1)); clear hw2 r1)
    | fail)
  have hi0 : HI w w2 w1.heap.size (sideC x vS vP vD) p := ⟨B2, hx2, hr2, R2⟩
  have hgp : w.heap.size + 1 < w1.heap.size := by have := b1.size; omega
  clear hx2 hr2 R2 b1 B1 B2 B0 s0 z0 z2 HM
  generalize w1.heap.size = gp at hi0 hgp ⊢
  clear w1
  go_wp2_with fail
  go_loopw [13] (fun i wq => ∃ j : Nat, i = .int .i64 j ∧ j ≤ nS ∧ Hid (∀ i k, i < j → x.saved[i]? = some k → isK p.point p.n k = false) ∧ HI w wq gp (sideC x vS vP vD) p) (fun i _ => nS - (intOf i).toNat)
  case atStart => exact ⟨0, rfl, by omega, Hid.mk (fun i k h => absurd h (by omega)), hi0⟩
  case round =>
    clear hi0
    obtain ⟨j, rfl, hj, HNO, hi⟩ := hrel
    have hib := hi.b
    have his := hib.size
    by_cases hlt : j < nS
    · have c1 : (j : Int) < nS := by omega
      have c9 := d_c9 hi.xC
      have hao := haS (by omega)
      rw [HES.out, hao] at c9
      obtain ⟨kp, hkp⟩ : ∃ kp, x.saved[j]? = some kp := ⟨x.saved[j]'(by rw [← HLS.out]; exact hlt), List.getElem?_eq_getElem _⟩
      obtain ⟨hp0, hp1, hp2⟩ := kp_up hib HXS.out j kp hkp
      have HKP := Hid.mk hkp
      have hkw := HX.out.savedW kp (List.mem_of_getElem? hkp)
      have zkk := hkw.key
      clear hkp hkw
      have HAO := Hid.mk hao
      clear hao
      obtain ⟨r1, w2, hw2, R2, B2, z2⟩ := new_stored hib sv0 (kC kp.pt (kp.n : Int) kp.key) 89 sv0_pos
      have hi2 : HI w w2 gp (sideC x vS vP vD) p := ⟨B2, ns_other hw2 hi.x (by rw [sideC_size]; omega), ns_other hw2 hi.r side0_pos, ns_other hw2 hi.p (by rw [partsC_size]; omega)⟩
      have k0 := k3_c0 R2
      have k1 := k3_c1 R2
      have k2 := k3_c2 R2
      have q0 := pa_c0 hi2.p
      have q1 := pa_c1 hi2.p
      have q2 := pa_c2 hi2.p
      have q5 := pa_c5 hi2.p
      clear R2
      have HNK : Hid (isK p.point p.n kp = false) := Hid.mk (by have := List.findIdx?_eq_none_iff.1 HF.out kp (List.mem_of_getElem? HKP.out); simpa using this)
      have hmt : ¬ (kp.pt = p.point ∧ kp.n = p.n) := by have := HNK.out; unfold isK at this; simpa using this
      have HNO2 : Hid (∀ i k, i < j + 1 → x.saved[i]? = some k → isK p.point p.n k = false) := Hid.mk (fun i k hi hk => by
        by_cases e : i = j
        · subst e; rw [HKP.out] at hk; cases hk; exact HNK.out
        · exact HNO.out i k (by omega) hk)
      by_cases hpe : kp.pt = p.point
      · have hne : ¬ kp.n = p.n := fun e => hmt ⟨hpe, e⟩
        have t1 : kp.pt.toList = p.point.toList := by rw [hpe]
        have t2 : (kp.pt.toList == p.point.toList) = true := by rw [t1]; simp
        have t5 : (kp.pt.toList != p.point.toList) = false := by rw [t1]; simp
        have t3 : ((kp.n : Int) == (p.n : Int)) = false := by simp; omega
        have t4 : ((kp.n : Int) != (p.n : Int)) = true := by simp; omega
        clear hmt hpe hne t1
        go_wp2_with (first
          | (refine at_load 89 rfl ?_; refine wpl_load_sv rfl _ rfl gS (oS + j * 3) rfl kp.pt kp.key (kp.n : Int) hp0 hp1 hp2 ?_)
          | (refine at_store 89 rfl ?_; refine wpl_store rtSaved rfl _ _ rfl wr.heap.size rfl (kC kp.pt (kp.n : Int) kp.key) rfl ?_ (kC_size _ _ _) (kC_one _ _ _) w2 hw2.symm ?_; (focus (exact congrArg Array.size r1)); clear hw2 r1)
          | fail)
        go_roundw
        case rel => exact ⟨j + 1, by go_num, by omega, HNO2, hi2⟩
        case measure => simp [intOf]; omega
      · have t1 : ¬ kp.pt.toList = p.point.toList := fun e => hpe (toList_inj.1 e)
        have t2 : (kp.pt.toList == p.point.toList) = false := by simpa using t1
        have t5 : (kp.pt.toList != p.point.toList) = true := by simp [t1]
        clear hmt hpe
        go_wp2_with (first
          | (refine at_load 89 rfl ?_; refine wpl_load_sv rfl _ rfl gS (oS + j * 3) rfl kp.pt kp.key (kp.n : Int) hp0 hp1 hp2 ?_)
          | (refine at_store 89 rfl ?_; refine wpl_store rtSaved rfl _ _ rfl wr.heap.size rfl (kC kp.pt (kp.n : Int) kp.key) rfl ?_ (kC_size _ _ _) (kC_one _ _ _) w2 hw2.symm ?_; (focus (exact congrArg Array.size r1)); clear hw2 r1)
          | fail)
        go_roundw
        case rel => exact ⟨j + 1, by go_num, by omega, HNO2, hi2⟩
        case measure => simp [intOf]; omega
    · have c1 : ¬ (j : Int) < nS := by omega
      have hj' : j = nS := by omega
      have HFI : Hid (x.saved.findIdx? (isK p.point p.n) = none) := Hid.mk (by
        refine List.findIdx?_eq_none_iff.2 (fun k hk => ?_)
        obtain ⟨i, hi⟩ := List.getElem?_of_mem hk
        exact HNO.out i k (by rw [hj', HLS.out]; exact (List.getElem?_eq_some_iff.1 hi).1) hi)
      have HRN : Hid (RES = if x.theirs = p.point then onS x p data else if been x p.point = true then (x, ⟨#[]⟩, 6) else newS x p data) := Hid.mk (by rw [HRES.out]; unfold hearP; rw [HFI.out])
      have c9 := d_c9 hi.xC
      rw [HES.out] at c9
      clear hj' HNO HFI
      obtain ⟨W1, hW1⟩ : ∃ W, W = wr := ⟨_, rfl⟩
      subst hW1
      go_wp2_with fail
      clear c9
      go_loopw [19, 20] (fun bn i wq => ∃ j : Nat, i = .int .i64 j ∧ j ≤ nP ∧ bn = .bool ((x.past.take j).any (fun t => decide (t = p.point))) ∧ HI w wq gp (sideC x vS vP vD) p) (fun _ i _ => nP - (intOf i).toNat)
      case atStart => exact ⟨0, rfl, by omega, rfl, hi⟩
      case round =>
        clear hi hib his
        obtain ⟨k, rfl, hk, rfl, hi⟩ := hrel
        have hib := hi.b
        have his := hib.size
        have c10 := d_c10 hi.xC
        have q0 := pa_c0 hi.p
        by_cases hlt2 : k < nP
        · have d1 : (k : Int) < nP := by omega
          have hao := haP (by omega)
          rw [HEP.out, hao] at c10
          obtain ⟨u, hu⟩ : ∃ u, x.past[k]? = some u := ⟨x.past[k]'(by rw [← HLP.out]; exact hlt2), List.getElem?_eq_getElem _⟩
          have hp0 := str_up hib HXP.out k u hu
          have HTS : Hid (x.past.take (k + 1) = x.past.take k ++ [u]) := Hid.mk (take_snoc _ _ _ hu)
          clear hu hao
          cases hb : (x.past.take k).any (fun t => decide (t = p.point)) with
          | true =>
            have HE : Hid ((x.past.take (k + 1)).any (fun t => decide (t = p.point)) = true) := Hid.mk (by rw [HTS.out, List.any_append, hb]; rfl)
            clear hb
            go_wp2_with fail
            go_quiet (fail)
            go_wp2
            go_roundw
            case rel => exact ⟨k + 1, by go_num, by omega, by rw [HE.out], hi.below (below_drewN (Below.refl _ _) _)⟩
            case measure => simp [intOf]; omega
          | false =>
            by_cases hu3 : u.toList = p.point.toList
            · have e3 : (u.toList == p.point.toList) = true := by rw [hu3]; simp
              have HE : Hid ((x.past.take (k + 1)).any (fun t => decide (t = p.point)) = true) := Hid.mk (by rw [HTS.out, List.any_append, hb]; simp [toList_inj.1 hu3])
              clear hb
              go_wp2_with fail
              go_quiet (fail)
              go_wp2
              go_roundw
              case rel => exact ⟨k + 1, by go_num, by omega, by rw [HE.out], hi.below (below_drewN (Below.refl _ _) _)⟩
              case measure => simp [intOf]; omega
            · have e3 : (u.toList == p.point.toList) = false := by simpa using hu3
              have HE : Hid ((x.past.take (k + 1)).any (fun t => decide (t = p.point)) = false) := Hid.mk (by rw [HTS.out, List.any_append, hb]; simp; exact fun e => hu3 (by rw [e]))
              clear hb
              go_wp2_with fail
              go_quiet (fail)
              go_wp2
              go_roundw
              case rel => exact ⟨k + 1, by go_num, by omega, by rw [HE.out], hi.below (below_drewN (Below.refl _ _) _)⟩
              case measure => simp [intOf]; omega
        · have d1 : ¬ (k : Int) < nP := by omega
          have hk' : k = nP := by omega
          obtain ⟨bn, hbn⟩ : ∃ b : Bool, b = (x.past.take k).any (fun t => decide (t = p.point)) := ⟨_, rfl⟩
          have HBN : Hid (bn = been x p.point) := Hid.mk (by rw [hbn, hk', HLP.out, List.take_length]; rfl)
          rw [← hbn]
          clear hbn hk'
          rw [HEP.out] at c10
          obtain ⟨W2, hW2⟩ : ∃ W, W = wr := ⟨_, rfl⟩
          subst hW2
          have c3 := d_c3 hi.xC
          have c7 := d_c7 hi.xC
          obtain ⟨r4, w4, hw4, R4, B4, z4⟩ := new_stored hib side0 (sideC x vS vP vD) 55 side0_pos
          have hi4 : HI w w4 gp (sideC x vS vP vD) p := ⟨B4, ns_other hw4 hi.x (by rw [sideC_size]; omega), ns_other hw4 hi.r side0_pos, ns_other hw4 hi.p (by rw [partsC_size]; omega)⟩
          have hgy := hi.lt
          have hgyp : W2.heap.size ≠ gp := by omega
          have R4 := R4.trans (dC_side x vS vP vD)
          have s4 := B4.size
          have k7 := d_c7 hi4.xC
          have hth := HTHP.out
          have e1 : ¬ x.theirs.toList = p.point.toList := fun e => hth (toList_inj.1 e)
          have e2 : (x.theirs.toList == p.point.toList) = false := by simpa using e1
          have HRO : Hid (RES = if been x p.point = true then (x, ⟨#[]⟩, 6) else newS x p data) := Hid.mk (by rw [HRN.out, if_neg hth])
          clear hth
          go_upto_region 26 with (first
            | (refine at_load 55 rfl ?_; refine wpl_load rtSide rfl _ rfl w.heap.size rfl (sideC x vS vP vD) hi.x (sideC_size _ _ _ _) ?_)
            | (refine at_store 55 rfl ?_; refine wpl_store rtSide rfl _ _ rfl W2.heap.size rfl (sideC x vS vP vD) rfl ?_ (sideC_size _ _ _ _) HXO.out w4 hw4.symm ?_; (focus (exact congrArg Array.size r4)); clear hw4 r4)
            | fail)
          generalize W2.heap.size = gy at R4 hgy hgyp ⊢
          clear c3 c7 c10 q0 hi
          cases bn with
          | true =>
            have HE : Hid (RES = (x, ⟨#[]⟩, 6)) := Hid.mk (by rw [HRO.out, if_pos HBN.out.symm])
            go_upto_region 31 with fail
            clear R4 s4 B4 hib his hgy hgyp k7 hk hj
            go_wp2_with (first
              | (refine at_load 55 rfl ?_; refine wpl_load rtSide rfl _ rfl w.heap.size rfl (sideC x vS vP vD) hi4.x (sideC_size _ _ _ _) ?_)
              | (refine at_store 55 rfl ?_; refine wpl_store rtSide rfl _ _ rfl (w.heap.size + 1) rfl (sideC x vS vP vD) rfl ?_ (sideC_size _ _ _ _) HXO.out _ rfl ?_; (focus (exact (congrArg Array.size hi4.r).trans side0_size)))
              | fail)
            refine bodyPost_ret (results_row_tmp2 rtSide Tryz.results31 _ _ (w.heap.size + 1) rfl ?_) rfl ?_
            · rw [rowOf_setRow_same (by rw [hi4.r]; exact side0_pos)]; rfl
            · rw [rowOf_setRow_same (by rw [hi4.r]; exact side0_pos)]; exact hear_err HE.out HK.out HPA.out HDR.out (below_setRow hi4.b (by omega) _) rfl
          | false =>
            have HRW : Hid (RES = newS x p data) := Hid.mk (by rw [HRO.out, if_neg (by rw [← HBN.out]; simp)])
            have k1 := d_c1 hi4.xC
            have k3 := d_c3 hi4.xC
            have k5 := d_c5 hi4.xC
            have k10 := d_c10 hi4.xC
            have k11 := d_c11 hi4.xC
            rw [HEP.out] at k10
            rw [HED.out] at k11
            have q0 := pa_c0 hi4.p
            have q4 := pa_c4 hi4.p
            have q5 := pa_c5 hi4.p
            have b1 : x.read.toList.isEmpty = true := by rw [toList_nil.2 (size_zero.1 HPR.out)]; rfl
            have HC1 : Hid (¬ (x.read.size ≠ 0 ∧ p.ahead > x.nr + 20)) := Hid.mk (fun h => h.1 HPR.out)
            have bt : x.theirs.toList.isEmpty = false := by cases h : x.theirs.toList with | nil => exact absurd (size_zero.2 (toList_nil.1 h)) HPT.out | cons _ _ => rfl
            have HTZ : Hid (x.theirs.size ≠ 0) := Hid.mk HPT.out
            go_upto_region 34 with fail
            by_cases h20 : p.n > 20
            · have b3 : (p.n : Int) > 20 := by omega
              have HE : Hid (RES = (x, ⟨#[]⟩, 7)) := Hid.mk (by rw [HRW.out]; unfold newS; rw [if_neg HC1.out, if_pos h20])
              go_wp2_with (first
                | (refine at_load 55 rfl ?_; refine wpl_load rtSide rfl _ rfl w.heap.size rfl (sideC x vS vP vD) hi4.x (sideC_size _ _ _ _) ?_)
                | (refine at_store 55 rfl ?_; refine wpl_store rtSide rfl _ _ rfl (w.heap.size + 1) rfl (sideC x vS vP vD) rfl ?_ (sideC_size _ _ _ _) HXO.out _ rfl ?_; (focus (exact (congrArg Array.size hi4.r).trans side0_size)))
                | fail)
              refine bodyPost_ret (results_row_tmp2 rtSide Tryz.results31 _ _ (w.heap.size + 1) rfl ?_) rfl ?_
              · rw [rowOf_setRow_same (by rw [hi4.r]; exact side0_pos)]; rfl
              · rw [rowOf_setRow_same (by rw [hi4.r]; exact side0_pos)]; exact hear_err HE.out HK.out HPA.out HDR.out (below_setRow hi4.b (by omega) _) rfl
            have b3 : ¬ (p.n : Int) > 20 := by omega
            have HC2 := Hid.mk h20
            go_upto_region 36 with fail
            by_cases h24 : 24 ≤ nP
            · have b4 : (nP : Int) ≥ 24 := by omega
              have HE : Hid (RES = (x, ⟨#[]⟩, 4)) := Hid.mk (by rw [HRW.out]; unfold newS; rw [if_neg HC1.out, if_neg HC2.out, if_pos ⟨HTZ.out, by rw [← HLP.out]; exact h24⟩])
              go_wp2_with (first
                | (refine at_load 55 rfl ?_; refine wpl_load rtSide rfl _ rfl w.heap.size rfl (sideC x vS vP vD) hi4.x (sideC_size _ _ _ _) ?_)
                | (refine at_store 55 rfl ?_; refine wpl_store rtSide rfl _ _ rfl (w.heap.size + 1) rfl (sideC x vS vP vD) rfl ?_ (sideC_size _ _ _ _) HXO.out _ rfl ?_; (focus (exact (congrArg Array.size hi4.r).trans side0_size)))
                | fail)
              refine bodyPost_ret (results_row_tmp2 rtSide Tryz.results31 _ _ (w.heap.size + 1) rfl ?_) rfl ?_
              · rw [rowOf_setRow_same (by rw [hi4.r]; exact side0_pos)]; rfl
              · rw [rowOf_setRow_same (by rw [hi4.r]; exact side0_pos)]; exact hear_err HE.out HK.out HPA.out HDR.out (below_setRow hi4.b (by omega) _) rfl
            have b4 : ¬ (nP : Int) ≥ 24 := by omega
            have HC3 : Hid (¬ (x.theirs.size ≠ 0 ∧ 24 ≤ x.past.length)) := Hid.mk (fun h => h24 (by rw [HLP.out]; exact h.2))
            go_upto_region 38 with fail
            cases hdr : x.draws with
            | nil =>
              have hn0 : nD = 0 := by rw [HLD.out, hdr]; rfl
              have b5 : ((nD : Int) == 0) = true := by rw [hn0]; rfl
              have HE : Hid (RES = (x, ⟨#[]⟩, 8)) := Hid.mk (by rw [HRW.out]; unfold newS; rw [if_neg HC1.out, if_neg HC2.out, if_neg HC3.out, hdr])
              clear hdr hn0
              go_wp2_with (first
                | (refine at_load 55 rfl ?_; refine wpl_load rtSide rfl _ rfl w.heap.size rfl (sideC x vS vP vD) hi4.x (sideC_size _ _ _ _) ?_)
                | (refine at_store 55 rfl ?_; refine wpl_store rtSide rfl _ _ rfl (w.heap.size + 1) rfl (sideC x vS vP vD) rfl ?_ (sideC_size _ _ _ _) HXO.out _ rfl ?_; (focus (exact (congrArg Array.size hi4.r).trans side0_size)))
                | fail)
              refine bodyPost_ret (results_row_tmp2 rtSide Tryz.results31 _ _ (w.heap.size + 1) rfl ?_) rfl ?_
              · rw [rowOf_setRow_same (by rw [hi4.r]; exact side0_pos)]; rfl
              · rw [rowOf_setRow_same (by rw [hi4.r]; exact side0_pos)]; exact hear_err HE.out HK.out HPA.out HDR.out (below_setRow hi4.b (by omega) _) rfl
            | cons d l =>
              have hnd : nD = l.length + 1 := by rw [HLD.out, hdr]; rfl
              have b5 : ((nD : Int) == 0) = false := by simp; omega
              have b6 : ¬ (nD : Int) = 0 := by omega
              have HND := Hid.mk hnd
              have HDL := Hid.mk hdr
              have HN4 : Hid (newS x p data = if dhF x.self p.point = zeros 32 then (x, ⟨#[]⟩, 9) else hearN x p data d) := Hid.mk (by unfold newS; rw [if_neg HC1.out, if_neg HC2.out, if_neg HC3.out, hdr])
              have zd : d.size = 32 := HX.out.drawsW d (by rw [hdr]; simp)
              clear hdr
              obtain ⟨sh, hsh⟩ : ∃ sh, sh = dhF x.self p.point := ⟨_, rfl⟩
              have zsh : sh.size = 32 := by rw [hsh]; exact dhF_size _ _
              have HSH := Hid.mk hsh
              rw [← hsh] at HN4
              clear hsh
              have hp32 : 32 ≤ p.point.size := by omega
              go_upto_region 41 with fail
              by_cases hz : sh = zeros 32
              · have HDZ : Hid (decide (sh ≠ zeros 32) = false) := Hid.mk (by simp [hz])
                have HE : Hid (RES = (x, ⟨#[]⟩, 9)) := Hid.mk (by rw [HRW.out, HN4.out, if_pos hz])
                clear hz hnd
                go_wp2_with (first
                  | (go_at_call 58; have M := rshared_f x.self p.point zsf hp32 w4; with_reducible refine M.mono ?_; clear M; rintro e w5 ⟨rfl, b5'⟩; rw [← HSH.out, HDZ.out]; have hi5 := hi4.below b5')
                  | (refine at_load 55 rfl ?_; refine wpl_load rtSide rfl _ rfl w.heap.size rfl (sideC x vS vP vD) hi5.x (sideC_size _ _ _ _) ?_)
                  | (refine at_store 55 rfl ?_; refine wpl_store rtSide rfl _ _ rfl (w.heap.size + 1) rfl (sideC x vS vP vD) rfl ?_ (sideC_size _ _ _ _) HXO.out _ rfl ?_; (focus (exact (congrArg Array.size hi5.r).trans side0_size)))
                  | fail)
                refine bodyPost_ret (results_row_tmp2 rtSide Tryz.results31 _ _ (w.heap.size + 1) rfl ?_) rfl ?_
                · rw [rowOf_setRow_same (by rw [hi5.r]; exact side0_pos)]; rfl
                · rw [rowOf_setRow_same (by rw [hi5.r]; exact side0_pos)]; exact hear_err HE.out HK.out HPA.out HDR.out (below_setRow hi5.b (by omega) _) rfl
              · have HDZ : Hid (decide (sh ≠ zeros 32) = true) := Hid.mk (by simp [hz])
                have HRH : Hid (RES = hearN x p data d) := Hid.mk (by rw [HRW.out, HN4.out, if_neg hz])
                clear hz hnd
                have hy0 := hy_begin hi4 hgy.2 hgyp (R4.trans (dC_side x vS vP vD).symm) HK.out HPA.out HDR.out
                go_upto_region 42 with (first
                  | (go_at_call 58; have M := rshared_f x.self p.point zsf hp32 w4; with_reducible refine M.mono ?_; clear M; rintro e w5 ⟨rfl, b5'⟩; rw [← HSH.out, HDZ.out]; have hi5 := hi4.below b5')
                  | fail)
                have hy5 := (hy0.below b5').asRow (dC_side x vS vP vD)
                clear k1 k3 k5 k7 k10 k11 q0 q4 q5 hy0 hi5 hi4 R4 B4 s4
                have k3 := d_c3 hy5.hi.xC
                have k5 := d_c5 hy5.hi.xC
                have k10 := d_c10 hy5.hi.xC
                rw [HEP.out] at k10
                have HSP := Hid.mk (str_cells (str_up hy5.hi.b HXP.out))
                have HLP1 : Hid ((strCells x.past).length = nP * 1) := Hid.mk (by rw [strCells_length, HLP.out, Nat.mul_one])
                go_upto_region 52 with (first
                  | (at_builtin; refine wpl_appendL Tryz.underlying32 iStr (by omega) (by omega) rfl _ _ rfl w5.heap.size _ 0 [] rfl (World.ownsRow_nil _ _ _ _) aoP ⟨gP, oP, none⟩ nP capP (strCells x.past) rfl haP HLP1.out HSP.out (strCells_one _) (by omega) (by omega) (Nat.le_refl _) ?_; intro v9 w9 hown9 hbel9 hsz9; have B9 := hbel9 w5 (Below.refl _ _); have HO9 := Hid.mk hown9; have hy9 := hy5.below B9; clear hown9 hbel9 k3 k5 k10; have k3 := d_c3 hy9.hi.xC)
                  | (at_builtin; refine wpl_appendL Tryz.underlying32 iStr (by omega) (by omega) rfl _ _ rfl w5.heap.size _ (0 + nP) ([] ++ strCells x.past) rfl ?_ _ ⟨w9.heap.size, 0, none⟩ 1 1 [.string x.theirs] rfl (fun _ => rfl) rfl ?_ ?_ (by omega) (by omega) ?_ ?_; (focus (exact HO9.out.alloc _)); (focus (intro q u hq; rw [Addr.add_mid, Nat.zero_add]; exact rowcell (by simp [go_sem]; exact rfl) q u (by simpa using hq))); (focus (intro u hu; simp at hu; subst hu; rfl)); (focus (simp; omega)); intro v10 w10 hown10 hbel10 hsz10; have B10 := hbel10 w5 (B9.alloc hsz9 _); rw [Nat.zero_add, List.nil_append] at hown10; obtain ⟨a10, c10, e10⟩ := own_sl hown10; subst e10; have HO10 : Hid (w10.ownsRow w5.heap.size 9 1 (.slice a10 (nP + 1) c10) (x.past ++ [x.theirs]).length (strCells (x.past ++ [x.theirs]))) := Hid.mk (by rw [strCells_append, List.length_append, ← HLP.out]; exact hown10); have hy10 := hy5.newP B10 (StrsAt.of_owns HO10.out) (fun k hk => off_of_owns HO10.out hk); clear hown10 hbel10 k3; have f10 := d_c10 hy10.y; rw [HEP.out] at f10; have y10 := d_z hy10.y 10 (by omega))
                  | fail)
                have hy11 := (hy10.set 10 (.slice a10 (nP + 1) c10)).asRow (dC_sets.2.2.2.2.2.2.2.2.2.2.1 _)
                generalize w10.setCell ⟨gy, 10, none⟩ (.slice a10 (nP + 1) c10) = w11 at hy11 ⊢
                clear f10 y10 hy10 hy9
                have q0 := pa_c0 hy11.hi.p
                have f3 := d_c3 hy11.y
                have y3 := d_z hy11.y 3 (by omega)
                have hy12 := (hy11.set 3 (.string p.point)).asRow (dC_sets.2.2.2.1 _)
                have k0 := d_c0 hy12.hi.xC
                obtain ⟨rA, hrA⟩ : ∃ r, r = rootA x.root sh := ⟨_, rfl⟩
                obtain ⟨rC, hrC⟩ : ∃ r, r = rootC x.root sh := ⟨_, rfl⟩
                have zrA : rA.size = 32 := by rw [hrA]; exact rootA_size _ _
                have zrC : rC.size = 32 := by rw [hrC]; exact rootC_size _ _
                have HRA := Hid.mk hrA
                have HRC := Hid.mk hrC
                have HMR := Hid.mk (rooted_f pv x.root sh zrt zsh (w11.setCell ⟨gy, 3, none⟩ (.string p.point)) (HPV.out.below hy12.hi.b))
                rw [← hrA, ← hrC] at HMR
                clear hrA hrC
                go_upto_region 57 with (first
                  | (go_at_call 61; with_reducible refine HMR.out.mono ?_; rintro e w13 ⟨rfl, b13⟩; have hy13 := hy12.below b13; clear q0 f3 y3 k0; have f0 := d_c0 hy13.y; have y0 := d_z hy13.y 0 (by omega); have f5 := d_c5 hy13.y; have y5 := d_z hy13.y 5 (by omega))
                  | fail)
                have hy14 := (((hy13.set 0 (.string rA)).asRow (dC_sets.1 _)).set 5 (.string rC)).asRow (dC_sets.2.2.2.2.2.1 _)
                generalize (w13.setCell ⟨gy, 0, none⟩ (.string rA)).setCell ⟨gy, 5, none⟩ (.string rC) = w14 at hy14 ⊢
                clear f0 y0 f5 y5 hy13 hy12 HMR
                have q0 := pa_c0 hy14.hi.p
                have q5 := pa_c5 hy14.hi.p
                have f5 := d_c5 hy14.y
                obtain ⟨c, hc⟩ : ∃ c, c = chn rC p.n := ⟨_, rfl⟩
                have zc : c.size = 32 := by rw [hc]; exact chn_size zrC _
                have zk := keyF_size c
                have zb := behF_size c
                have HML2 := Hid.mk (left0_f pv rC p.point p.n zrC (by omega) w14 (HPV.out.below hy14.hi.b))
                obtain ⟨L1, hL1⟩ : ∃ L, L = leftL rC p.point 0 p.n := ⟨_, rfl⟩
                rw [← hc, ← hL1] at HML2
                have hL1n : L1.length ≤ 400 := by rw [hL1, leftL_length]; omega
                have HL1 := Hid.mk hL1
                have HC := Hid.mk hc
                have hslen : x.saved.length ≤ 100 := by have := HX.out.saved; omega
                clear hL1 hc
                go_upto_region 59 with (first
                  | (go_at_call 59; with_reducible refine HML2.out.mono ?_; rintro e w15 ⟨v15, rfl, hv15, b15⟩; obtain ⟨a15, m15, c15, e15⟩ := hv15.slice; subst e15; have HV15 := Hid.mk hv15; clear hv15; have hy15 := hy14.below b15; clear q0 q5 f5; have f9 := d_c9 hy15.y; rw [HES.out] at f9)
                  | (go_at_call 60; rw [← HES.out]; have M := last_f vS (.slice a15 m15 c15) x.saved L1 hslen hL1n w15 hy15.ks HV15.out; with_reducible refine M.mono ?_; clear M; rintro e w16 ⟨v16, rfl, hv16, ho16, b16⟩; obtain ⟨a16, m16, c16, e16⟩ := hv16.slice; subst e16; have hy16 := hy15.newS b16 hv16 ho16; clear hv16 ho16 f9; have f9 := d_c9 hy16.y; rw [HES.out] at f9; have y9 := d_z hy16.y 9 (by omega))
                  | fail)
                have hy17 := (hy16.set 9 (.slice a16 m16 c16)).asRow (dC_sets.2.2.2.2.2.2.2.2.2.1 _)
                generalize w16.setCell ⟨gy, 9, none⟩ (.slice a16 m16 c16) = w17 at hy17 ⊢
                clear f9 y9 hy16 hy15 hy14
                have HMZ : Hid (∀ c : ByteArray, macF c ⟨#[1]⟩ = keyF c ∧ macF c ⟨#[2]⟩ = behF c) := Hid.mk (fun c => ⟨rfl, rfl⟩)
                go_upto_region 63 with (first
                  | (go_at_call 62; have M := mac_any pv c ⟨#[1]⟩ (by omega) (by decide) w17 (HPV.out.below hy17.hi.b); with_reducible refine M.mono ?_; clear M; rintro e w18 ⟨rfl, b18⟩; rw [(HMZ.out c).1]; have hy18 := hy17.below b18)
                  | (go_at_call 62; have M := mac_any pv c ⟨#[2]⟩ (by omega) (by decide) w18 (HPV.out.below hy18.hi.b); with_reducible refine M.mono ?_; clear M; rintro e w19 ⟨rfl, b19⟩; rw [(HMZ.out c).2]; have hy19 := hy18.below b19; have f5 := d_c5 hy19.y; have y5 := d_z hy19.y 5 (by omega); have f7 := d_c7 hy19.y; have y7 := d_z hy19.y 7 (by omega); have hy20a := (hy19.set 5 (.string (behF c))).asRow (dC_sets.2.2.2.2.2.1 _); have hy20 := (hy20a.set 7 (.int .i64 ((p.n : Int) + 1))).asRow (dC_sets.2.2.2.2.2.2.2.1 _); have q5 := pa_c5 hy20a.hi.p; have q1 := pa_c1 hy20.hi.p; have q2 := pa_c2 hy20.hi.p)
                  | (go_at_call 57; rw [← HDH.out]; have M := sealed_open pv (keyF c) DH p.turned (by omega) zDH ztu ((w19.setCell ⟨gy, 5, none⟩ (.string (behF c))).setCell ⟨gy, 7, none⟩ (.int .i64 ((p.n : Int) + 1))) (HPV.out.below hy20.hi.b); with_reducible refine M.mono ?_; clear M; rintro e w21 ⟨rfl, b21⟩; have hy21 := hy20.below b21; clear f5 y5 f7 y7 q5 q1 q2)
                  | fail)
                clear hy17 hy18 hy19 hy20 hy20a
                have q3 := pa_c3 hy21.hi.p
                have HOKN : Hid (hearN x p data d = if tagF (keyF c) DH p.turned = p.tag then (newSide x p d, turnF (keyF c) p.turned, 0) else (x, ⟨#[]⟩, 10)) := Hid.mk (by
                  unfold hearN okK
                  rw [← HSH.out, ← HRC.out, ← HC.out, ← HDH.out]; simp)
                by_cases hq : tagF (keyF c) DH p.turned = p.tag
                · have u1 : (tagF (keyF c) DH p.turned).toList = p.tag.toList := by rw [hq]
                  have u2 : ((tagF (keyF c) DH p.turned).toList == p.tag.toList) = true := by rw [u1]; simp
                  have u3 : ((tagF (keyF c) DH p.turned).toList != p.tag.toList) = false := by rw [u1]; simp
                  have HRS : Hid (RES = (newSide x p d, turnF (keyF c) p.turned, 0)) := Hid.mk (by rw [HRH.out, HOKN.out, if_pos hq])
                  clear hq
                  have hao := haD (by have := HND.out; omega)
                  have k11 := d_c11 hy21.hi.xC
                  rw [HED.out, hao] at k11
                  have hd0 : w21.cell? ⟨gD, oD, none⟩ = some (.string d) := str_up hy21.hi.b HXD.out 0 d (by rw [HDL.out]; rfl)
                  have f1 := d_c1 hy21.y
                  have y1 := d_z hy21.y 1 (by omega)
                  have hy22 := (hy21.set 1 (.string d)).asRow (dC_sets.2.1 _)
                  have k11b := d_c11 hy22.hi.xC
                  rw [HED.out, hao] at k11b
                  have cD1 : (1 : Int) ≤ nD := by have := HND.out; omega
                  have cD2 : (0 : Int) < nD := by omega
                  have cD3 : (nD : Int) ≤ capD := by omega
                  have cD4 : (1 : Int) ≤ capD := by omega
                  obtain ⟨AD, hAD, hAD2⟩ : ∃ AD : Option Addr, (if capD = 1 then some (⟨gD, oD, none⟩ : Addr) else some ⟨gD, oD + 1, none⟩) = AD ∧ (0 < nD - 1 → AD = some ⟨gD, oD + 1, none⟩) := by
                    refine ⟨_, rfl, fun h => ?_⟩
                    rw [if_neg (by omega)]
                  have HAD2 := Hid.mk hAD2
                  have HSD := Hid.mk (str_cells (g := gD) (o := oD + 1) (l := l) (fun i t hi => by
                    have := str_up hy22.hi.b HXD.out (i + 1) t (by rw [HDL.out]; simpa using hi)
                    rw [← this]; congr 2; omega))
                  have HLD1 : Hid ((strCells l).length = (nD - 1) * 1) := Hid.mk (by rw [strCells_length, Nat.mul_one]; have := HND.out; omega)
                  clear hAD2 hao
                  go_upto_region 68 with (first
                    | (at_builtin; refine wpl_appendL Tryz.underlying32 iStr (by omega) (by omega) rfl _ _ rfl (w21.setCell ⟨gy, 1, none⟩ (.string d)).heap.size _ 0 [] rfl (World.ownsRow_nil _ _ _ _) AD ⟨gD, oD + 1, none⟩ (nD - 1) (capD - 1) (strCells l) rfl HAD2.out HLD1.out HSD.out (strCells_one _) (by omega) (by omega) (Nat.le_refl _) ?_; intro v23 w23 hown23 hbel23 hsz23; have B23 := hbel23 (w21.setCell ⟨gy, 1, none⟩ (.string d)) (Below.refl _ _); rw [Nat.zero_add, List.nil_append] at hown23; obtain ⟨a23, c23, e23⟩ := own_sl hown23; subst e23; have HO23 : Hid (w23.ownsRow (w21.setCell ⟨gy, 1, none⟩ (.string d)).heap.size 9 1 (.slice a23 (nD - 1) c23) l.length (strCells l)) := Hid.mk (by rw [show l.length = nD - 1 by have := HND.out; omega]; exact hown23); have hy23 := hy22.newD B23 (StrsAt.of_owns HO23.out) (fun k hk => off_of_owns HO23.out hk); clear hown23 hbel23 f1 y1 k11 k11b hd0; have f11 := d_c11 hy23.y; rw [HED.out] at f11; have y11 := d_z hy23.y 11 (by omega))
                    | fail)
                  have hy24 := (hy23.set 11 (.slice a23 (nD - 1) c23)).asRow (dC_sets.2.2.2.2.2.2.2.2.2.2.2 _)
                  generalize w23.setCell ⟨gy, 11, none⟩ (.slice a23 (nD - 1) c23) = w24 at hy24 ⊢
                  clear f11 y11 hy23 hy22 hy21
                  have f1 := d_c1 hy24.y
                  obtain ⟨s2, hs2⟩ : ∃ s, s = dhF d p.point := ⟨_, rfl⟩
                  have zs2 : s2.size = 32 := by rw [hs2]; exact dhF_size _ _
                  have HS2 := Hid.mk hs2
                  clear hs2
                  have zpb := pubF_size d
                  have hxns : (x.ns : Int) ≤ 300 := by have := HX.out.ns; omega
                  go_wp2_with (first
                    | (go_at_call 52; have M := rpublic_f d zd w24; with_reducible refine M.mono ?_; clear M; rintro e w25 ⟨rfl, b25⟩; have hy25 := hy24.below b25; clear f1; have f2 := d_c2 hy25.y; have y2 := d_z hy25.y 2 (by omega); have hy26 := (hy25.set 2 (.string (pubF d))).asRow (dC_sets.2.2.1 _); have f1 := d_c1 hy26.y; have f3 := d_c3 hy26.y)
                    | (go_at_call 58; have M := rshared_f d p.point zd hp32 (w25.setCell ⟨gy, 2, none⟩ (.string (pubF d))); with_reducible refine M.mono ?_; clear M; rintro e w27 ⟨rfl, b27⟩; rw [← HS2.out]; have hy27 := hy26.below b27; clear f1 f2 f3 y2; have f0 := d_c0 hy27.y)
                    | (go_at_call 61; have M := rooted_f pv rA s2 zrA zs2 w27 (HPV.out.below hy27.hi.b); with_reducible refine M.mono ?_; clear M; rintro e w28 ⟨rfl, b28⟩; have hy28 := hy27.below b28; clear f0; have f0 := d_c0 hy28.y; have y0 := d_z hy28.y 0 (by omega); have f4 := d_c4 hy28.y; have y4 := d_z hy28.y 4 (by omega); have f8 := d_c8 hy28.y; have y8 := d_z hy28.y 8 (by omega); have f6 := d_c6 hy28.y; have y6 := d_z hy28.y 6 (by omega); have hy29 := (((hy28.set 0 (.string (rootA rA s2))).asRow (dC_sets.1 _)).set 4 (.string (rootC rA s2))).asRow (dC_sets.2.2.2.2.1 _); have k6 := d_c6 hy29.hi.xC; have hy30 := (((hy29.set 8 (.int .i64 (x.ns : Int))).asRow (dC_sets.2.2.2.2.2.2.2.2.1 _)).set 6 (.int .i64 0)).asRow (dC_sets.2.2.2.2.2.2.1 _))
                    | (refine at_load 55 rfl ?_; refine wpl_load rtSide rfl _ rfl gy rfl (dC (rootA rA s2) d (pubF d) p.point (rootC rA s2) (behF c) 0 ((p.n : Int) + 1) (x.ns : Int) (.slice a16 m16 c16) (.slice a10 (nP + 1) c10) (.slice a23 (nD - 1) c23)) hy30.y dC_size ?_)
                    | (refine at_store 55 rfl ?_; refine wpl_store rtSide rfl _ _ rfl (w.heap.size + 1) rfl (dC (rootA rA s2) d (pubF d) p.point (rootC rA s2) (behF c) 0 ((p.n : Int) + 1) (x.ns : Int) (.slice a16 m16 c16) (.slice a10 (nP + 1) c10) (.slice a23 (nD - 1) c23)) rfl ?_ dC_size (dC_one rfl rfl rfl) _ rfl ?_; (focus (exact (congrArg Array.size hy30.hi.r).trans side0_size)))
                    | fail)
                  refine bodyPost_ret (results_row_tmp2 rtSide Tryz.results31 _ _ (w.heap.size + 1) rfl ?_) rfl ?_
                  · rw [rowOf_setRow_same (by rw [hy30.hi.r]; exact side0_pos)]; exact dC_size
                  · rw [rowOf_setRow_same (by rw [hy30.hi.r]; exact side0_pos)]
                    refine hy30.fin HRS.out ?_ ?_ ?_ ?_ rfl
                    · rw [dC_side]
                      simp only [newSide, ← HSH.out, ← HRA.out, ← HRC.out, ← HS2.out, ← HC.out]
                      rfl
                    · simp only [newSide, ← HSH.out, ← HRC.out, ← HL1.out, newSaved]
                      rw [if_pos HPR.out]
                    · simp only [newSide, newPast]
                      rw [if_neg HTZ.out]
                    · simp only [newSide, HDL.out, List.drop_succ_cons, List.drop_zero]
                · have u1 : ¬ (tagF (keyF c) DH p.turned).toList = p.tag.toList := fun e => hq (toList_inj.1 e)
                  have u2 : ((tagF (keyF c) DH p.turned).toList == p.tag.toList) = false := by simpa using u1
                  have u3 : ((tagF (keyF c) DH p.turned).toList != p.tag.toList) = true := by simp [u1]
                  have HE : Hid (RES = (x, ⟨#[]⟩, 10)) := Hid.mk (by rw [HRH.out, HOKN.out, if_neg hq])
                  have hi21 := hy21.hi
                  clear hq hy21
                  go_wp2_with (first
                    | (refine at_load 55 rfl ?_; refine wpl_load rtSide rfl _ rfl w.heap.size rfl (sideC x vS vP vD) hi21.x (sideC_size _ _ _ _) ?_)
                    | (refine at_store 55 rfl ?_; refine wpl_store rtSide rfl _ _ rfl (w.heap.size + 1) rfl (sideC x vS vP vD) rfl ?_ (sideC_size _ _ _ _) HXO.out _ rfl ?_; (focus (exact (congrArg Array.size hi21.r).trans side0_size)))
                    | fail)
                  refine bodyPost_ret (results_row_tmp2 rtSide Tryz.results31 _ _ (w.heap.size + 1) rfl ?_) rfl ?_
                  · rw [rowOf_setRow_same (by rw [hi21.r]; exact side0_pos)]; rfl
                  · rw [rowOf_setRow_same (by rw [hi21.r]; exact side0_pos)]; exact hear_err HE.out HK.out HPA.out HDR.out (below_setRow hi21.b (by omega) _) rfl
end Go.Proofs.YteghoooelgcpkaaGreatDoor
