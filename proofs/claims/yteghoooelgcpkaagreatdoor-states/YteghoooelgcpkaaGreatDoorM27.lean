import Derived.Test.YteghoooelgcpkaaGreatDoorM22
namespace Go.Proofs.YteghoooelgcpkaaGreatDoor
open Go.RowKit Go.Msg
set_option maxRecDepth 20000 in
set_option maxHeartbeats 100000000 in
theorem hear_same (pv : Value) (x : Sd) (hx : x.Wf) (vS vP vD : Value) (m data : ByteArray) (hms : m.size ≤ 9223372036854775807) (hm : IsMsg m) (hdt : data.size ≤ 100) (hf : x.saved.findIdx? (isK (ptF m).point (ptF m).n) = none) (hth : x.theirs = (ptF m).point) (w : World) (hpv : PrimAt w pv) (hS : KpsAt w vS x.saved) (hP : StrsAt w vP x.past) (hD : StrsAt w vD x.draws) :
    Calls Tryz.prog 31 #[pv, .agg (sideC x vS vP vD), .string m, .string data] w fun e w' => HearP w vS vP vD (hearS x m data) e w' := by
  obtain ⟨p, hp⟩ : ∃ p, p = ptF m := ⟨_, rfl⟩
  have HOK : Hid (PtOk p) := Hid.mk (by rw [hp]; exact pt_ok hm)
  have zh : p.head.size = 38 := by rw [hp]; exact (ptF_sizes hm).2.1
  obtain ⟨RES, hRES⟩ : ∃ r, r = hearS x m data := ⟨_, rfl⟩
  have HRES : Hid (RES = hearP x p data) := Hid.mk (by rw [hRES, hearS_eq hm, hp])
  rw [← hRES]
  rw [← hp] at hf
  have HF := Hid.mk hf
  clear hf
  rw [← hp] at hth
  have HTHP := Hid.mk hth
  clear hth
  have HK := Hid.mk hS
  have HPA := Hid.mk hP
  have HDR := Hid.mk hD
  have HXO := Hid.mk (side_one hS hP hD)
  obtain ⟨W0, hW0, RX0, RR0, B0, z0⟩ := hear_box w x vS vP vD
  have s0 := B0.size
  have HM : Hid (Calls Tryz.prog 56 #[.string m] W0 fun e w' => e = .returned (.tuple #[.agg (partsC p), .bool true]) ∧ Below W0.heap.size W0 w') := Hid.mk ((split_f m hms W0).mono (fun e w' h => by
    rcases h.1 with ⟨_, h1⟩ | ⟨h1, _⟩
    · exact ⟨by rw [h1, hp], h.2⟩
    · exact absurd hm h1))
  obtain ⟨aoS, nS, capS, eS⟩ := hS.slice
  obtain ⟨aoP, nP, capP, eP⟩ := hP.slice
  obtain ⟨aoD, nD, capD, eD⟩ := hD.slice
  have HES := Hid.mk eS
  have HEP := Hid.mk eP
  have HED := Hid.mk eD
  rw [eS] at hS
  rw [eP] at hP
  rw [eD] at hD
  obtain ⟨hlS, hcS, gS, oS, haS, hxS⟩ := hS.opened
  obtain ⟨hlP, hcP, gP, oP, haP, hxP⟩ := hP.opened
  obtain ⟨hlD, hcD, gD, oD, haD, hxD⟩ := hD.opened
  have HX := Hid.mk hx
  have HLS := Hid.mk hlS
  have HLP := Hid.mk hlP
  have HLD := Hid.mk hlD
  have HXS := Hid.mk hxS
  have HXP := Hid.mk hxP
  have HXD := Hid.mk hxD
  have HPV := Hid.mk hpv
  have HPO := Hid.mk HPA.out.one
  have HDO := Hid.mk HDR.out.one
  have bS : nS ≤ 32 := by rw [hlS]; exact hx.saved
  have bP : nP ≤ 24 := by rw [hlP]; exact hx.past
  have bD : nD ≤ 8 := by rw [hlD]; exact hx.draws
  have zDH : (data ++ p.head).size ≤ 200 := by rw [ByteArray.size_append]; omega
  have zpt := HOK.out.point
  have ztu := HOK.out.turned
  have ztg := HOK.out.tag
  have hpa := HOK.out.ahead
  have hpn := HOK.out.n
  have hnr := hx.nr
  have hns := hx.ns
  have hpn' : (p.n : Int) < 300 := by omega
  have hpa' : (p.ahead : Int) ≤ 300 := by omega
  have hnr' : (x.nr : Int) ≤ 300 := by omega
  have zsf := hx.self
  have zrt := hx.root
  obtain ⟨DH, hDH⟩ : ∃ d, d = data ++ p.head := ⟨_, rfl⟩
  rw [← hDH] at zDH
  have HDH := Hid.mk hDH
  have zdd : data.size + p.head.size ≤ 200 := by omega
  clear hS hP hD hx hp hm hRES hxS hxP hxD hpv hlS hlP hlD eS eP eD hDH
  rw [side_lit]
  go_enter Tryz.func31, Tryz.ntmps31
  go_upto_region 1 with fail
  rw [← hW0]
  clear hW0
  go_upto_region 4 with (first
    | (go_at_call 56; with_reducible refine HM.out.mono ?_; rintro e w1 ⟨rfl, b1⟩; have B1 := below_lift B0 s0 b1; obtain ⟨r1, w2, hw2, R2, B2, z2⟩ := new_stored B1 pa0 (partsC p) 98 pa0_pos; have hx1 := (below_row b1 (by rw [RX0, sideC_size]; omega)).trans RX0; have hr1 := (below_row b1 (by rw [RR0]; exact side0_pos)).trans RR0; have hx2 := ns_other hw2 hx1 (by rw [sideC_size]; omega); have hr2 := ns_other hw2 hr1 side0_pos; clear hx1 hr1 RX0 RR0)
    | (refine at_store 98 rfl ?_; refine wpl_store rtParts rfl _ _ rfl w1.heap.size rfl (partsC p) rfl ?_ (partsC_size p) (partsC_one p) w2 hw2.symm ?_; (focus (exact congrArg Array.size r1)); clear hw2 r1)
    | fail)
  have hi0 : HI w w2 w1.heap.size (sideC x vS vP vD) p := ⟨B2, hx2, hr2, R2⟩
  have hgp : w.heap.size + 1 < w1.heap.size := by have := b1.size; omega
  clear hx2 hr2 R2 b1 B1 B2 B0 s0 z0 z2 HM
  generalize w1.heap.size = gp at hi0 hgp ⊢
  clear w1
  go_wp2_with fail
  go_loopw [13] (fun i wq => ∃ j : Nat, i = .int .i64 j ∧ j ≤ nS ∧ Hid (∀ i k, i < j → x.saved[i]? = some k → isK p.point p.n k = false) ∧ HI w wq gp (sideC x vS vP vD) p) (fun i _ => nS - (intOf i).toNat)
  case atStart => exact ⟨0, rfl, by omega, Hid.mk (fun i k h => absurd h (by omega)), hi0⟩
  case round =>
    clear hi0
    obtain ⟨j, rfl, hj, HNO, hi⟩ := hrel
    have hib := hi.b
    have his := hib.size
    by_cases hlt : j < nS
    · have c1 : (j : Int) < nS := by omega
      have c9 := d_c9 hi.xC
      have hao := haS (by omega)
      rw [HES.out, hao] at c9
      obtain ⟨kp, hkp⟩ : ∃ kp, x.saved[j]? = some kp := ⟨x.saved[j]'(by rw [← HLS.out]; exact hlt), List.getElem?_eq_getElem _⟩
      obtain ⟨hp0, hp1, hp2⟩ := kp_up hib HXS.out j kp hkp
      have HKP := Hid.mk hkp
      have hkw := HX.out.savedW kp (List.mem_of_getElem? hkp)
      have zkk := hkw.key
      clear hkp hkw
      have HAO := Hid.mk hao
      clear hao
      obtain ⟨r1, w2, hw2, R2, B2, z2⟩ := new_stored hib sv0 (kC kp.pt (kp.n : Int) kp.key) 89 sv0_pos
      have hi2 : HI w w2 gp (sideC x vS vP vD) p := ⟨B2, ns_other hw2 hi.x (by rw [sideC_size]; omega), ns_other hw2 hi.r side0_pos, ns_other hw2 hi.p (by rw [partsC_size]; omega)⟩
      have k0 := k3_c0 R2
      have k1 := k3_c1 R2
      have k2 := k3_c2 R2
      have q0 := pa_c0 hi2.p
      have q1 := pa_c1 hi2.p
      have q2 := pa_c2 hi2.p
      have q5 := pa_c5 hi2.p
      clear R2
      have HNK : Hid (isK p.point p.n kp = false) := Hid.mk (by have := List.findIdx?_eq_none_iff.1 HF.out kp (List.mem_of_getElem? HKP.out); simpa using this)
      have hmt : ¬ (kp.pt = p.point ∧ kp.n = p.n) := by have := HNK.out; unfold isK at this; simpa using this
      have HNO2 : Hid (∀ i k, i < j + 1 → x.saved[i]? = some k → isK p.point p.n k = false) := Hid.mk (fun i k hi hk => by
        by_cases e : i = j
        · subst e; rw [HKP.out] at hk; cases hk; exact HNK.out
        · exact HNO.out i k (by omega) hk)
      by_cases hpe : kp.pt = p.point
      · have hne : ¬ kp.n = p.n := fun e => hmt ⟨hpe, e⟩
        have t1 : kp.pt.toList = p.point.toList := by rw [hpe]
        have t2 : (kp.pt.toList == p.point.toList) = true := by rw [t1]; simp
        have t5 : (kp.pt.toList != p.point.toList) = false := by rw [t1]; simp
        have t3 : ((kp.n : Int) == (p.n : Int)) = false := by simp; omega
        have t4 : ((kp.n : Int) != (p.n : Int)) = true := by simp; omega
        clear hmt hpe hne t1
        go_wp2_with (first
          | (refine at_load 89 rfl ?_; refine wpl_load_sv rfl _ rfl gS (oS + j * 3) rfl kp.pt kp.key (kp.n : Int) hp0 hp1 hp2 ?_)
          | (refine at_store 89 rfl ?_; refine wpl_store rtSaved rfl _ _ rfl wr.heap.size rfl (kC kp.pt (kp.n : Int) kp.key) rfl ?_ (kC_size _ _ _) (kC_one _ _ _) w2 hw2.symm ?_; (focus (exact congrArg Array.size r1)); clear hw2 r1)
          | fail)
        go_roundw
        case rel => exact ⟨j + 1, by go_num, by omega, HNO2, hi2⟩
        case measure => simp [intOf]; omega
      · have t1 : ¬ kp.pt.toList = p.point.toList := fun e => hpe (toList_inj.1 e)
        have t2 : (kp.pt.toList == p.point.toList) = false := by simpa using t1
        have t5 : (kp.pt.toList != p.point.toList) = true := by simp [t1]
        clear hmt hpe
        go_wp2_with (first
          | (refine at_load 89 rfl ?_; refine wpl_load_sv rfl _ rfl gS (oS + j * 3) rfl kp.pt kp.key (kp.n : Int) hp0 hp1 hp2 ?_)
          | (refine at_store 89 rfl ?_; refine wpl_store rtSaved rfl _ _ rfl wr.heap.size rfl (kC kp.pt (kp.n : Int) kp.key) rfl ?_ (kC_size _ _ _) (kC_one _ _ _) w2 hw2.symm ?_; (focus (exact congrArg Array.size r1)); clear hw2 r1)
          | fail)
        go_roundw
        case rel => exact ⟨j + 1, by go_num, by omega, HNO2, hi2⟩
        case measure => simp [intOf]; omega
    · have c1 : ¬ (j : Int) < nS := by omega
      have hj' : j = nS := by omega
      have HFI : Hid (x.saved.findIdx? (isK p.point p.n) = none) := Hid.mk (by
        refine List.findIdx?_eq_none_iff.2 (fun k hk => ?_)
        obtain ⟨i, hi⟩ := List.getElem?_of_mem hk
        exact HNO.out i k (by rw [hj', HLS.out]; exact (List.getElem?_eq_some_iff.1 hi).1) hi)
      have HRN : Hid (RES = if x.theirs = p.point then onS x p data else if been x p.point = true then (x, ⟨#[]⟩, 6) else newS x p data) := Hid.mk (by rw [HRES.out]; unfold hearP; rw [HFI.out])
      have c9 := d_c9 hi.xC
      rw [HES.out] at c9
      clear hj' HNO HFI
      obtain ⟨W1, hW1⟩ : ∃ W, W = wr := ⟨_, rfl⟩
      subst hW1
      go_wp2_with fail
      clear c9
      go_loopw [19, 20] (fun bn i wq => ∃ j : Nat, i = .int .i64 j ∧ j ≤ nP ∧ bn = .bool ((x.past.take j).any (fun t => decide (t = p.point))) ∧ HI w wq gp (sideC x vS vP vD) p) (fun _ i _ => nP - (intOf i).toNat)
      case atStart => exact ⟨0, rfl, by omega, rfl, hi⟩
      case round =>
        clear hi hib his
        obtain ⟨k, rfl, hk, rfl, hi⟩ := hrel
        have hib := hi.b
        have his := hib.size
        have c10 := d_c10 hi.xC
        have q0 := pa_c0 hi.p
        by_cases hlt2 : k < nP
        · have d1 : (k : Int) < nP := by omega
          have hao := haP (by omega)
          rw [HEP.out, hao] at c10
          obtain ⟨u, hu⟩ : ∃ u, x.past[k]? = some u := ⟨x.past[k]'(by rw [← HLP.out]; exact hlt2), List.getElem?_eq_getElem _⟩
          have hp0 := str_up hib HXP.out k u hu
          have HTS : Hid (x.past.take (k + 1) = x.past.take k ++ [u]) := Hid.mk (take_snoc _ _ _ hu)
          clear hu hao
          cases hb : (x.past.take k).any (fun t => decide (t = p.point)) with
          | true =>
            have HE : Hid ((x.past.take (k + 1)).any (fun t => decide (t = p.point)) = true) := Hid.mk (by rw [HTS.out, List.any_append, hb]; rfl)
            clear hb
            go_wp2_with fail
            go_quiet (fail)
            go_wp2
            go_roundw
            case rel => exact ⟨k + 1, by go_num, by omega, by rw [HE.out], hi.below (below_drewN (Below.refl _ _) _)⟩
            case measure => simp [intOf]; omega
          | false =>
            by_cases hu3 : u.toList = p.point.toList
            · have e3 : (u.toList == p.point.toList) = true := by rw [hu3]; simp
              have HE : Hid ((x.past.take (k + 1)).any (fun t => decide (t = p.point)) = true) := Hid.mk (by rw [HTS.out, List.any_append, hb]; simp [toList_inj.1 hu3])
              clear hb
              go_wp2_with fail
              go_quiet (fail)
              go_wp2
              go_roundw
              case rel => exact ⟨k + 1, by go_num, by omega, by rw [HE.out], hi.below (below_drewN (Below.refl _ _) _)⟩
              case measure => simp [intOf]; omega
            · have e3 : (u.toList == p.point.toList) = false := by simpa using hu3
              have HE : Hid ((x.past.take (k + 1)).any (fun t => decide (t = p.point)) = false) := Hid.mk (by rw [HTS.out, List.any_append, hb]; simp; exact fun e => hu3 (by rw [e]))
              clear hb
              go_wp2_with fail
              go_quiet (fail)
              go_wp2
              go_roundw
              case rel => exact ⟨k + 1, by go_num, by omega, by rw [HE.out], hi.below (below_drewN (Below.refl _ _) _)⟩
              case measure => simp [intOf]; omega
        · have d1 : ¬ (k : Int) < nP := by omega
          have hk' : k = nP := by omega
          obtain ⟨bn, hbn⟩ : ∃ b : Bool, b = (x.past.take k).any (fun t => decide (t = p.point)) := ⟨_, rfl⟩
          have HBN : Hid (bn = been x p.point) := Hid.mk (by rw [hbn, hk', HLP.out, List.take_length]; rfl)
          rw [← hbn]
          clear hbn hk'
          rw [HEP.out] at c10
          obtain ⟨W2, hW2⟩ : ∃ W, W = wr := ⟨_, rfl⟩
          subst hW2
          have c3 := d_c3 hi.xC
          have c7 := d_c7 hi.xC
          obtain ⟨r4, w4, hw4, R4, B4, z4⟩ := new_stored hib side0 (sideC x vS vP vD) 55 side0_pos
          have hi4 : HI w w4 gp (sideC x vS vP vD) p := ⟨B4, ns_other hw4 hi.x (by rw [sideC_size]; omega), ns_other hw4 hi.r side0_pos, ns_other hw4 hi.p (by rw [partsC_size]; omega)⟩
          have hgy := hi.lt
          have hgyp : W2.heap.size ≠ gp := by omega
          have R4 := R4.trans (dC_side x vS vP vD)
          have s4 := B4.size
          have k7 := d_c7 hi4.xC
          have hth := HTHP.out
          have e1 : x.theirs.toList = p.point.toList := by rw [hth]
          have e2 : (x.theirs.toList == p.point.toList) = true := by rw [e1]; simp
          have HRO : Hid (RES = onS x p data) := Hid.mk (by rw [HRN.out, if_pos hth])
          have HTH := Hid.mk hth
          clear hth
          go_upto_region 26 with (first
            | (refine at_load 55 rfl ?_; refine wpl_load rtSide rfl _ rfl w.heap.size rfl (sideC x vS vP vD) hi.x (sideC_size _ _ _ _) ?_)
            | (refine at_store 55 rfl ?_; refine wpl_store rtSide rfl _ _ rfl W2.heap.size rfl (sideC x vS vP vD) rfl ?_ (sideC_size _ _ _ _) HXO.out w4 hw4.symm ?_; (focus (exact congrArg Array.size r4)); clear hw4 r4)
            | fail)
          generalize W2.heap.size = gy at R4 hgy hgyp ⊢
          clear c3 c7 c10 q0 hi
          have k5 := d_c5 hi4.xC
          have q5 := pa_c5 hi4.p
          by_cases hre : x.read.toList = []
          · have b1 : x.read.toList.isEmpty = true := by rw [hre]; rfl
            have HE : Hid (RES = (x, ⟨#[]⟩, 6)) := Hid.mk (by rw [HRO.out]; unfold onS; rw [if_pos (Or.inl (size_zero.2 (toList_nil.1 hre)))])
            clear hre
            go_wp2_with (first
              | (refine at_load 55 rfl ?_; refine wpl_load rtSide rfl _ rfl w.heap.size rfl (sideC x vS vP vD) hi4.x (sideC_size _ _ _ _) ?_)
              | (refine at_store 55 rfl ?_; refine wpl_store rtSide rfl _ _ rfl (w.heap.size + 1) rfl (sideC x vS vP vD) rfl ?_ (sideC_size _ _ _ _) HXO.out _ rfl ?_; (focus (exact (congrArg Array.size hi4.r).trans side0_size)))
              | fail)
            refine bodyPost_ret (results_row_tmp2 rtSide Tryz.results31 _ _ (w.heap.size + 1) rfl ?_) rfl ?_
            · rw [rowOf_setRow_same (by rw [hi4.r]; exact side0_pos)]; rfl
            · rw [rowOf_setRow_same (by rw [hi4.r]; exact side0_pos)]; exact hear_err HE.out HK.out HPA.out HDR.out (below_setRow hi4.b (by omega) _) rfl
          · have b1 : x.read.toList.isEmpty = false := by cases h : x.read.toList <;> simp_all
            have hrz : ¬ x.read.size = 0 := fun e => hre (toList_nil.2 (size_zero.1 e))
            have zrd : x.read.size = 32 := by
              rcases HX.out.read with h | h
              · exact absurd h hrz
              · exact h
            by_cases hnn : p.n < x.nr
            · have b2 : (p.n : Int) < (x.nr : Int) := by omega
              have HE : Hid (RES = (x, ⟨#[]⟩, 6)) := Hid.mk (by rw [HRO.out]; unfold onS; rw [if_pos (Or.inr hnn)])
              clear zrd hrz
              go_wp2_with (first
                | (refine at_load 55 rfl ?_; refine wpl_load rtSide rfl _ rfl w.heap.size rfl (sideC x vS vP vD) hi4.x (sideC_size _ _ _ _) ?_)
                | (refine at_store 55 rfl ?_; refine wpl_store rtSide rfl _ _ rfl (w.heap.size + 1) rfl (sideC x vS vP vD) rfl ?_ (sideC_size _ _ _ _) HXO.out _ rfl ?_; (focus (exact (congrArg Array.size hi4.r).trans side0_size)))
                | fail)
              refine bodyPost_ret (results_row_tmp2 rtSide Tryz.results31 _ _ (w.heap.size + 1) rfl ?_) rfl ?_
              · rw [rowOf_setRow_same (by rw [hi4.r]; exact side0_pos)]; rfl
              · rw [rowOf_setRow_same (by rw [hi4.r]; exact side0_pos)]; exact hear_err HE.out HK.out HPA.out HDR.out (below_setRow hi4.b (by omega) _) rfl
            · have b2 : ¬ (p.n : Int) < (x.nr : Int) := by omega
              by_cases hsk : p.n > x.nr + 20
              · have b3 : (p.n : Int) > (x.nr : Int) + 20 := by omega
                have HE : Hid (RES = (x, ⟨#[]⟩, 7)) := Hid.mk (by rw [HRO.out]; unfold onS; rw [if_neg (by omega), if_pos hsk])
                clear zrd hrz
                go_wp2_with (first
                  | (refine at_load 55 rfl ?_; refine wpl_load rtSide rfl _ rfl w.heap.size rfl (sideC x vS vP vD) hi4.x (sideC_size _ _ _ _) ?_)
                  | (refine at_store 55 rfl ?_; refine wpl_store rtSide rfl _ _ rfl (w.heap.size + 1) rfl (sideC x vS vP vD) rfl ?_ (sideC_size _ _ _ _) HXO.out _ rfl ?_; (focus (exact (congrArg Array.size hi4.r).trans side0_size)))
                  | fail)
                refine bodyPost_ret (results_row_tmp2 rtSide Tryz.results31 _ _ (w.heap.size + 1) rfl ?_) rfl ?_
                · rw [rowOf_setRow_same (by rw [hi4.r]; exact side0_pos)]; rfl
                · rw [rowOf_setRow_same (by rw [hi4.r]; exact side0_pos)]; exact hear_err HE.out HK.out HPA.out HDR.out (below_setRow hi4.b (by omega) _) rfl
              · have b3 : ¬ (p.n : Int) > (x.nr : Int) + 20 := by omega
                have HE : Hid (RES = hearC x p data) := Hid.mk (by rw [HRO.out]; unfold onS; rw [if_neg (by omega), if_neg hsk])
                clear hrz
                have q0 := pa_c0 hi4.p
                have f5 := d_c5 R4
                have cnr : (x.nr : Int) = ((x.nr : Nat) : Int) := rfl
                clear cnr
                go_upto_region 57 with fail
                have HMZ : Hid (∀ c : ByteArray, macF c ⟨#[1]⟩ = keyF c ∧ macF c ⟨#[2]⟩ = behF c) := Hid.mk (fun c => ⟨rfl, rfl⟩)
                obtain ⟨c, hc⟩ : ∃ c, c = chn x.read (p.n - x.nr) := ⟨_, rfl⟩
                have zc : c.size = 32 := by rw [hc]; exact chn_size zrd _
                have zk := keyF_size c
                have zb := behF_size c
                have HML := Hid.mk (left_f pv x.read p.point x.nr p.n zrd (by omega) (by omega) w4 (HPV.out.below B4))
                rw [← hc] at HML
                have HC := Hid.mk hc
                obtain ⟨LL, hLL⟩ : ∃ L, L = leftL x.read p.point x.nr (p.n - x.nr) := ⟨_, rfl⟩
                rw [← hLL] at HML
                have hLn : LL.length ≤ 400 := by rw [hLL, leftL_length]; omega
                have HLL := Hid.mk hLL
                have hsl := HX.out.saved
                have f9 := d_c9 R4
                have HHC := Hid.mk (hearC_cases x p data HTH.out)
                rw [← hc, ← HDH.out] at HHC
                have hbc : w.heap.size + 1 ≠ gy := by omega
                clear hc hLL k5 k7
                obtain ⟨sa, sn, sc, hsa⟩ : ∃ a n c, vS = .slice a n c := ⟨_, _, _, HES.out⟩
                rw [hsa] at f9
                have HSA := Hid.mk hsa
                clear hsa
                go_upto_region 63 with (first
                  | (go_at_call 59; with_reducible refine HML.out.mono ?_; rintro e w5 ⟨v5, rfl, hv5, b5⟩; obtain ⟨a5, m5, c5', e5⟩ := hv5.slice; subst e5; have HV5 := Hid.mk hv5; clear hv5; have hi5 := hi4.below b5; have HR5 := Hid.mk (d_below R4 b5); clear f5 f9 q0 q5; have f9 := d_c9 HR5.out; rw [HSA.out] at f9; have HB5 := Hid.mk b5)
                  | (go_at_call 60; rw [← HSA.out]; have M := last_f vS (.slice a5 m5 c5') x.saved LL (by omega) hLn w5 ((HK.out.below B4).below HB5.out) HV5.out; with_reducible refine M.mono ?_; clear M; rintro e w6 ⟨v6, rfl, hv6, ho6, b6⟩; obtain ⟨a6, m6, c6, e6⟩ := hv6.slice; subst e6; have HV6 := Hid.mk hv6; have HO6 := Hid.mk ho6; clear hv6 ho6; have hi6 := hi5.below b6; have HR6 := Hid.mk (d_below HR5.out b6); clear f9; have f9 := d_c9 HR6.out; rw [HSA.out] at f9; have y9 := d_z HR6.out 9 (by omega); have hi6' := hi6.set hgy.2 hgyp 9 (.slice a6 m6 c6); have HR6' := Hid.mk (d_set9 HR6.out (.slice a6 m6 c6)))
                  | (go_at_call 62; have M := mac_any pv c ⟨#[1]⟩ (by omega) (by decide) (w6.setCell ⟨gy, 9, none⟩ (.slice a6 m6 c6)) (HPV.out.below hi6'.b); with_reducible refine M.mono ?_; clear M; rintro e w7 ⟨rfl, b7⟩; rw [(HMZ.out c).1]; have hi7 := hi6'.below b7; have HR7 := Hid.mk (d_below HR6'.out b7); clear f9 y9)
                  | (go_at_call 62; have M := mac_any pv c ⟨#[2]⟩ (by omega) (by decide) w7 (HPV.out.below hi7.b); with_reducible refine M.mono ?_; clear M; rintro e w8 ⟨rfl, b8⟩; rw [(HMZ.out c).2]; have hi8 := hi7.below b8; have HR8 := Hid.mk (d_below HR7.out b8); have f5 := d_c5 HR8.out; have y5 := d_z HR8.out 5 (by omega); have f7 := d_c7 HR8.out; have y7 := d_z HR8.out 7 (by omega); have hi8a := hi8.set hgy.2 hgyp 5 (.string (behF c)); have hi8' := hi8a.set hgy.2 hgyp 7 (.int .i64 ((p.n : Int) + 1)); have HR8' := Hid.mk (d_set7 (d_set5 HR8.out (behF c)) ((p.n : Int) + 1)); have q5 := pa_c5 hi8a.p; have q1 := pa_c1 hi8'.p; have q2 := pa_c2 hi8'.p)
                  | (go_at_call 57; rw [← HDH.out]; have M := sealed_open pv (keyF c) DH p.turned (by omega) zDH ztu ((w8.setCell ⟨gy, 5, none⟩ (.string (behF c))).setCell ⟨gy, 7, none⟩ (.int .i64 ((p.n : Int) + 1))) (HPV.out.below hi8'.b); with_reducible refine M.mono ?_; clear M; rintro e w9 ⟨rfl, b9⟩; have hi9 := hi8'.below b9; have HR9 := Hid.mk (d_below HR8'.out b9); clear f5 y5 f7 y7 q5 q1 q2)
                  | fail)
                have q3 := pa_c3 hi9.p
                by_cases hq : tagF (keyF c) DH p.turned = p.tag
                · have u1 : (tagF (keyF c) DH p.turned).toList = p.tag.toList := by rw [hq]
                  have u2 : ((tagF (keyF c) DH p.turned).toList == p.tag.toList) = true := by rw [u1]; simp
                  have u3 : ((tagF (keyF c) DH p.turned).toList != p.tag.toList) = false := by rw [u1]; simp
                  have HRS : Hid (RES = (chainS x p, turnF (keyF c) p.turned, 0)) := Hid.mk (by rw [HE.out, HHC.out.1 hq])
                  have HSC : Hid (sideC (chainS x p) (.slice a6 m6 c6) vP vD = dC x.root x.self (pubF x.self) x.theirs x.send (behF c) (x.ns : Int) ((p.n : Int) + 1) (x.pn : Int) (.slice a6 m6 c6) vP vD) := Hid.mk (by rw [dC_side]; simp only [chainS, ← HC.out]; rfl)
                  clear hq
                  go_wp2_with (first
                    | (refine at_load 55 rfl ?_; refine wpl_load rtSide rfl _ rfl gy rfl (dC x.root x.self (pubF x.self) x.theirs x.send (behF c) (x.ns : Int) ((p.n : Int) + 1) (x.pn : Int) (.slice a6 m6 c6) vP vD) HR9.out dC_size ?_)
                    | (refine at_store 55 rfl ?_; refine wpl_store rtSide rfl _ _ rfl (w.heap.size + 1) rfl (dC x.root x.self (pubF x.self) x.theirs x.send (behF c) (x.ns : Int) ((p.n : Int) + 1) (x.pn : Int) (.slice a6 m6 c6) vP vD) rfl ?_ dC_size (dC_one rfl HPO.out HDO.out) _ rfl ?_; (focus (exact (congrArg Array.size hi9.r).trans side0_size)))
                    | fail)
                  refine bodyPost_ret (results_row_tmp2 rtSide Tryz.results31 _ _ (w.heap.size + 1) rfl ?_) rfl ?_
                  · rw [rowOf_setRow_same (by rw [hi9.r]; exact side0_pos)]; exact dC_size
                  · rw [rowOf_setRow_same (by rw [hi9.r]; exact side0_pos), HRS.out, ← HSC.out]
                    have s5 := HB5.out.size
                    have t69 : Tch gy w6 w9 := (((((tch_own gy 9 w6 (.slice a6 m6 c6)).trans (tch_of b7 gy)).trans (tch_of b8 gy)).setCell 5 (.string (behF c))).setCell 7 (.int .i64 ((p.n : Int) + 1))).trans (tch_of b9 gy)
                    have hgl : gy < w5.heap.size := by have := rowOf_lt (w := w5) (g := gy) (by rw [HR5.out, dC_size]; omega); exact this
                    have K9 := (HV6.out.tch t69 (HO6.out gy hgl)).tch (Tch.setRow (tch_refl (w.heap.size + 1) w9) (sideC (chainS x p) (.slice a6 m6 c6) vP vD)) (HO6.out _ (by omega))
                    have B10 := below_setRow hi9.b (Nat.le_succ _) (sideC (chainS x p) (.slice a6 m6 c6) vP vD)
                    have hsv : (chainS x p).saved = lastL x.saved LL := by simp only [chainS]; rw [HLL.out, HTH.out]
                    have hpa2 : (chainS x p).past = x.past := by simp only [chainS]
                    have hdr2 : (chainS x p).draws = x.draws := by simp only [chainS]
                    refine ⟨.slice a6 m6 c6, vP, vD, rfl, ?_, ?_, ?_, fun k hk h => h.new (HO6.out k (by have := hi4.b.size; omega)), B10⟩
                    · show KpsAt _ _ (chainS x p).saved
                      rw [hsv]; exact K9
                    · show StrsAt _ _ (chainS x p).past
                      rw [hpa2]; exact HPA.out.below B10
                    · show StrsAt _ _ (chainS x p).draws
                      rw [hdr2]; exact HDR.out.below B10
                · have u1 : ¬ (tagF (keyF c) DH p.turned).toList = p.tag.toList := fun e => hq (toList_inj.1 e)
                  have u2 : ((tagF (keyF c) DH p.turned).toList == p.tag.toList) = false := by simpa using u1
                  have u3 : ((tagF (keyF c) DH p.turned).toList != p.tag.toList) = true := by simp [u1]
                  have HE2 : Hid (RES = (x, ⟨#[]⟩, 10)) := Hid.mk (by rw [HE.out, HHC.out.2 hq])
                  clear hq
                  go_wp2_with (first
                    | (refine at_load 55 rfl ?_; refine wpl_load rtSide rfl _ rfl w.heap.size rfl (sideC x vS vP vD) hi9.x (sideC_size _ _ _ _) ?_)
                    | (refine at_store 55 rfl ?_; refine wpl_store rtSide rfl _ _ rfl (w.heap.size + 1) rfl (sideC x vS vP vD) rfl ?_ (sideC_size _ _ _ _) HXO.out _ rfl ?_; (focus (exact (congrArg Array.size hi9.r).trans side0_size)))
                    | fail)
                  refine bodyPost_ret (results_row_tmp2 rtSide Tryz.results31 _ _ (w.heap.size + 1) rfl ?_) rfl ?_
                  · rw [rowOf_setRow_same (by rw [hi9.r]; exact side0_pos)]; rfl
                  · rw [rowOf_setRow_same (by rw [hi9.r]; exact side0_pos)]; exact hear_err HE2.out HK.out HPA.out HDR.out (below_setRow hi9.b (by omega) _) rfl
end Go.Proofs.YteghoooelgcpkaaGreatDoor
