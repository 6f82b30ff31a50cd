import Derived.Test.YteghoooelgcpkaaGreatDoorM22
namespace Go.Proofs.YteghoooelgcpkaaGreatDoor
open Go.RowKit Go.Msg
set_option maxRecDepth 20000 in
set_option maxHeartbeats 100000000 in
theorem hear_key (pv : Value) (x : Sd) (hx : x.Wf) (vS vP vD : Value) (m data : ByteArray) (hms : m.size ≤ 9223372036854775807) (hm : IsMsg m) (hdt : data.size ≤ 100) (hf : x.saved.findIdx? (isK (ptF m).point (ptF m).n) ≠ none) (w : World) (hpv : PrimAt w pv) (hS : KpsAt w vS x.saved) (hP : StrsAt w vP x.past) (hD : StrsAt w vD x.draws) :
    Calls Tryz.prog 31 #[pv, .agg (sideC x vS vP vD), .string m, .string data] w fun e w' => HearP w vS vP vD (hearS x m data) e w' := by
  obtain ⟨p, hp⟩ : ∃ p, p = ptF m := ⟨_, rfl⟩
  have HOK : Hid (PtOk p) := Hid.mk (by rw [hp]; exact pt_ok hm)
  have zh : p.head.size = 38 := by rw [hp]; exact (ptF_sizes hm).2.1
  obtain ⟨RES, hRES⟩ : ∃ r, r = hearS x m data := ⟨_, rfl⟩
  have HRES : Hid (RES = hearP x p data) := Hid.mk (by rw [hRES, hearS_eq hm, hp])
  rw [← hRES]
  rw [← hp] at hf
  have HF := Hid.mk hf
  clear hf
  have HK := Hid.mk hS
  have HPA := Hid.mk hP
  have HDR := Hid.mk hD
  have HXO := Hid.mk (side_one hS hP hD)
  obtain ⟨W0, hW0, RX0, RR0, B0, z0⟩ := hear_box w x vS vP vD
  have s0 := B0.size
  have HM : Hid (Calls Tryz.prog 56 #[.string m] W0 fun e w' => e = .returned (.tuple #[.agg (partsC p), .bool true]) ∧ Below W0.heap.size W0 w') := Hid.mk ((split_f m hms W0).mono (fun e w' h => by
    rcases h.1 with ⟨_, h1⟩ | ⟨h1, _⟩
    · exact ⟨by rw [h1, hp], h.2⟩
    · exact absurd hm h1))
  obtain ⟨aoS, nS, capS, eS⟩ := hS.slice
  obtain ⟨aoP, nP, capP, eP⟩ := hP.slice
  obtain ⟨aoD, nD, capD, eD⟩ := hD.slice
  have HES := Hid.mk eS
  have HEP := Hid.mk eP
  have HED := Hid.mk eD
  rw [eS] at hS
  rw [eP] at hP
  rw [eD] at hD
  obtain ⟨hlS, hcS, gS, oS, haS, hxS⟩ := hS.opened
  obtain ⟨hlP, hcP, gP, oP, haP, hxP⟩ := hP.opened
  obtain ⟨hlD, hcD, gD, oD, haD, hxD⟩ := hD.opened
  have HX := Hid.mk hx
  have HLS := Hid.mk hlS
  have HLP := Hid.mk hlP
  have HLD := Hid.mk hlD
  have HXS := Hid.mk hxS
  have HXP := Hid.mk hxP
  have HXD := Hid.mk hxD
  have HPV := Hid.mk hpv
  have HPO := Hid.mk HPA.out.one
  have HDO := Hid.mk HDR.out.one
  have bS : nS ≤ 32 := by rw [hlS]; exact hx.saved
  have bP : nP ≤ 24 := by rw [hlP]; exact hx.past
  have bD : nD ≤ 8 := by rw [hlD]; exact hx.draws
  have zDH : (data ++ p.head).size ≤ 200 := by rw [ByteArray.size_append]; omega
  have zpt := HOK.out.point
  have ztu := HOK.out.turned
  have ztg := HOK.out.tag
  have hpa := HOK.out.ahead
  have hpn := HOK.out.n
  have hnr := hx.nr
  have hns := hx.ns
  have hpn' : (p.n : Int) < 300 := by omega
  have hpa' : (p.ahead : Int) ≤ 300 := by omega
  have hnr' : (x.nr : Int) ≤ 300 := by omega
  have zsf := hx.self
  have zrt := hx.root
  obtain ⟨DH, hDH⟩ : ∃ d, d = data ++ p.head := ⟨_, rfl⟩
  rw [← hDH] at zDH
  have HDH := Hid.mk hDH
  have zdd : data.size + p.head.size ≤ 200 := by omega
  clear hS hP hD hx hp hm hRES hxS hxP hxD hpv hlS hlP hlD eS eP eD hDH
  rw [side_lit]
  go_enter Tryz.func31, Tryz.ntmps31
  go_upto_region 1 with fail
  rw [← hW0]
  clear hW0
  go_upto_region 4 with (first
    | (go_at_call 56; with_reducible refine HM.out.mono ?_; rintro e w1 ⟨rfl, b1⟩; have B1 := below_lift B0 s0 b1; obtain ⟨r1, w2, hw2, R2, B2, z2⟩ := new_stored B1 pa0 (partsC p) 98 pa0_pos; have hx1 := (below_row b1 (by rw [RX0, sideC_size]; omega)).trans RX0; have hr1 := (below_row b1 (by rw [RR0]; exact side0_pos)).trans RR0; have hx2 := ns_other hw2 hx1 (by rw [sideC_size]; omega); have hr2 := ns_other hw2 hr1 side0_pos; clear hx1 hr1 RX0 RR0)
    | (refine at_store 98 rfl ?_; refine wpl_store rtParts rfl _ _ rfl w1.heap.size rfl (partsC p) rfl ?_ (partsC_size p) (partsC_one p) w2 hw2.symm ?_; (focus (exact congrArg Array.size r1)); clear hw2 r1)
    | fail)
  have hi0 : HI w w2 w1.heap.size (sideC x vS vP vD) p := ⟨B2, hx2, hr2, R2⟩
  have hgp : w.heap.size + 1 < w1.heap.size := by have := b1.size; omega
  clear hx2 hr2 R2 b1 B1 B2 B0 s0 z0 z2 HM
  generalize w1.heap.size = gp at hi0 hgp ⊢
  clear w1
  go_wp2_with fail
  go_loopw [13] (fun i wq => ∃ j : Nat, i = .int .i64 j ∧ j ≤ nS ∧ Hid (∀ i k, i < j → x.saved[i]? = some k → isK p.point p.n k = false) ∧ HI w wq gp (sideC x vS vP vD) p) (fun i _ => nS - (intOf i).toNat)
  case atStart => exact ⟨0, rfl, by omega, Hid.mk (fun i k h => absurd h (by omega)), hi0⟩
  case round =>
    clear hi0
    obtain ⟨j, rfl, hj, HNO, hi⟩ := hrel
    have hib := hi.b
    have his := hib.size
    by_cases hlt : j < nS
    · have c1 : (j : Int) < nS := by omega
      have c9 := d_c9 hi.xC
      have hao := haS (by omega)
      rw [HES.out, hao] at c9
      obtain ⟨kp, hkp⟩ : ∃ kp, x.saved[j]? = some kp := ⟨x.saved[j]'(by rw [← HLS.out]; exact hlt), List.getElem?_eq_getElem _⟩
      obtain ⟨hp0, hp1, hp2⟩ := kp_up hib HXS.out j kp hkp
      have HKP := Hid.mk hkp
      have hkw := HX.out.savedW kp (List.mem_of_getElem? hkp)
      have zkk := hkw.key
      clear hkp hkw
      have HAO := Hid.mk hao
      clear hao
      obtain ⟨r1, w2, hw2, R2, B2, z2⟩ := new_stored hib sv0 (kC kp.pt (kp.n : Int) kp.key) 89 sv0_pos
      have hi2 : HI w w2 gp (sideC x vS vP vD) p := ⟨B2, ns_other hw2 hi.x (by rw [sideC_size]; omega), ns_other hw2 hi.r side0_pos, ns_other hw2 hi.p (by rw [partsC_size]; omega)⟩
      have k0 := k3_c0 R2
      have k1 := k3_c1 R2
      have k2 := k3_c2 R2
      have q0 := pa_c0 hi2.p
      have q1 := pa_c1 hi2.p
      have q2 := pa_c2 hi2.p
      have q5 := pa_c5 hi2.p
      clear R2
      by_cases hmt : kp.pt = p.point ∧ kp.n = p.n
      · have t1 : kp.pt.toList = p.point.toList := by rw [hmt.1]
        have t2 : (kp.pt.toList == p.point.toList) = true := by rw [t1]; simp
        have t3 : ((kp.n : Int) == (p.n : Int)) = true := by rw [hmt.2]; simp
        have t4 : ((kp.n : Int) != (p.n : Int)) = false := by rw [hmt.2]; simp
        have t5 : (kp.pt.toList != p.point.toList) = false := by rw [t1]; simp
        have HFI : Hid (x.saved.findIdx? (isK p.point p.n) = some j) := Hid.mk (by
          refine List.findIdx?_eq_some_iff_getElem.2 ⟨(List.getElem?_eq_some_iff.1 HKP.out).1, ?_, fun i hi => ?_⟩
          · rw [(List.getElem?_eq_some_iff.1 HKP.out).2]; simp [isK, hmt.1, hmt.2]
          · have := HNO.out i _ hi (List.getElem?_eq_getElem (Nat.lt_trans hi (List.getElem?_eq_some_iff.1 HKP.out).1))
            rw [this]; simp)
        have HRK : Hid (RES = hearK x p data j kp) := Hid.mk (by rw [HRES.out]; unfold hearP; rw [HFI.out]; simp only [HKP.out])
        have HIF : Hid ((if true = true then p.turned else turnF kp.key p.turned) = p.turned) := Hid.mk rfl
        clear hmt
        go_upto_region 10 with (first
          | (refine at_load 89 rfl ?_; refine wpl_load_sv rfl _ rfl gS (oS + j * 3) rfl kp.pt kp.key (kp.n : Int) hp0 hp1 hp2 ?_)
          | (refine at_store 89 rfl ?_; refine wpl_store rtSaved rfl _ _ rfl wr.heap.size rfl (kC kp.pt (kp.n : Int) kp.key) rfl ?_ (kC_size _ _ _) (kC_one _ _ _) w2 hw2.symm ?_; (focus (exact congrArg Array.size r1)); clear hw2 r1)
          | (go_at_call 57; rw [← HDH.out]; have M := sealed_any pv kp.key DH p.turned true (by omega) zDH ztu w2 (HPV.out.below B2); with_reducible refine M.mono ?_; clear M; rintro e w3 ⟨rfl, b3⟩; rw [HIF.out]; have hi3 := hi2.below b3; clear k0 k1 k2 q0 q1 q2 q5 c9 hi2 hi)
          | fail)
        have q3 := pa_c3 hi3.p
        by_cases hq : tagF kp.key DH p.turned = p.tag
        · have u1 : (tagF kp.key DH p.turned).toList = p.tag.toList := by rw [hq]
          have u2 : ((tagF kp.key DH p.turned).toList == p.tag.toList) = true := by rw [u1]; simp
          have u3 : ((tagF kp.key DH p.turned).toList != p.tag.toList) = false := by rw [u1]; simp
          have HRS : Hid (RES = ({ x with saved := x.saved.take j ++ x.saved.drop (j + 1) }, turnF kp.key p.turned, 0)) := Hid.mk (by rw [HRK.out]; unfold hearK okK; rw [← HDH.out, if_pos (by simp [hq])])
          clear hq
          obtain ⟨r4, w4, hw4, R4, B4, z4⟩ := new_stored hi3.b side0 (sideC x vS vP vD) 55 side0_pos
          have hi4 : HI w w4 gp (sideC x vS vP vD) p := ⟨B4, ns_other hw4 hi3.x (by rw [sideC_size]; omega), ns_other hw4 hi3.r side0_pos, ns_other hw4 hi3.p (by rw [partsC_size]; omega)⟩
          have hgy := hi3.lt
          have hgyp : w3.heap.size ≠ gp := by omega
          have R4 := R4.trans (dC_side x vS vP vD)
          have s4 := B4.size
          have c9 := d_c9 hi4.xC
          rw [HES.out, HAO.out] at c9
          have HKT := Hid.mk (kp_take (kp_up B4 HXS.out) j)
          have HKD : Hid (∀ W, Below w.heap.size w W → ∀ q u, (kpCells (x.saved.drop (j + 1)))[q]? = some u → W.cell? ((⟨gS, oS + (j + 1) * 3, none⟩ : Addr).add q) = some u) := Hid.mk (fun W hW => kp_drop (kp_up hW HXS.out) (j + 1))
          have HL1 : Hid ((kpCells (x.saved.take j)).length = j * 3) := Hid.mk (by rw [kpCells_length, List.length_take, ← HLS.out]; rw [Nat.min_eq_left (by omega)])
          have HL2 : Hid ((kpCells (x.saved.drop (j + 1))).length = (nS - (j + 1)) * 3) := Hid.mk (by rw [kpCells_length, List.length_drop, ← HLS.out])
          have cj : (j : Int) ≤ nS := by omega
          have cj1 : (j : Int) + 1 ≤ nS := by omega
          have cj2 : ((j : Int) + 1).toNat = j + 1 := by omega
          have cj3 : (nS : Int) ≤ capS := by omega
          have cj4 : (j : Int) ≤ capS := by omega
          have cb : (nS : Int) ≤ 32 := by omega
          obtain ⟨AD, hAD, hAD2⟩ : ∃ AD : Option Addr, (if capS = j + 1 then some (⟨gS, oS, none⟩ : Addr) else some ⟨gS, oS + (j + 1) * 3, none⟩) = AD ∧ (0 < nS - (j + 1) → AD = some ⟨gS, oS + (j + 1) * 3, none⟩) := by
            refine ⟨_, rfl, fun h => ?_⟩
            rw [if_neg (by omega)]
          have HAD2 := Hid.mk hAD2
          clear hAD2
          go_wp2_with (first
            | (refine at_load 55 rfl ?_; refine wpl_load rtSide rfl _ rfl w.heap.size rfl (sideC x vS vP vD) hi3.x (sideC_size _ _ _ _) ?_)
            | (refine at_store 55 rfl ?_; refine wpl_store rtSide rfl _ _ rfl w3.heap.size rfl (sideC x vS vP vD) rfl ?_ (sideC_size _ _ _ _) HXO.out w4 hw4.symm ?_; (focus (exact congrArg Array.size r4)); clear hw4 r4)
            | (at_builtin; refine wpl_appendL Tryz.underlying53 iSaved (by omega) (by omega) rfl _ _ rfl w4.heap.size _ 0 [] rfl (World.ownsRow_nil _ _ _ _) _ ⟨gS, oS, none⟩ j capS (kpCells (x.saved.take j)) rfl (fun _ => rfl) HL1.out HKT.out (kpCells_one _) (by omega) (by omega) (Nat.le_refl _) ?_; intro v5 w5 hown5 hbel5 hsz5; have B45 := hbel5 w4 (Below.refl _ _); have hi5 := hi4.below B45; have HO5 := Hid.mk hown5; clear hown5 hbel5; clear c9; have c9 := d_c9 hi5.xC; rw [HES.out, HAO.out] at c9)
            | (at_builtin; refine wpl_appendL Tryz.underlying53 iSaved (by omega) (by omega) rfl _ _ rfl w4.heap.size _ (0 + j) ([] ++ kpCells (x.saved.take j)) rfl HO5.out AD ⟨gS, oS + (j + 1) * 3, none⟩ (nS - (j + 1)) (capS - (j + 1)) (kpCells (x.saved.drop (j + 1))) rfl HAD2.out HL2.out (HKD.out w5 hi5.b) (kpCells_one _) (by omega) (by omega) hsz5 ?_; intro v6 w6 hown6 hbel6 hsz6; have B46 := hbel6 w4 B45; rw [Nat.zero_add] at hown6; have hi6 := hi4.below B46; obtain ⟨ao6, cap6, g6, e6, _, _⟩ := own_shape hown6; subst e6; have HO6 := Hid.mk hown6; clear hown6 hbel6 c9; have R6 := d_below R4 B46; have f9 := d_c9 R6; have y9 := d_z R6 9 (by omega); have R7 := d_set9 R6 (.slice ao6 (j + (nS - (j + 1))) cap6); have hi7 := hi6.set hgy.2 hgyp 9 (.slice ao6 (j + (nS - (j + 1))) cap6); rw [HES.out] at f9; clear R6)
            | (refine at_load 55 rfl ?_; refine wpl_load rtSide rfl _ rfl w3.heap.size rfl (dC x.root x.self (pubF x.self) x.theirs x.send x.read (x.ns : Int) (x.nr : Int) (x.pn : Int) (.slice ao6 (j + (nS - (j + 1))) cap6) vP vD) R7 dC_size ?_)
            | (refine at_store 55 rfl ?_; refine wpl_store rtSide rfl _ _ rfl (w.heap.size + 1) rfl (dC x.root x.self (pubF x.self) x.theirs x.send x.read (x.ns : Int) (x.nr : Int) (x.pn : Int) (.slice ao6 (j + (nS - (j + 1))) cap6) vP vD) rfl ?_ dC_size (dC_one rfl HPO.out HDO.out) _ rfl ?_; (focus (exact (congrArg Array.size hi7.r).trans side0_size)))
            | fail)
          refine bodyPost_ret (results_row_tmp2 rtSide Tryz.results31 _ _ (w.heap.size + 1) rfl ?_) rfl ?_
          · rw [rowOf_setRow_same (by rw [hi7.r]; exact side0_pos)]; exact dC_size
          · rw [rowOf_setRow_same (by rw [hi7.r]; exact side0_pos), HRS.out]
            have OK6 := HO6.out
            rw [List.nil_append, ← kpCells_append] at OK6
            have hLn : j + (nS - (j + 1)) = (x.saved.take j ++ x.saved.drop (j + 1)).length := by rw [List.length_append, List.length_take, List.length_drop, ← HLS.out]; omega
            have K6 : KpsAt w6 (.slice ao6 (j + (nS - (j + 1))) cap6) (x.saved.take j ++ x.saved.drop (j + 1)) := owns_kps OK6 hLn
            have K7 := (K6.tch (tch_own w3.heap.size 9 w6 (.slice ao6 (j + (nS - (j + 1))) cap6)) (off_of_owns OK6 (by omega))).tch (Tch.setRow (tch_refl (w.heap.size + 1) _) (dC x.root x.self (pubF x.self) x.theirs x.send x.read (x.ns : Int) (x.nr : Int) (x.pn : Int) (.slice ao6 (j + (nS - (j + 1))) cap6) vP vD)) (off_of_owns OK6 (by omega))
            have B8 := below_setRow hi7.b (Nat.le_succ _) (dC x.root x.self (pubF x.self) x.theirs x.send x.read (x.ns : Int) (x.nr : Int) (x.pn : Int) (.slice ao6 (j + (nS - (j + 1))) cap6) vP vD)
            exact ⟨.slice ao6 (j + (nS - (j + 1))) cap6, vP, vD, rfl, K7, HPA.out.below B8, HDR.out.below B8, fun k hk h => h.new (off_of_owns OK6 (by omega)), B8⟩
        · have u1 : ¬ (tagF kp.key DH p.turned).toList = p.tag.toList := fun e => hq (toList_inj.1 e)
          have u2 : ((tagF kp.key DH p.turned).toList == p.tag.toList) = false := by simpa using u1
          have u3 : ((tagF kp.key DH p.turned).toList != p.tag.toList) = true := by simp [u1]
          have HE : Hid (RES = (x, ⟨#[]⟩, 10)) := Hid.mk (by rw [HRK.out]; unfold hearK okK; rw [← HDH.out, if_neg (by simp [hq])])
          clear hq
          go_wp2_with (first
            | (refine at_load 55 rfl ?_; refine wpl_load rtSide rfl _ rfl w.heap.size rfl (sideC x vS vP vD) hi3.x (sideC_size _ _ _ _) ?_)
            | (refine at_store 55 rfl ?_; refine wpl_store rtSide rfl _ _ rfl (w.heap.size + 1) rfl (sideC x vS vP vD) rfl ?_ (sideC_size _ _ _ _) HXO.out _ rfl ?_; (focus (exact (congrArg Array.size hi3.r).trans side0_size)))
            | fail)
          refine bodyPost_ret (results_row_tmp2 rtSide Tryz.results31 _ _ (w.heap.size + 1) rfl ?_) rfl ?_
          · rw [rowOf_setRow_same (by rw [hi3.r]; exact side0_pos)]; rfl
          · rw [rowOf_setRow_same (by rw [hi3.r]; exact side0_pos)]; exact hear_err HE.out HK.out HPA.out HDR.out (below_setRow hi3.b (by omega) _) rfl
      · have HNK : Hid (isK p.point p.n kp = false) := Hid.mk (by unfold isK; simpa using hmt)
        have HNO2 : Hid (∀ i k, i < j + 1 → x.saved[i]? = some k → isK p.point p.n k = false) := Hid.mk (fun i k hi hk => by
          by_cases e : i = j
          · subst e; rw [HKP.out] at hk; cases hk; exact HNK.out
          · exact HNO.out i k (by omega) hk)
        by_cases hpe : kp.pt = p.point
        · have hne : ¬ kp.n = p.n := fun e => hmt ⟨hpe, e⟩
          have t1 : kp.pt.toList = p.point.toList := by rw [hpe]
          have t2 : (kp.pt.toList == p.point.toList) = true := by rw [t1]; simp
          have t5 : (kp.pt.toList != p.point.toList) = false := by rw [t1]; simp
          have t3 : ((kp.n : Int) == (p.n : Int)) = false := by simp; omega
          have t4 : ((kp.n : Int) != (p.n : Int)) = true := by simp; omega
          clear hmt hpe hne t1
          go_wp2_with (first
            | (refine at_load 89 rfl ?_; refine wpl_load_sv rfl _ rfl gS (oS + j * 3) rfl kp.pt kp.key (kp.n : Int) hp0 hp1 hp2 ?_)
            | (refine at_store 89 rfl ?_; refine wpl_store rtSaved rfl _ _ rfl wr.heap.size rfl (kC kp.pt (kp.n : Int) kp.key) rfl ?_ (kC_size _ _ _) (kC_one _ _ _) w2 hw2.symm ?_; (focus (exact congrArg Array.size r1)); clear hw2 r1)
            | fail)
          go_roundw
          case rel => exact ⟨j + 1, by go_num, by omega, HNO2, hi2⟩
          case measure => simp [intOf]; omega
        · have t1 : ¬ kp.pt.toList = p.point.toList := fun e => hpe (toList_inj.1 e)
          have t2 : (kp.pt.toList == p.point.toList) = false := by simpa using t1
          have t5 : (kp.pt.toList != p.point.toList) = true := by simp [t1]
          clear hmt hpe
          go_wp2_with (first
            | (refine at_load 89 rfl ?_; refine wpl_load_sv rfl _ rfl gS (oS + j * 3) rfl kp.pt kp.key (kp.n : Int) hp0 hp1 hp2 ?_)
            | (refine at_store 89 rfl ?_; refine wpl_store rtSaved rfl _ _ rfl wr.heap.size rfl (kC kp.pt (kp.n : Int) kp.key) rfl ?_ (kC_size _ _ _) (kC_one _ _ _) w2 hw2.symm ?_; (focus (exact congrArg Array.size r1)); clear hw2 r1)
            | fail)
          go_roundw
          case rel => exact ⟨j + 1, by go_num, by omega, HNO2, hi2⟩
          case measure => simp [intOf]; omega
    · have hj' : j = nS := by omega
      refine absurd (List.findIdx?_eq_none_iff.2 (fun k hk => ?_)) HF.out
      obtain ⟨i, hi⟩ := List.getElem?_of_mem hk
      exact HNO.out i k (by rw [hj', HLS.out]; exact (List.getElem?_eq_some_iff.1 hi).1) hi
end Go.Proofs.YteghoooelgcpkaaGreatDoor
