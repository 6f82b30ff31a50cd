/- The walks of the document's own answer: numbers: Mod. -/
import Derived.Test.YtogkchcclcbobaaRf3
namespace Go.Proofs.Ytogkchcclcbobaa
open Go.RowKit Go.Msg

set_option maxRecDepth 2000 in
set_option maxHeartbeats 4000000 in
theorem mod_any (w : World) (v : Value) (x : Int) (h : IsNum w v x) (hx : x < 65536 ^ 33) :
    Calls Try.prog 73 #[v] w fun e w' => ∃ v', e = .returned v' ∧ IsNum w' v' (x % P25519) ∧ Below w.heap.size w w' := by
  have HX : Hid (x < 65536 ^ 33) := hx
  clear hx
  go_enter Try.func73, Try.ntmps73
  go_wp2
  go_loopw [0, 3, 4, 5] (fun v' _ _ _ wr => ∃ y : Int, IsNum wr v' y ∧ y ≤ x ∧ Eqv y x ∧ Below w.heap.size w wr) (fun v' _ _ _ wr => nval wr v')
  case atStart => exact ⟨x, h, by omega, Eqv.refl _, Below.refl _ _⟩
  case round =>
    obtain ⟨y, hN, hyx, hE, hbel⟩ := hrel
    have hM := hN.nval
    have hy0 := hN.nonneg
    have hN0 := hN
    obtain ⟨n, a, ⟨ao, cap, g, rfl, hc1, ha1, hx1⟩, dg, tr, hv⟩ := hN
    have hn33 : n ≤ 33 := trim_len dg tr (by rw [hv]; have := HX.out; omega)
    have hbs := hbel.size
    by_cases hlt : 16 < n
    · have c1 : (16 : Int) < n := by omega
      have e1 := ha1 (by omega)
      subst e1
      have hcap : (16 : Int) ≤ cap := by omega
      have HM : Hid _ := hM
      have Hv : Hid _ := hv
      clear hM hv
      go_wp2_with (first | (refine wpl_make nums rfl _ _ rfl 18 18 18 rfl rfl rfl rfl (by omega) ?_) | (refine wpl_copy nums rfl _ _ rfl wr.heap.size 18 g 16 cap 18 (fun _ => 0) a rfl rfl ?_ (by omega) (by omega) ?_ ?_; (focus (simp [go_sem]; done)); (focus (intro i hi; rw [World.cell?_alloc_lt _ _ _ (World.block_lt_of_cell? wr _ (hx1 i (by omega)))]; exact hx1 i (by omega)))))
      have da : ∀ i, 0 ≤ ext0 n a i ∧ ext0 n a i < 65536 := ext0_bd dg
      have da16 : ∀ i, 0 ≤ ext0 16 a i ∧ ext0 16 a i < 65536 := ext0_bd (fun i hi => dg i (by omega))
      go_loopw [4, 5] (fun c i wq => ∃ (k : Nat) (y : Int) (F : Nat → Int), k ≤ 18 ∧ i = .int .i64 k ∧ c = .int .i64 y ∧ Folds n a k y F ∧ wq = wr.alloc (.cells (tab .i64 18 F) 3)) (fun _ i _ => 18 - (intOf i).toNat)
      case atStart => exact ⟨0, 0, splice (fun _ => 0) 0 16 a, by omega, rfl, rfl, ⟨by omega, fun i hi => by omega, fun i _ _ => by simp [splice, ext0], by simp [dval]⟩, by first | rfl | rw [World.setRow_alloc_at _ _ _ _ _ rfl]⟩
      case round =>
        obtain ⟨k, c, F, hk, rfl, rfl, hS, rfl⟩ := hrel
        have hc0 := hS.c0
        by_cases hk18 : k < 18
        · have c2 : (k : Int) < 18 := by omega
          have fk : 0 ≤ F k ∧ F k < 65536 := by rw [hS.rest k (by omega) hk18]; exact da16 k
          by_cases hh : 16 + k < n
          · have c3 : (16 : Int) + k < n := by omega
            have y1 := hx1 (16 + k) hh
            have l1 := World.block_lt_of_cell? wr _ y1
            have b1 := dg (16 + k) hh
            have ST := hS.step hk18 da da16 (s := c + F k + 38 * a (16 + k)) (by simp [ext0, hh])
            have HST : Hid _ := ST
            clear ST hx1 da da16 ha1
            go_wp2
            go_roundw
            case rel => exact ⟨k + 1, _, _, by omega, by go_num, rfl, HST.out, rfl⟩
            case measure => simp [intOf]; omega
          · have c3 : (n : Int) ≤ 16 + k := by omega
            have ST := hS.step hk18 da da16 (s := c + F k) (by simp [ext0, hh])
            have HST : Hid _ := ST
            clear ST hx1 da da16 ha1
            go_wp2
            go_roundw
            case rel => exact ⟨k + 1, _, _, by omega, by go_num, rfl, HST.out, rfl⟩
            case measure => simp [intOf]; omega
        · have hk' : k = 18 := by omega
          subst hk'
          have D := hS.done dg tr hlt hn33
          have HD : Hid _ := D
          clear D
          have hcell : ∀ i, i < 18 → (wr.alloc (.cells (tab .i64 18 F) 3)).cell? ⟨wr.heap.size, i, none⟩ = some (.int .i64 (F i)) := fun i hi => by simp [go_sem, hi]
          have HC : Hid _ := hcell
          clear hcell hx1 da da16 ha1
          go_wp2_with (go_at_call 41; refine (trim_at _ _ _ _ F HC.out (by omega) (by omega)).mono ?_; rintro e w' ⟨j, hj, rfl, htr, hz, rfl⟩)
          have hnum : IsNum (wr.alloc (.cells (tab .i64 18 F) 3)) (.slice (some ⟨wr.heap.size, 0, none⟩) j 18) (dval 18 F) := by
            refine ⟨j, F, NumAt.of_row (N := 18) (F := F) (by simp [go_sem]) (by omega) hj (fun _ _ => rfl), fun i hi => HD.out.1 i (by omega), htr, ?_⟩
            obtain ⟨c, hc⟩ : ∃ c, 18 = j + c := ⟨18 - j, by omega⟩
            rw [hc, dval_shift, dval_congr (n := c) (g := fun _ => 0) (fun i hi => hz _ (by omega) (by omega)), dval_zero]; omega
          go_roundw
          case rel => exact ⟨dval 18 F, hnum, by have := HD.out.2.2; rw [Hv.out] at this; omega, (HD.out.2.1.trans (Eqv.of_eq Hv.out)).trans hE, hbel.alloc hbs _⟩
          case measure =>
            rw [hnum.nval, HM.out]
            have := HD.out.2.2; rw [Hv.out] at this
            have := hnum.nonneg
            omega
    · have c1 : (n : Int) ≤ 16 := by omega
      have hy16 : y < 65536 ^ 16 := by rw [← hv]; have := (dval_bd dg).2; have := pow_mono (show n ≤ 16 by omega); omega
      have HY : Hid _ := hy16
      clear hy16 hM hv hx1 ha1
      go_wp2_with (go_at_call 88; refine (prime_any _).mono ?_; rintro e wp ⟨vp, rfl, hp, hbp⟩)
      have hN1 := hN0.below hbp
      have hbel1 := below_lift hbel hbs hbp
      have hbs1 := hbel1.size
      clear hN0 hbel hbs hbp
      go_loopw [0, 7] (fun v' _ wr => ∃ z : Int, IsNum wr v' z ∧ z ≤ y ∧ Eqv z x ∧ IsNum wr vp P25519 ∧ Below w.heap.size w wr) (fun v' _ wr => nval wr v')
      case atStart => exact ⟨y, hN1, by omega, hE, hp, hbel1⟩
      case round =>
        obtain ⟨z, hZ, hzy, hEz, hP, hbel⟩ := hrel
        have hz0 := hZ.nonneg
        have hM := hZ.nval
        have HM : Hid _ := hM
        clear hM
        have hbs := hbel.size
        have hz1000 : z < 65536 ^ 1000 := by have := HY.out; have := pow_mono (show 16 ≤ 1000 by omega); omega
        have HZ : Hid _ := hz1000
        have HP : Hid (P25519 < 65536 ^ 1000) := by show P25519 < 65536 ^ 1000; have := pow_mono (show 16 ≤ 1000 by omega); have : P25519 < 65536 ^ 16 := by decide
                                                    omega
        clear hz1000
        by_cases hlt2 : z < P25519
        · have hd : decide (z < P25519) = true := by simp [hlt2]
          go_wp2_with (go_at_call 24; refine (less_any hZ hP HZ.out HP.out).mono ?_; rintro e w2 ⟨rfl, hb2⟩; rw [hd])
          go_ret
          refine ⟨_, rfl, ?_, below_lift hbel hbs hb2⟩
          have : x % P25519 = z := by rw [← show z % P25519 = x % P25519 from hEz]; exact Int.emod_eq_of_lt hz0 hlt2
          rw [this]; exact hZ.below hb2
        · have hd : decide (z < P25519) = false := by simp; omega
          go_wp2_with (first | (go_at_call 24; refine (less_any hZ hP HZ.out HP.out).mono ?_; rintro e w2 ⟨rfl, hb2⟩; rw [hd]; have hZ2 := hZ.below hb2; have hP2 := hP.below hb2; have hbel2 := below_lift hbel hbs hb2; have hbs2 := hbel2.size) | (go_at_call 89; refine (rminus_any hZ2 hP2 (by omega) HZ.out).mono ?_; rintro e w3 ⟨v3, rfl, h3, hb3⟩))
          go_roundw
          case rel => exact ⟨z - P25519, h3, by have : (0 : Int) < P25519 := by decide
                                                omega, by
            have e : z - P25519 = z - 1 * P25519 := by omega
            rw [e]; exact (show Eqv _ _ from emod_sub_mul _ _ _).trans hEz, hP2.below hb3, below_lift hbel2 hbs2 hb3⟩
          case measure =>
            rw [h3.nval, HM.out]
            have : (0 : Int) < P25519 := by decide
            have := h3.nonneg
            omega
end Go.Proofs.Ytogkchcclcbobaa
