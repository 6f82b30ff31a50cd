import Derived.Test.YteghoooelgcpkaaGreatDoorM00
namespace Go.Proofs.YteghoooelgcpkaaGreatDoor
open Go.RowKit Go.Msg

set_option maxHeartbeats 2000000 in
theorem rtimes_at (w : World) (v1 v2 : Value) (n m : Nat) (a b : Nat → Int) (h1 : NumAt w v1 n a) (h2 : NumAt w v2 m b) (d1 : Dig n a) (d2 : Dig m b) (hn : n ≤ 100000) (hm : m ≤ 100000) :
    Calls Tryz.prog 46 #[v1, v2] w fun e w' => ∃ v, e = .returned v ∧ IsNum w' v (dval n a * dval m b) ∧ Below w.heap.size w w' := by
  obtain ⟨ao1, cap1, g1, rfl, hc1, ha1, hx1⟩ := h1
  obtain ⟨ao2, cap2, g2, rfl, hc2, ha2, hx2⟩ := h2
  go_enter Tryz.func46, Tryz.ntmps46
  go_wp2_with (refine wpl_make nums rfl _ _ rfl (n + m + 1) _ _ rfl rfl (by omega) (by omega) (by omega) ?_)
  go_loopw [6, 7, 8] (fun i _ _ wr => ∃ (k d : Nat) (F : Nat → Int), k ≤ n ∧ i = .int .i64 k ∧ Muls n m a b k 0 0 F ∧ wr = (w.alloc (.cells (tab .i64 (n + m + 1) F) 3)).dr d) (fun i _ _ _ => n - (intOf i).toNat)
  case atStart => exact ⟨0, _, _, by omega, rfl, Muls.start n m a b, (World.dr_self _).symm⟩
  case round =>
    obtain ⟨k, d, F, hk, rfl, hS, rfl⟩ := hrel
    by_cases hkn : k < n
    · have e1 := ha1 (by omega)
      subst e1
      have c1 : (k : Int) < n := by omega
      have b1 := d1 k hkn
      go_wp2
      go_loopw [7, 8] (fun c j wr => ∃ (q d : Nat) (y : Int) (F : Nat → Int), q ≤ m ∧ j = .int .i64 q ∧ c = .int .i64 y ∧ Muls n m a b k q y F ∧ wr = (w.alloc (.cells (tab .i64 (n + m + 1) F) 3)).dr d) (fun _ j _ => m - (intOf j).toNat)
      case atStart => exact ⟨0, _, 0, _, by omega, rfl, rfl, hS, rfl⟩
      case round =>
        clear hS
        obtain ⟨q, d, y, F, hq, rfl, rfl, hS, rfl⟩ := hrel
        have hc := hS.c0
        by_cases hqm : q < m
        · have e2 := ha2 (by omega)
          subst e2
          have l1 := World.block_lt_of_cell? w _ (hx1 k hkn)
          have l2 := World.block_lt_of_cell? w _ (hx2 q hqm)
          have y1 := hx1 k hkn
          have y2 := hx2 q hqm
          have c2 : (q : Int) < m := by omega
          have c3 : k + q < n + m + 1 := by omega
          have b2 := d2 q hqm
          have b3 := mul16 b1 b2
          have b4 := hS.dig (k + q) c3
          have ST := hS.step hkn hqm d1 d2 rfl
          have HST : Hid _ := ST
          clear ST hx1 hx2 ha1 ha2
          go_wp2
          go_region
          go_wp2
          go_roundw
          case rel => exact ⟨q + 1, _, _, _, by omega, by go_num, rfl, HST.out, rfl⟩
          case measure => simp [intOf]; omega
        · have hq' : q = m := by omega
          subst hq'
          have c3 : k + q < n + q + 1 := by omega
          have ST := hS.row hkn
          have HST : Hid _ := ST
          clear ST hx1 hx2
          go_wp2
          go_roundw
          case rel => exact ⟨k + 1, _, _, by omega, by go_num, HST.out, rfl⟩
          case measure => simp [intOf]; omega
    · have hk' : k = n := by omega
      subst hk'
      have D := hS.done
      have HD : Hid _ := D
      clear D
      have hcell : ∀ i, i < k + m + 1 → ((w.alloc (.cells (tab .i64 (k + m + 1) F) 3)).dr d).cell? ⟨w.heap.size, i, none⟩ = some (.int .i64 (F i)) := fun i hi => by simp [go_sem, hi]
      have HC : Hid _ := hcell
      clear hcell
      go_wp2_with (go_at_call 79; refine (trim_at _ _ _ _ F HC.out (by omega) (by omega)).mono ?_; rintro e w' ⟨j, hj, rfl, htr, hz, rfl⟩)
      go_ret
      refine ⟨_, rfl, ⟨j, F, NumAt.of_row (N := k + m + 1) (F := F) (by simp [go_sem]) (by omega) hj (fun _ _ => rfl), fun i hi => hS.dig i (by omega), htr, ?_⟩, below_dr ((Below.refl _ _).alloc (Nat.le_refl _) _) _⟩
      rw [← HD.out]
      obtain ⟨c, hc⟩ : ∃ c, k + m + 1 = j + c := ⟨k + m + 1 - j, by omega⟩
      rw [hc, dval_shift, dval_congr (n := c) (g := fun _ => 0) (fun i hi => hz _ (by omega) (by omega)), dval_zero]; omega
theorem rtimes_any {w : World} {v1 v2 : Value} {x y : Int} (h1 : IsNum w v1 x) (h2 : IsNum w v2 y) (hx : x < 65536 ^ 1000) (hy : y < 65536 ^ 1000) :
    Calls Tryz.prog 46 #[v1, v2] w fun e w' => ∃ v, e = .returned v ∧ IsNum w' v (x * y) ∧ Below w.heap.size w w' := by
  obtain ⟨n, f, a1, a2, a3, rfl⟩ := h1
  obtain ⟨m, g, b1, b2, b3, rfl⟩ := h2
  have := trim_len a2 a3 hx
  have := trim_len b2 b3 hy
  exact rtimes_at w v1 v2 n m f g a1 b1 a2 b2 (by omega) (by omega)
end Go.Proofs.YteghoooelgcpkaaGreatDoor
namespace Go.Proofs.YteghoooelgcpkaaGreatDoor
open Go.RowKit Go.Msg

set_option maxRecDepth 2000 in
set_option maxHeartbeats 4000000 in
theorem mod_any (w : World) (v : Value) (x : Int) (h : IsNum w v x) (hx : x < 65536 ^ 33) :
    Calls Tryz.prog 156 #[v] w fun e w' => ∃ v', e = .returned v' ∧ IsNum w' v' (x % P25519) ∧ Below w.heap.size w w' := by
  have HX : Hid (x < 65536 ^ 33) := hx
  clear hx
  go_enter Tryz.func156, Tryz.ntmps156
  go_wp2
  go_loopw [0, 3, 4, 5] (fun v' _ _ _ wr => ∃ y : Int, IsNum wr v' y ∧ y ≤ x ∧ Eqv y x ∧ Below w.heap.size w wr) (fun v' _ _ _ wr => nval wr v')
  case atStart => exact ⟨x, h, by omega, Eqv.refl _, Below.refl _ _⟩
  case round =>
    obtain ⟨y, hN, hyx, hE, hbel⟩ := hrel
    have hM := hN.nval
    have hy0 := hN.nonneg
    have hN0 := hN
    obtain ⟨n, a, ⟨ao, cap, g, rfl, hc1, ha1, hx1⟩, dg, tr, hv⟩ := hN
    have hn33 : n ≤ 33 := trim_len dg tr (by rw [hv]; have := HX.out; omega)
    have hbs := hbel.size
    by_cases hlt : 16 < n
    · have c1 : (16 : Int) < n := by omega
      have e1 := ha1 (by omega)
      subst e1
      have hcap : (16 : Int) ≤ cap := by omega
      have HM : Hid _ := hM
      have Hv : Hid _ := hv
      clear hM hv
      go_wp2_with (first | (refine wpl_make nums rfl _ _ rfl 18 18 18 rfl rfl rfl rfl (by omega) ?_) | (refine wpl_copy nums rfl _ _ rfl wr.heap.size 18 g 16 cap 18 (fun _ => 0) a rfl rfl ?_ (by omega) (by omega) ?_ ?_; (focus (simp [go_sem]; done)); (focus (intro i hi; rw [World.cell?_alloc_lt _ _ _ (World.block_lt_of_cell? wr _ (hx1 i (by omega)))]; exact hx1 i (by omega)))))
      have da : ∀ i, 0 ≤ ext0 n a i ∧ ext0 n a i < 65536 := ext0_bd dg
      have da16 : ∀ i, 0 ≤ ext0 16 a i ∧ ext0 16 a i < 65536 := ext0_bd (fun i hi => dg i (by omega))
      go_loopw [4, 5] (fun c i wq => ∃ (k : Nat) (y : Int) (F : Nat → Int), k ≤ 18 ∧ i = .int .i64 k ∧ c = .int .i64 y ∧ Folds n a k y F ∧ wq = wr.alloc (.cells (tab .i64 18 F) 3)) (fun _ i _ => 18 - (intOf i).toNat)
      case atStart => exact ⟨0, 0, splice (fun _ => 0) 0 16 a, by omega, rfl, rfl, ⟨by omega, fun i hi => by omega, fun i _ _ => by simp [splice, ext0], by simp [dval]⟩, by first | rfl | rw [World.setRow_alloc_at _ _ _ _ _ rfl]⟩
      case round =>
        obtain ⟨k, c, F, hk, rfl, rfl, hS, rfl⟩ := hrel
        have hc0 := hS.c0
        by_cases hk18 : k < 18
        · have c2 : (k : Int) < 18 := by omega
          have fk : 0 ≤ F k ∧ F k < 65536 := by rw [hS.rest k (by omega) hk18]; exact da16 k
          by_cases hh : 16 + k < n
          · have c3 : (16 : Int) + k < n := by omega
            have y1 := hx1 (16 + k) hh
            have l1 := World.block_lt_of_cell? wr _ y1
            have b1 := dg (16 + k) hh
            have ST := hS.step hk18 da da16 (s := c + F k + 38 * a (16 + k)) (by simp [ext0, hh])
            have HST : Hid _ := ST
            clear ST hx1 da da16 ha1
            go_wp2
            go_roundw
            case rel => exact ⟨k + 1, _, _, by omega, by go_num, rfl, HST.out, rfl⟩
            case measure => simp [intOf]; omega
          · have c3 : (n : Int) ≤ 16 + k := by omega
            have ST := hS.step hk18 da da16 (s := c + F k) (by simp [ext0, hh])
            have HST : Hid _ := ST
            clear ST hx1 da da16 ha1
            go_wp2
            go_roundw
            case rel => exact ⟨k + 1, _, _, by omega, by go_num, rfl, HST.out, rfl⟩
            case measure => simp [intOf]; omega
        · have hk' : k = 18 := by omega
          subst hk'
          have D := hS.done dg tr hlt hn33
          have HD : Hid _ := D
          clear D
          have hcell : ∀ i, i < 18 → (wr.alloc (.cells (tab .i64 18 F) 3)).cell? ⟨wr.heap.size, i, none⟩ = some (.int .i64 (F i)) := fun i hi => by simp [go_sem, hi]
          have HC : Hid _ := hcell
          clear hcell hx1 da da16 ha1
          go_wp2_with (go_at_call 79; refine (trim_at _ _ _ _ F HC.out (by omega) (by omega)).mono ?_; rintro e w' ⟨j, hj, rfl, htr, hz, rfl⟩)
          have hnum : IsNum (wr.alloc (.cells (tab .i64 18 F) 3)) (.slice (some ⟨wr.heap.size, 0, none⟩) j 18) (dval 18 F) := by
            refine ⟨j, F, NumAt.of_row (N := 18) (F := F) (by simp [go_sem]) (by omega) hj (fun _ _ => rfl), fun i hi => HD.out.1 i (by omega), htr, ?_⟩
            obtain ⟨c, hc⟩ : ∃ c, 18 = j + c := ⟨18 - j, by omega⟩
            rw [hc, dval_shift, dval_congr (n := c) (g := fun _ => 0) (fun i hi => hz _ (by omega) (by omega)), dval_zero]; omega
          go_roundw
          case rel => exact ⟨dval 18 F, hnum, by have := HD.out.2.2; rw [Hv.out] at this; omega, (HD.out.2.1.trans (Eqv.of_eq Hv.out)).trans hE, hbel.alloc hbs _⟩
          case measure =>
            rw [hnum.nval, HM.out]
            have := HD.out.2.2; rw [Hv.out] at this
            have := hnum.nonneg
            omega
    · have c1 : (n : Int) ≤ 16 := by omega
      have hy16 : y < 65536 ^ 16 := by rw [← hv]; have := (dval_bd dg).2; have := pow_mono (show n ≤ 16 by omega); omega
      have HY : Hid _ := hy16
      clear hy16 hM hv hx1 ha1
      go_wp2_with (go_at_call 176; refine (prime_any _).mono ?_; rintro e wp ⟨vp, rfl, hp, hbp⟩)
      have hN1 := hN0.below hbp
      have hbel1 := below_lift hbel hbs hbp
      have hbs1 := hbel1.size
      clear hN0 hbel hbs hbp
      go_loopw [0, 7] (fun v' _ wr => ∃ z : Int, IsNum wr v' z ∧ z ≤ y ∧ Eqv z x ∧ IsNum wr vp P25519 ∧ Below w.heap.size w wr) (fun v' _ wr => nval wr v')
      case atStart => exact ⟨y, hN1, by omega, hE, hp, hbel1⟩
      case round =>
        obtain ⟨z, hZ, hzy, hEz, hP, hbel⟩ := hrel
        have hz0 := hZ.nonneg
        have hM := hZ.nval
        have HM : Hid _ := hM
        clear hM
        have hbs := hbel.size
        have hz1000 : z < 65536 ^ 1000 := by have := HY.out; have := pow_mono (show 16 ≤ 1000 by omega); omega
        have HZ : Hid _ := hz1000
        have HP : Hid (P25519 < 65536 ^ 1000) := by show P25519 < 65536 ^ 1000; have := pow_mono (show 16 ≤ 1000 by omega); have : P25519 < 65536 ^ 16 := by decide
                                                    omega
        clear hz1000
        by_cases hlt2 : z < P25519
        · have hd : decide (z < P25519) = true := by simp [hlt2]
          go_wp2_with (go_at_call 47; refine (less_any hZ hP HZ.out HP.out).mono ?_; rintro e w2 ⟨rfl, hb2⟩; rw [hd])
          go_ret
          refine ⟨_, rfl, ?_, below_lift hbel hbs hb2⟩
          have : x % P25519 = z := by rw [← show z % P25519 = x % P25519 from hEz]; exact Int.emod_eq_of_lt hz0 hlt2
          rw [this]; exact hZ.below hb2
        · have hd : decide (z < P25519) = false := by simp; omega
          go_wp2_with (first | (go_at_call 47; refine (less_any hZ hP HZ.out HP.out).mono ?_; rintro e w2 ⟨rfl, hb2⟩; rw [hd]; have hZ2 := hZ.below hb2; have hP2 := hP.below hb2; have hbel2 := below_lift hbel hbs hb2; have hbs2 := hbel2.size) | (go_at_call 177; refine (rminus_any hZ2 hP2 (by omega) HZ.out).mono ?_; rintro e w3 ⟨v3, rfl, h3, hb3⟩))
          go_roundw
          case rel => exact ⟨z - P25519, h3, by have : (0 : Int) < P25519 := by decide
                                                omega, by
            have e : z - P25519 = z - 1 * P25519 := by omega
            rw [e]; exact (show Eqv _ _ from emod_sub_mul _ _ _).trans hEz, hP2.below hb3, below_lift hbel2 hbs2 hb3⟩
          case measure =>
            rw [h3.nval, HM.out]
            have : (0 : Int) < P25519 := by decide
            have := h3.nonneg
            omega
end Go.Proofs.YteghoooelgcpkaaGreatDoor
namespace Go.Proofs.YteghoooelgcpkaaGreatDoor
open Go.RowKit Go.Msg

def Res (w : World) (v : Value) (x : Int) : Prop := IsNum w v x ∧ x < P25519
theorem Res.below {w w' : World} {v : Value} {x : Int} (h : Res w v x) (hb : Below w.heap.size w w') : Res w' v x := ⟨h.1.below hb, h.2⟩
theorem Res.nonneg {w : World} {v : Value} {x : Int} (h : Res w v x) : 0 ≤ x := h.1.nonneg
theorem res_of {w : World} {v : Value} {x y : Int} (h : IsNum w v (x % P25519)) (e : Eqv x y) : Res w v (y % P25519) := by
  rw [show x % P25519 = y % P25519 from e] at h
  exact ⟨h, Int.emod_lt_of_pos _ (by decide)⟩
theorem p_lt (n : Nat) (hn : 16 ≤ n) : P25519 < 65536 ^ n := by
  have := pow_mono hn
  have : P25519 < 65536 ^ 16 := by decide
  omega
theorem p_sum {x y : Int} (hx : x < P25519) (hy : y < P25519) : x + y < 65536 ^ 33 := by
  have : P25519 + P25519 < 65536 ^ 33 := by decide
  omega
theorem p_prod {x y : Int} (hx : x < P25519) (hy0 : 0 ≤ y) (hy : y < P25519) : x * y < 65536 ^ 33 := by
  have : P25519 * P25519 < 65536 ^ 33 := by decide
  have := Int.mul_le_mul (Int.le_of_lt hx) (Int.le_of_lt hy) hy0 (by decide)
  omega
set_option maxHeartbeats 400000 in
theorem add_any {w : World} {v1 v2 : Value} {x y : Int} (h1 : Res w v1 x) (h2 : Res w v2 y) :
    Calls Tryz.prog 158 #[v1, v2] w fun e w' => ∃ v, e = .returned v ∧ Res w' v ((x + y) % P25519) ∧ Below w.heap.size w w' := by
  have q1 := p_lt 1000 (by omega)
  have H1 : Hid (x < 65536 ^ 1000) := Int.lt_trans h1.2 q1
  have H2 : Hid (y < 65536 ^ 1000) := Int.lt_trans h2.2 q1
  have H3 : Hid (x + y < 65536 ^ 33) := p_sum h1.2 h2.2
  clear q1
  go_enter Tryz.func158, Tryz.ntmps158
  go_wp2_with (first
    | (go_at_call 178; refine (rplus_any h1.1 h2.1 H1.out H2.out).mono ?_; rintro e wA ⟨vA, rfl, hA, hbA⟩)
    | (go_at_call 156; refine (mod_any _ _ _ hA H3.out).mono ?_; rintro e wB ⟨vB, rfl, hB, hbB⟩))
  go_ret
  exact ⟨_, rfl, res_of hB (Eqv.refl _), below_lift hbA hbA.size hbB⟩
set_option maxHeartbeats 400000 in
theorem mul_any {w : World} {v1 v2 : Value} {x y : Int} (h1 : Res w v1 x) (h2 : Res w v2 y) :
    Calls Tryz.prog 131 #[v1, v2] w fun e w' => ∃ v, e = .returned v ∧ Res w' v ((x * y) % P25519) ∧ Below w.heap.size w w' := by
  have q1 := p_lt 1000 (by omega)
  have H1 : Hid (x < 65536 ^ 1000) := Int.lt_trans h1.2 q1
  have H2 : Hid (y < 65536 ^ 1000) := Int.lt_trans h2.2 q1
  have H3 : Hid (x * y < 65536 ^ 33) := p_prod h1.2 h2.nonneg h2.2
  clear q1
  go_enter Tryz.func131, Tryz.ntmps131
  go_wp2_with (first
    | (go_at_call 46; refine (rtimes_any h1.1 h2.1 H1.out H2.out).mono ?_; rintro e wA ⟨vA, rfl, hA, hbA⟩)
    | (go_at_call 156; refine (mod_any _ _ _ hA H3.out).mono ?_; rintro e wB ⟨vB, rfl, hB, hbB⟩))
  go_ret
  exact ⟨_, rfl, res_of hB (Eqv.refl _), below_lift hbA hbA.size hbB⟩
set_option maxHeartbeats 400000 in
theorem sub_any {w : World} {v1 v2 : Value} {x y : Int} (h1 : Res w v1 x) (h2 : Res w v2 y) :
    Calls Tryz.prog 157 #[v1, v2] w fun e w' => ∃ v, e = .returned v ∧ Res w' v ((x - y) % P25519) ∧ Below w.heap.size w w' := by
  have q1 := p_lt 1000 (by omega)
  have x0 := h1.nonneg
  have y0 := h2.nonneg
  have xp := h1.2
  have yp := h2.2
  have q2 : P25519 + P25519 < 65536 ^ 33 := by decide
  have q3 := pow_mono (show 33 ≤ 1000 by omega)
  have H1 : Hid (x < 65536 ^ 1000) := Int.lt_trans h1.2 q1
  have HP : Hid (P25519 < 65536 ^ 1000) := q1
  have H3 : Hid (x + P25519 < 65536 ^ 1000) := by show _ < _; omega
  have H4 : Hid (y ≤ x + P25519) := by show _ ≤ _; omega
  have H5 : Hid (x + P25519 - y < 65536 ^ 33) := by show _ < _; omega
  clear q1 q2 q3 xp yp
  go_enter Tryz.func157, Tryz.ntmps157
  go_wp2_with (first
    | (go_at_call 176; refine (prime_any _).mono ?_; rintro e wp ⟨vp, rfl, hp, hbp⟩; have h1p := h1.below hbp; have h2p := h2.below hbp)
    | (go_at_call 178; refine (rplus_any h1p.1 hp H1.out HP.out).mono ?_; rintro e wA ⟨vA, rfl, hA, hbA⟩; have h2A := h2p.below hbA)
    | (go_at_call 177; refine (rminus_any hA h2A.1 H4.out H3.out).mono ?_; rintro e wB ⟨vB, rfl, hB, hbB⟩)
    | (go_at_call 156; refine (mod_any _ _ _ hB H5.out).mono ?_; rintro e wC ⟨vC, rfl, hC, hbC⟩))
  go_ret
  have b1 := below_lift hbp hbp.size hbA
  have b2 := below_lift b1 b1.size hbB
  refine ⟨_, rfl, res_of hC ?_, below_lift b2 b2.size hbC⟩
  have e : x + P25519 - y = (x - y) - (-1) * P25519 := by omega
  rw [e]; exact emod_sub_mul _ _ _
end Go.Proofs.YteghoooelgcpkaaGreatDoor
namespace Go.Proofs.YteghoooelgcpkaaGreatDoor
open Go.RowKit Go.Msg

theorem one_num (w : World) (g : Nat) (hr : w.rowOf g = tab .i64 1 (fun _ => 1)) : IsNum w (.slice (some ⟨g, 0, none⟩) 1 1) 1 :=
  ⟨1, fun _ => 1, NumAt.of_row hr (by omega) (by omega) (fun _ _ => rfl), fun _ _ => by simp, fun _ => by decide, by decide⟩
theorem E2_int : P25519 - 2 = (E2 : Int) := by decide +kernel
theorem e2_len {n : Nat} {f : Nat → Int} (dg : Dig n f) (tr : Trim n f) (hv : dval n f = P25519 - 2) : n = 16 := by
  have l1 := trim_len (N := 16) dg tr (by rw [hv]; decide)
  have l2 : ¬ n ≤ 15 := fun hc => by
    have := (dval_bd dg).2
    have := pow_mono hc
    rw [hv] at *
    have : ¬ P25519 - 2 < 65536 ^ 15 := by decide
    omega
  omega
theorem arr_one : #[Value.int IntKind.i64 1] = tab .i64 1 (fun _ => 1) := by rw [tab_eq]; rfl
set_option maxHeartbeats 4000000 in
theorem power_any {w : World} {v : Value} {x : Int} (h : Res w v x) :
    Calls Tryz.prog 159 #[v, .int .i64 2, .int .i64 1] w fun e w' => ∃ v', e = .returned v' ∧ Res w' v' (x ^ E2 % P25519) ∧ Below w.heap.size w w' := by
  have q1 := p_lt 1000 (by omega)
  have HP : Hid (P25519 < 65536 ^ 1000) := q1
  have HP2 : Hid ((2 : Int) ≤ P25519) := by show _ ≤ _; decide
  clear q1
  go_enter Tryz.func159, Tryz.ntmps159
  go_wp2_with (first
    | (go_at_call 176; refine (prime_any _).mono ?_; rintro e wp ⟨vp, rfl, hp, hbp⟩; have h1 := h.below hbp; have s1 := hbp.size)
    | (go_at_call 45; refine (int_any 2 (by omega) (by omega) _).mono ?_; rintro e wq ⟨vq, rfl, hq, hbq⟩; have hp1 := hp.below hbq; have h2 := h1.below hbq; have b2 := below_lift hbp s1 hbq; have s2 := b2.size)
    | (go_at_call 177; refine (rminus_any hp1 hq HP2.out HP.out).mono ?_; rintro e wd ⟨vr, rfl, hr, hbr⟩; have h3 := h2.below hbr; have b3 := below_lift b2 s2 hbr; have s3 := b3.size; obtain ⟨n, f, ⟨ao, cap, g, rfl, hc1, ha1, hx1⟩, dg, tr, hv⟩ := hr; obtain rfl := e2_len dg tr hv; obtain rfl := ha1 (by omega))
    | (refine wpl_make nums rfl _ _ rfl 16 16 16 rfl rfl rfl rfl (by omega) ?_))
  clear h h1 h2 hp hp1 hq hbp hbq hbr b2 s1 s2
  go_loopw [10, 12] (fun r i wq => ∃ (k : Nat) (F : Nat → Int), k ≤ 16 ∧ r = .int .i64 0 ∧ i = .int .i64 ((k : Int) - 1) ∧ (∀ j, k ≤ j → j < 16 → F j = f j) ∧ wq = wd.alloc (.cells (tab .i64 16 F) 3)) (fun _ i _ => (intOf i + 1).toNat)
  case atStart => exact ⟨16, _, by omega, rfl, by simp, fun j h1 h2 => by omega, rfl⟩
  case round =>
    obtain ⟨k, F, hk, rfl, rfl, hF, rfl⟩ := hrel
    by_cases hlt : 1 ≤ k
    · obtain ⟨j, rfl⟩ : ∃ j, k = j + 1 := ⟨k - 1, by omega⟩
      have cj : ((j + 1 : Nat) : Int) - 1 = j := by omega
      rw [cj]
      have c1 : (0:Int) ≤ j := by omega
      have c2 : (j:Int) < 16 := by omega
      have c3 : j < 16 := by omega
      have y1 := hx1 j c3
      have l1 := World.block_lt_of_cell? wd _ y1
      have b1 := dg j c3
      clear hx1 ha1 cj
      go_wp2
      go_roundw
      case rel => exact ⟨j, upd F j (f j), by omega, rfl, by go_num, fun i h1 h2 => by
        by_cases e : i = j
        · subst e; simp [upd]
        · simp [upd, e]; exact hF i (by omega) h2, by simp⟩
      case measure => simp [intOf]
    · have hk0 : k = 0 := by omega
      subst hk0
      have HT : tab .i64 16 F = tab .i64 16 f := tab_congr fun i hi => hF i (by omega) hi
      rw [HT, show ((0 : Nat) : Int) - 1 = -1 from rfl]
      clear HT hF hx1 ha1 F
      go_wp2
      rw [arr_one]
      have hr0 : ((wd.alloc (.cells (tab .i64 16 f) 3)).alloc (.cells (tab .i64 1 (fun _ => 1)) 3)).rowOf (wd.heap.size + 1) = tab .i64 1 (fun _ => 1) := by simp [go_sem]
      have hrq : ((wd.alloc (.cells (tab .i64 16 f) 3)).alloc (.cells (tab .i64 1 (fun _ => 1)) 3)).rowOf wd.heap.size = tab .i64 16 f := by simp [go_sem]
      have hb4 : Below wd.heap.size wd ((wd.alloc (.cells (tab .i64 16 f) 3)).alloc (.cells (tab .i64 1 (fun _ => 1)) 3)) := ((Below.refl _ _).alloc (Nat.le_refl _) _).alloc (by simp) _
      have hone := one_num _ _ hr0
      generalize (wd.alloc (.cells (tab .i64 16 f) 3)).alloc (.cells (tab .i64 1 (fun _ => 1)) 3) = W4 at *
      have h4 := h3.below hb4
      have b4 := below_lift b3 s3 hb4
      clear h3 b3 hb4 hr0
      have fb : ∀ j, j < 256 → f (j / 16) / 2 ^ (j % 16) % 2 = ((E2 / 2 ^ j % 2 : Nat) : Int) := fun j hj => by
        rw [digit_of dg (j / 16) (by omega), hv, E2_int, bit_digit E2 (j / 16) (j % 16) (by omega), show 16 * (j / 16) + j % 16 = j by omega]
      have fd : ∀ j, j < 256 → 0 ≤ f (j / 16) ∧ f (j / 16) < 65536 := fun j hj => dg (j / 16) (by omega)
      have HFB : Hid _ := fb
      have HFD : Hid _ := fd
      clear fb fd hv dg tr HP HP2
      go_loopw [13, 14] (fun v' i wq => ∃ (k : Nat) (y : Int), k ≤ 256 ∧ i = .int .i64 ((k : Int) - 1) ∧ Res wq v' y ∧ Eqv y (x ^ (E2 / 2 ^ k)) ∧ wq.rowOf wd.heap.size = tab .i64 16 f ∧ Res wq v x ∧ Below w.heap.size w wq) (fun _ i _ => (intOf i + 1).toNat)
      case atStart => exact ⟨256, 1, by omega, by simp, ⟨hone, by decide⟩, by rw [show E2 / 2 ^ 256 = 0 by decide +kernel, Int.pow_zero]; exact Eqv.refl _, hrq, h4, b4⟩
      case round =>
        clear h4 b4 hone hrq
        obtain ⟨k, y, hk, rfl, hy, hE, hq, hxr, hbel⟩ := hrel
        have hbs := hbel.size
        by_cases hlt : 1 ≤ k
        · obtain ⟨j, rfl⟩ : ∃ j, k = j + 1 := ⟨k - 1, by omega⟩
          have cj : ((j + 1 : Nat) : Int) - 1 = j := by omega
          rw [cj]
          have c1 : (0:Int) ≤ j := by omega
          have c2 : (j:Int) / 16 < 16 := by omega
          have c3 : j / 16 < 16 := by omega
          have fd := HFD.out j (by omega)
          have HH : Hid _ := half_pow E2 (j + 1) (by omega)
          have HE : Hid _ := hE
          clear hE cj
          by_cases hb : E2 / 2 ^ j % 2 = 1
          · have hbit : ((f (j / 16) / 2 ^ (j % 16)).tmod 2 == 1) = true := by rw [Int.tmod_eq_emod_of_nonneg (Int.ediv_nonneg fd.1 (Int.le_of_lt (Int.pow_pos (by decide)))), HFB.out j (by omega), hb]; rfl
            have HB : Hid _ := hb
            clear hb
            have M := mul_any hy hy
            go_wp2_with (first
              | (go_at_call 131; refine M.mono ?_; clear M; rintro e w2 ⟨v2, rfl, h2, hb2⟩; have hq2 : w2.rowOf wd.heap.size = tab .i64 16 f := (by rw [below_row hb2 (by rw [hq, tab_size]; omega), hq]); have y1 : w2.cell? ⟨wd.heap.size, j / 16, none⟩ = some (.int .i64 (f (j / 16))) := (by rw [(cell_of_rowOf hq2 (j / 16) (by rw [tab_size]; exact c3)).1, tab_get _ _ _ _ c3]); have hx2 := hxr.below hb2; have b2 := below_lift hbel hbs hb2; have s2 := b2.size)
              | (go_at_call 131; have M2 := mul_any h2 hx2; refine M2.mono ?_; clear M2; rintro e w3 ⟨v3, rfl, h3, hb3⟩; have hq3 : w3.rowOf wd.heap.size = tab .i64 16 f := (by rw [below_row hb3 (by rw [hq2, tab_size]; omega), hq2])))
            go_roundw
            case rel =>
              refine ⟨j, _, by omega, by go_num, h3, ?_, hq3, hx2.below hb3, below_lift b2 s2 hb3⟩
              have e1 : Eqv (y * y % P25519 * x % P25519) (y * y * x) := (Eqv.mod _).trans ((Eqv.mod _).mul (Eqv.refl _))
              have he : Eqv y (x ^ (E2 / 2 ^ (j + 1))) := HE.out
              refine e1.trans (((he.mul he).mul (Eqv.refl x)).trans (Eqv.of_eq ?_))
              have hh := HH.out
              simp only [Nat.add_sub_cancel] at hh
              rw [hh, HB.out, Int.pow_succ, ← Int.pow_add]; congr 2; omega
            case measure => simp [intOf]
          · have hb0 : E2 / 2 ^ j % 2 = 0 := by omega
            have hbit : ((f (j / 16) / 2 ^ (j % 16)).tmod 2 == 1) = false := by rw [Int.tmod_eq_emod_of_nonneg (Int.ediv_nonneg fd.1 (Int.le_of_lt (Int.pow_pos (by decide)))), HFB.out j (by omega), hb0]; rfl
            have HB : Hid _ := hb0
            clear hb hb0
            have M := mul_any hy hy
            go_wp2_with (first
              | (go_at_call 131; refine M.mono ?_; clear M; rintro e w2 ⟨v2, rfl, h2, hb2⟩; have hq2 : w2.rowOf wd.heap.size = tab .i64 16 f := (by rw [below_row hb2 (by rw [hq, tab_size]; omega), hq]); have y1 : w2.cell? ⟨wd.heap.size, j / 16, none⟩ = some (.int .i64 (f (j / 16))) := (by rw [(cell_of_rowOf hq2 (j / 16) (by rw [tab_size]; exact c3)).1, tab_get _ _ _ _ c3]); have hx2 := hxr.below hb2; have b2 := below_lift hbel hbs hb2; have s2 := b2.size))
            go_roundw
            case rel =>
              refine ⟨j, _, by omega, by go_num, h2, ?_, hq2, hx2, b2⟩
              have he : Eqv y (x ^ (E2 / 2 ^ (j + 1))) := HE.out
              refine (Eqv.mod _).trans ((he.mul he).trans (Eqv.of_eq ?_))
              have hh := HH.out
              simp only [Nat.add_sub_cancel] at hh
              rw [hh, HB.out, ← Int.pow_add]; congr 1; omega
            case measure => simp [intOf]
        · have hk0 : k = 0 := by omega
          subst hk0
          have HE : Hid _ := hE
          clear hE
          go_wp2
          go_ret
          refine ⟨_, rfl, ?_, hbel⟩
          have e := HE.out
          rw [E2_low] at e
          have e2 : x ^ E2 % P25519 = y := by rw [← show y % P25519 = x ^ E2 % P25519 from e]; exact Int.emod_eq_of_lt hy.nonneg hy.2
          rw [e2]; exact hy

set_option maxHeartbeats 400000 in
theorem rinverse_any {w : World} {v : Value} {x : Int} (h : Res w v x) :
    Calls Tryz.prog 130 #[v] w fun e w' => ∃ v', e = .returned v' ∧ Res w' v' (x ^ E2 % P25519) ∧ Below w.heap.size w w' := by
  go_enter Tryz.func130, Tryz.ntmps130
  go_wp2_with (go_at_call 159; refine (power_any h).mono ?_; rintro e w2 ⟨v2, rfl, h2, hb2⟩)
  go_ret
  exact ⟨_, rfl, h2, hb2⟩
end Go.Proofs.YteghoooelgcpkaaGreatDoor
namespace Go.Proofs.YteghoooelgcpkaaGreatDoor
open Go.RowKit Go.Msg

theorem res_eq {w : World} {v : Value} {x y : Int} (h : Res w v (x % P25519)) (e : Eqv x y) : Res w v (y % P25519) := by
  rw [show x % P25519 = y % P25519 from e] at h; exact h
theorem arr_four : #[Value.int IntKind.i64 4] = tab .i64 1 (fun _ => 4) := by rw [tab_eq]; rfl
theorem by_alloc (w : World) (o : Obj) : Below w.heap.size w (w.alloc o) := (Below.refl _ _).alloc (Nat.le_refl _) _
theorem four_num (w : World) (t : Nat) : Res (w.alloc (.cells (tab .i64 1 (fun _ => 4)) t)) (.slice (some ⟨w.heap.size, 0, none⟩) 1 1) 4 :=
  ⟨⟨1, fun _ => 4, NumAt.of_row (N := 1) (F := fun _ => 4) (by simp [go_sem]) (by omega) (by omega) (fun _ _ => rfl), fun _ _ => by simp, fun _ => by decide, by decide⟩, by decide⟩
set_option maxHeartbeats 2000000 in
theorem between_any {w : World} {vu : Value} {u : Int} (hu : Res w vu u) {vx : Value} {x : Int} (hx : Res w vx x) {vz : Value} {z : Int} (hz : Res w vz z) {vp : Value} {p : Int} (hp : Res w vp p) {vq : Value} {q : Int} (hq : Res w vq q) :
    Calls Tryz.prog 128 #[vu, vx, vz, vp, vq] w fun e w' => ∃ v v', e = .returned (.tuple #[v, v']) ∧ Res w' v (bt1 x z p q % P25519) ∧ Res w' v' (bt2 u x z p q % P25519) ∧ Below w.heap.size w w' := by
  have B0 := Below.refl w.heap.size w
  have s0 : w.heap.size ≤ w.heap.size := Nat.le_refl _
  go_enter Tryz.func128, Tryz.ntmps128
  go_wp2_with (first
    | (go_at_call 131; have M := mul_any hx hp; with_reducible refine M.mono ?_; clear M; rintro e W1 ⟨va, rfl, ha, hZ⟩; replace hu := hu.below hZ; replace hx := hx.below hZ; replace hz := hz.below hZ; replace hp := hp.below hZ; replace hq := hq.below hZ; replace B0 := below_lift B0 s0 hZ; replace s0 := B0.size; clear hZ)
    | (go_at_call 131; have M := mul_any hz hq; with_reducible refine M.mono ?_; clear M; rintro e W2 ⟨vb, rfl, hb, hZ⟩; replace hu := hu.below hZ; replace hx := hx.below hZ; replace hz := hz.below hZ; replace hp := hp.below hZ; replace hq := hq.below hZ; replace ha := ha.below hZ; replace B0 := below_lift B0 s0 hZ; replace s0 := B0.size; clear hZ)
    | (go_at_call 157; have M := sub_any ha hb; with_reducible refine M.mono ?_; clear M; rintro e W3 ⟨va2, rfl, ha2, hZ⟩; replace hu := hu.below hZ; replace hx := hx.below hZ; replace hz := hz.below hZ; replace hp := hp.below hZ; replace hq := hq.below hZ; replace ha := ha.below hZ; replace hb := hb.below hZ; replace B0 := below_lift B0 s0 hZ; replace s0 := B0.size; clear hZ)
    | (go_at_call 131; have M := mul_any ha2 ha2; with_reducible refine M.mono ?_; clear M; rintro e W4 ⟨va3, rfl, ha3, hZ⟩; replace hu := hu.below hZ; replace hx := hx.below hZ; replace hz := hz.below hZ; replace hp := hp.below hZ; replace hq := hq.below hZ; replace ha := ha.below hZ; replace hb := hb.below hZ; replace ha2 := ha2.below hZ; replace B0 := below_lift B0 s0 hZ; replace s0 := B0.size; clear hZ)
    | (go_at_call 131; have M := mul_any hx hq; with_reducible refine M.mono ?_; clear M; rintro e W5 ⟨vc, rfl, hc, hZ⟩; replace hu := hu.below hZ; replace hx := hx.below hZ; replace hz := hz.below hZ; replace hp := hp.below hZ; replace hq := hq.below hZ; replace ha := ha.below hZ; replace hb := hb.below hZ; replace ha2 := ha2.below hZ; replace ha3 := ha3.below hZ; replace B0 := below_lift B0 s0 hZ; replace s0 := B0.size; clear hZ)
    | (go_at_call 131; have M := mul_any hz hp; with_reducible refine M.mono ?_; clear M; rintro e W6 ⟨vd, rfl, hd, hZ⟩; replace hu := hu.below hZ; replace hx := hx.below hZ; replace hz := hz.below hZ; replace hp := hp.below hZ; replace hq := hq.below hZ; replace ha := ha.below hZ; replace hb := hb.below hZ; replace ha2 := ha2.below hZ; replace ha3 := ha3.below hZ; replace hc := hc.below hZ; replace B0 := below_lift B0 s0 hZ; replace s0 := B0.size; clear hZ)
    | (go_at_call 157; have M := sub_any hc hd; with_reducible refine M.mono ?_; clear M; rintro e W7 ⟨vc2, rfl, hc2, hZ⟩; replace hu := hu.below hZ; replace hx := hx.below hZ; replace hz := hz.below hZ; replace hp := hp.below hZ; replace hq := hq.below hZ; replace ha := ha.below hZ; replace hb := hb.below hZ; replace ha2 := ha2.below hZ; replace ha3 := ha3.below hZ; replace hc := hc.below hZ; replace hd := hd.below hZ; replace B0 := below_lift B0 s0 hZ; replace s0 := B0.size; clear hZ)
    | (go_at_call 131; have M := mul_any hc2 hc2; with_reducible refine M.mono ?_; clear M; rintro e W8 ⟨vc3, rfl, hc3, hZ⟩; replace hu := hu.below hZ; replace hx := hx.below hZ; replace hz := hz.below hZ; replace hp := hp.below hZ; replace hq := hq.below hZ; replace ha := ha.below hZ; replace hb := hb.below hZ; replace ha2 := ha2.below hZ; replace ha3 := ha3.below hZ; replace hc := hc.below hZ; replace hd := hd.below hZ; replace hc2 := hc2.below hZ; replace B0 := below_lift B0 s0 hZ; replace s0 := B0.size; clear hZ)
    | (go_at_call 131; have M := mul_any hc3 hu; with_reducible refine M.mono ?_; clear M; rintro e W9 ⟨vc4, rfl, hc4, hZ⟩; replace hu := hu.below hZ; replace hx := hx.below hZ; replace hz := hz.below hZ; replace hp := hp.below hZ; replace hq := hq.below hZ; replace ha := ha.below hZ; replace hb := hb.below hZ; replace ha2 := ha2.below hZ; replace ha3 := ha3.below hZ; replace hc := hc.below hZ; replace hd := hd.below hZ; replace hc2 := hc2.below hZ; replace hc3 := hc3.below hZ; replace B0 := below_lift B0 s0 hZ; replace s0 := B0.size; clear hZ))
  go_ret2
  have e1 : Eqv ((x * p % P25519 - z * q % P25519) % P25519) (x * p - z * q) := (Eqv.mod _).trans ((Eqv.mod _).sub (Eqv.mod _))
  have e2 : Eqv ((x * q % P25519 - z * p % P25519) % P25519) (x * q - z * p) := (Eqv.mod _).trans ((Eqv.mod _).sub (Eqv.mod _))
  have f1 := e1.mul e1
  have f2 := (((Eqv.mod _).trans (e2.mul e2)).mul (Eqv.refl u)).trans (Eqv.of_eq (Int.mul_comm _ _))
  exact ⟨_, _, rfl, res_eq ha3 f1, res_eq hc4 f2, B0⟩
set_option maxHeartbeats 2000000 in
theorem twice_any {w : World} {vx : Value} {x : Int} (hx : Res w vx x) {vz : Value} {z : Int} (hz : Res w vz z) :
    Calls Tryz.prog 129 #[vx, vz] w fun e w' => ∃ v v', e = .returned (.tuple #[v, v']) ∧ Res w' v (tw1 x z % P25519) ∧ Res w' v' (tw2 x z % P25519) ∧ Below w.heap.size w w' := by
  have B0 := Below.refl w.heap.size w
  have s0 : w.heap.size ≤ w.heap.size := Nat.le_refl _
  go_enter Tryz.func129, Tryz.ntmps129
  go_wp2_with (first
    | (go_at_call 131; have M := mul_any hx hx; with_reducible refine M.mono ?_; clear M; rintro e W1 ⟨va, rfl, ha, hZ⟩; replace hx := hx.below hZ; replace hz := hz.below hZ; replace B0 := below_lift B0 s0 hZ; replace s0 := B0.size; clear hZ)
    | (go_at_call 131; have M := mul_any hz hz; with_reducible refine M.mono ?_; clear M; rintro e W2 ⟨vb, rfl, hb, hZ⟩; replace hx := hx.below hZ; replace hz := hz.below hZ; replace ha := ha.below hZ; replace B0 := below_lift B0 s0 hZ; replace s0 := B0.size; clear hZ)
    | (go_at_call 131; have M := mul_any hx hz; with_reducible refine M.mono ?_; clear M; rintro e W3 ⟨vc, rfl, hc, hZ⟩; replace hx := hx.below hZ; replace hz := hz.below hZ; replace ha := ha.below hZ; replace hb := hb.below hZ; replace B0 := below_lift B0 s0 hZ; replace s0 := B0.size; clear hZ)
    | (go_at_call 157; have M := sub_any ha hb; with_reducible refine M.mono ?_; clear M; rintro e W4 ⟨vd, rfl, hd, hZ⟩; replace hx := hx.below hZ; replace hz := hz.below hZ; replace ha := ha.below hZ; replace hb := hb.below hZ; replace hc := hc.below hZ; replace B0 := below_lift B0 s0 hZ; replace s0 := B0.size; clear hZ)
    | (go_at_call 131; have M := mul_any hd hd; with_reducible refine M.mono ?_; clear M; rintro e W5 ⟨vd2, rfl, hd2, hZ⟩; replace hx := hx.below hZ; replace hz := hz.below hZ; replace ha := ha.below hZ; replace hb := hb.below hZ; replace hc := hc.below hZ; replace hd := hd.below hZ; replace B0 := below_lift B0 s0 hZ; replace s0 := B0.size; clear hZ)
    | (go_at_call 45; refine (int_any 486662 (by omega) (by omega) _).mono ?_; rintro e W6 ⟨vk, rfl, hi, hZ⟩; have hk : Res W6 vk 486662 := ⟨hi, by decide⟩; replace hx := hx.below hZ; replace hz := hz.below hZ; replace ha := ha.below hZ; replace hb := hb.below hZ; replace hc := hc.below hZ; replace hd := hd.below hZ; replace hd2 := hd2.below hZ; replace B0 := below_lift B0 s0 hZ; replace s0 := B0.size; clear hZ)
    | (go_at_call 131; have M := mul_any hc hk; with_reducible refine M.mono ?_; clear M; rintro e W7 ⟨vb1, rfl, hb1, hZ⟩; replace hx := hx.below hZ; replace hz := hz.below hZ; replace ha := ha.below hZ; replace hb := hb.below hZ; replace hc := hc.below hZ; replace hd := hd.below hZ; replace hd2 := hd2.below hZ; replace hk := hk.below hZ; replace B0 := below_lift B0 s0 hZ; replace s0 := B0.size; clear hZ)
    | (go_at_call 158; have M := add_any hb1 ha; with_reducible refine M.mono ?_; clear M; rintro e W8 ⟨vb2, rfl, hb2, hZ⟩; replace hx := hx.below hZ; replace hz := hz.below hZ; replace ha := ha.below hZ; replace hb := hb.below hZ; replace hc := hc.below hZ; replace hd := hd.below hZ; replace hd2 := hd2.below hZ; replace hk := hk.below hZ; replace hb1 := hb1.below hZ; replace B0 := below_lift B0 s0 hZ; replace s0 := B0.size; clear hZ)
    | (go_at_call 158; have M := add_any hb2 hb; with_reducible refine M.mono ?_; clear M; rintro e W9 ⟨vb3, rfl, hb3, hZ⟩; replace hx := hx.below hZ; replace hz := hz.below hZ; replace ha := ha.below hZ; replace hb := hb.below hZ; replace hc := hc.below hZ; replace hd := hd.below hZ; replace hd2 := hd2.below hZ; replace hk := hk.below hZ; replace hb1 := hb1.below hZ; replace hb2 := hb2.below hZ; replace B0 := below_lift B0 s0 hZ; replace s0 := B0.size; clear hZ)
    | (go_at_call 131; have M := mul_any hb3 hc; with_reducible refine M.mono ?_; clear M; rintro e W10 ⟨vb4, rfl, hb4, hZ⟩; replace hx := hx.below hZ; replace hz := hz.below hZ; replace ha := ha.below hZ; replace hb := hb.below hZ; replace hc := hc.below hZ; replace hd := hd.below hZ; replace hd2 := hd2.below hZ; replace hk := hk.below hZ; replace hb1 := hb1.below hZ; replace hb2 := hb2.below hZ; replace hb3 := hb3.below hZ; replace B0 := below_lift B0 s0 hZ; replace s0 := B0.size; clear hZ)
    | (go_at_call 131; rw [arr_four]; have M := mul_any (hb4.below (by_alloc W10 (.cells (tab .i64 1 (fun _ => 4)) 3))) (four_num W10 _); with_reducible refine M.mono ?_; clear M; rintro e W11 ⟨vb5, rfl, hb5, hc⟩; have hZ := below_lift (by_alloc W10 (.cells (tab .i64 1 (fun _ => 4)) 3)) (by simp) hc; clear hc; replace hx := hx.below hZ; replace hz := hz.below hZ; replace ha := ha.below hZ; replace hb := hb.below hZ; replace hc := hc.below hZ; replace hd := hd.below hZ; replace hd2 := hd2.below hZ; replace hk := hk.below hZ; replace hb1 := hb1.below hZ; replace hb2 := hb2.below hZ; replace hb3 := hb3.below hZ; replace hb4 := hb4.below hZ; replace B0 := below_lift B0 s0 hZ; replace s0 := B0.size; clear hZ))
  go_ret2
  have ea : Eqv (x * x % P25519) (x * x) := Eqv.mod _
  have eb : Eqv (z * z % P25519) (z * z) := Eqv.mod _
  have ec : Eqv (x * z % P25519) (x * z) := Eqv.mod _
  have ed := (Eqv.mod _).trans (ea.sub eb)
  have e1 := (Eqv.mod _).trans (ec.mul (Eqv.refl 486662))
  have e2 := (Eqv.mod _).trans (e1.add ea)
  have e3 := (Eqv.mod _).trans (e2.add eb)
  have e4 := (Eqv.mod _).trans (e3.mul ec)
  have f1 := ed.mul ed
  have f2 := (e4.mul (Eqv.refl 4)).trans (Eqv.of_eq (show _ = tw2 x z by unfold tw2; grind))
  exact ⟨_, _, rfl, res_eq hd2 f1, res_eq hb5 f2, B0⟩
end Go.Proofs.YteghoooelgcpkaaGreatDoor
