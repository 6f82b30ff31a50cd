/- The walks of the document's own answer: numbers: times. -/
import Derived.Test.YtogkchcclcbobaaRf2
namespace Go.Proofs.Ytogkchcclcbobaa
open Go.RowKit Go.Msg

set_option maxHeartbeats 2000000 in
theorem rtimes_at (w : World) (v1 v2 : Value) (n m : Nat) (a b : Nat → Int) (h1 : NumAt w v1 n a) (h2 : NumAt w v2 m b) (d1 : Dig n a) (d2 : Dig m b) (hn : n ≤ 100000) (hm : m ≤ 100000) :
    Calls Try.prog 23 #[v1, v2] w fun e w' => ∃ v, e = .returned v ∧ IsNum w' v (dval n a * dval m b) ∧ Below w.heap.size w w' := by
  obtain ⟨ao1, cap1, g1, rfl, hc1, ha1, hx1⟩ := h1
  obtain ⟨ao2, cap2, g2, rfl, hc2, ha2, hx2⟩ := h2
  go_enter Try.func23, Try.ntmps23
  go_wp2_with (refine wpl_make nums rfl _ _ rfl (n + m + 1) _ _ rfl rfl (by omega) (by omega) (by omega) ?_)
  go_loopw [6, 7, 8] (fun i _ _ wr => ∃ (k d : Nat) (F : Nat → Int), k ≤ n ∧ i = .int .i64 k ∧ Muls n m a b k 0 0 F ∧ wr = (w.alloc (.cells (tab .i64 (n + m + 1) F) 3)).dr d) (fun i _ _ _ => n - (intOf i).toNat)
  case atStart => exact ⟨0, _, _, by omega, rfl, Muls.start n m a b, (World.dr_self _).symm⟩
  case round =>
    obtain ⟨k, d, F, hk, rfl, hS, rfl⟩ := hrel
    by_cases hkn : k < n
    · have e1 := ha1 (by omega)
      subst e1
      have c1 : (k : Int) < n := by omega
      have b1 := d1 k hkn
      go_wp2
      go_loopw [7, 8] (fun c j wr => ∃ (q d : Nat) (y : Int) (F : Nat → Int), q ≤ m ∧ j = .int .i64 q ∧ c = .int .i64 y ∧ Muls n m a b k q y F ∧ wr = (w.alloc (.cells (tab .i64 (n + m + 1) F) 3)).dr d) (fun _ j _ => m - (intOf j).toNat)
      case atStart => exact ⟨0, _, 0, _, by omega, rfl, rfl, hS, rfl⟩
      case round =>
        clear hS
        obtain ⟨q, d, y, F, hq, rfl, rfl, hS, rfl⟩ := hrel
        have hc := hS.c0
        by_cases hqm : q < m
        · have e2 := ha2 (by omega)
          subst e2
          have l1 := World.block_lt_of_cell? w _ (hx1 k hkn)
          have l2 := World.block_lt_of_cell? w _ (hx2 q hqm)
          have y1 := hx1 k hkn
          have y2 := hx2 q hqm
          have c2 : (q : Int) < m := by omega
          have c3 : k + q < n + m + 1 := by omega
          have b2 := d2 q hqm
          have b3 := mul16 b1 b2
          have b4 := hS.dig (k + q) c3
          have ST := hS.step hkn hqm d1 d2 rfl
          have HST : Hid _ := ST
          clear ST hx1 hx2 ha1 ha2
          go_wp2
          go_region
          go_wp2
          go_roundw
          case rel => exact ⟨q + 1, _, _, _, by omega, by go_num, rfl, HST.out, rfl⟩
          case measure => simp [intOf]; omega
        · have hq' : q = m := by omega
          subst hq'
          have c3 : k + q < n + q + 1 := by omega
          have ST := hS.row hkn
          have HST : Hid _ := ST
          clear ST hx1 hx2
          go_wp2
          go_roundw
          case rel => exact ⟨k + 1, _, _, by omega, by go_num, HST.out, rfl⟩
          case measure => simp [intOf]; omega
    · have hk' : k = n := by omega
      subst hk'
      have D := hS.done
      have HD : Hid _ := D
      clear D
      have hcell : ∀ i, i < k + m + 1 → ((w.alloc (.cells (tab .i64 (k + m + 1) F) 3)).dr d).cell? ⟨w.heap.size, i, none⟩ = some (.int .i64 (F i)) := fun i hi => by simp [go_sem, hi]
      have HC : Hid _ := hcell
      clear hcell
      go_wp2_with (go_at_call 41; refine (trim_at _ _ _ _ F HC.out (by omega) (by omega)).mono ?_; rintro e w' ⟨j, hj, rfl, htr, hz, rfl⟩)
      go_ret
      refine ⟨_, rfl, ⟨j, F, NumAt.of_row (N := k + m + 1) (F := F) (by simp [go_sem]) (by omega) hj (fun _ _ => rfl), fun i hi => hS.dig i (by omega), htr, ?_⟩, below_dr ((Below.refl _ _).alloc (Nat.le_refl _) _) _⟩
      rw [← HD.out]
      obtain ⟨c, hc⟩ : ∃ c, k + m + 1 = j + c := ⟨k + m + 1 - j, by omega⟩
      rw [hc, dval_shift, dval_congr (n := c) (g := fun _ => 0) (fun i hi => hz _ (by omega) (by omega)), dval_zero]; omega
theorem rtimes_any {w : World} {v1 v2 : Value} {x y : Int} (h1 : IsNum w v1 x) (h2 : IsNum w v2 y) (hx : x < 65536 ^ 1000) (hy : y < 65536 ^ 1000) :
    Calls Try.prog 23 #[v1, v2] w fun e w' => ∃ v, e = .returned v ∧ IsNum w' v (x * y) ∧ Below w.heap.size w w' := by
  obtain ⟨n, f, a1, a2, a3, rfl⟩ := h1
  obtain ⟨m, g, b1, b2, b3, rfl⟩ := h2
  have := trim_len a2 a3 hx
  have := trim_len b2 b3 hy
  exact rtimes_at w v1 v2 n m f g a1 b1 a2 b2 (by omega) (by omega)
end Go.Proofs.Ytogkchcclcbobaa
