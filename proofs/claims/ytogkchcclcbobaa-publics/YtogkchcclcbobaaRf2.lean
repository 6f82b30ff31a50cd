/- The walks of the document's own answer: numbers: plus, minus. -/
import Derived.Test.YtogkchcclcbobaaRf1
namespace Go.Proofs.Ytogkchcclcbobaa
open Go.RowKit Go.Msg

theorem below_cells {w wr : World} (hb : Below w.heap.size w wr) {g n : Nat} {f : Nat → Int} (h : ∀ i, i < n → w.cell? ⟨g, i, none⟩ = some (.int .i64 (f i))) (i : Nat) (hi : i < n) : wr.cell? ⟨g, i, none⟩ = some (.int .i64 (f i)) := by
  rw [hb.cell (p := ⟨g, i, none⟩) (World.block_lt_of_cell? w _ (h i hi))]; exact h i hi
set_option maxHeartbeats 2000000 in
theorem rplus_at (w : World) (v1 v2 : Value) (n m : Nat) (a b : Nat → Int) (h1 : NumAt w v1 n a) (h2 : NumAt w v2 m b) (d1 : Dig n a) (d2 : Dig m b) (t1 : Trim n a) (t2 : Trim m b) (hn : n ≤ 100000) (hm : m ≤ 100000) :
    Calls Try.prog 90 #[v1, v2] w fun e w' => ∃ v, e = .returned v ∧ IsNum w' v (dval n a + dval m b) ∧ Below w.heap.size w w' := by
  obtain ⟨ao1, cap1, g1, rfl, hc1, ha1, hx1⟩ := h1
  obtain ⟨ao2, cap2, g2, rfl, hc2, ha2, hx2⟩ := h2
  go_enter Try.func90, Try.ntmps90
  go_wp2
  go_loopw [5, 6, 7] (fun v c i wr => ∃ (k : Nat) (y : Int) (f : Nat → Int), k ≤ 100001 ∧ (k ≤ n ∨ k ≤ m ∨ y = 0) ∧ i = .int .i64 k ∧ c = .int .i64 y ∧ Sums n m a b k y f ∧ wr.ownsRow w.heap.size 3 1 v k (ints .i64 k f) ∧ Below w.heap.size w wr) (fun _ _ i _ => 100002 - (intOf i).toNat)
  case atStart => exact ⟨0, 0, fun _ => 0, by omega, by omega, rfl, rfl, Sums.start n m a b, World.ownsRow_nil _ _ _ _, Below.refl _ _⟩
  case round =>
    obtain ⟨k, y, f, hk, hky, rfl, rfl, hS, hown, hbel⟩ := hrel
    have hbs := hbel.size
    have hc := hS.c01
    by_cases hkn : k < n
    · have e1 := ha1 (by omega)
      subst e1
      have x1 := below_cells hbel hx1 k hkn
      have c1 : (k : Int) < n := by omega
      have b1 := d1 k hkn
      have E1 : ext0 n a k = a k := by simp [ext0, hkn]
      by_cases hkm : k < m
      · have e2 := ha2 (by omega)
        subst e2
        have x2 := below_cells hbel hx2 k hkm
        have c2 : (k : Int) < m := by omega
        have b2 := d2 k hkm
        have ST := hS.step d1 d2 t1 t2 (by omega) (s := y + a k + b k) (by simp [ext0, hkn, hkm])
        have HST : Hid _ := ST
        clear ST E1 hx1 hx2 ha1 ha2
        go_wp2_with (refine wpl_append1 nums rfl _ _ rfl w.heap.size _ k f rfl ?_ (wr.heap.size) ((y + a k + b k) % 65536) rfl ?_ (by omega) ?_ ?_; (focus (exact hown.alloc _)); (focus (simp [go_sem]; done)); (focus (simp; omega)); intro v' w' hown' hbel' hsz')
        go_roundw
        case rel => exact ⟨k + 1, _, _, by omega, by omega, by go_num, rfl, HST.out, hown', hbel' _ (hbel.alloc hbs _)⟩
        case measure => simp [intOf]; omega
      · have c2 : (m : Int) ≤ k := by omega
        have ST := hS.step d1 d2 t1 t2 (by omega) (s := y + a k) (by simp [ext0, hkn, hkm])
        have HST : Hid _ := ST
        clear ST E1 hx1 hx2 ha1 ha2
        go_wp2_with (refine wpl_append1 nums rfl _ _ rfl w.heap.size _ k f rfl ?_ (wr.heap.size) ((y + a k) % 65536) rfl ?_ (by omega) ?_ ?_; (focus (exact hown.alloc _)); (focus (simp [go_sem]; done)); (focus (simp; omega)); intro v' w' hown' hbel' hsz')
        go_roundw
        case rel => exact ⟨k + 1, _, _, by omega, by omega, by go_num, rfl, HST.out, hown', hbel' _ (hbel.alloc hbs _)⟩
        case measure => simp [intOf]; omega
    · have c1 : (n : Int) ≤ k := by omega
      by_cases hkm : k < m
      · have e2 := ha2 (by omega)
        subst e2
        have x2 := below_cells hbel hx2 k hkm
        have c2 : (k : Int) < m := by omega
        have b2 := d2 k hkm
        have ST := hS.step d1 d2 t1 t2 (by omega) (s := y + b k) (by simp [ext0, hkn, hkm])
        have HST : Hid _ := ST
        clear ST hx1 hx2 ha1 ha2
        go_wp2_with (refine wpl_append1 nums rfl _ _ rfl w.heap.size _ k f rfl ?_ (wr.heap.size) ((y + b k) % 65536) rfl ?_ (by omega) ?_ ?_; (focus (exact hown.alloc _)); (focus (simp [go_sem]; done)); (focus (simp; omega)); intro v' w' hown' hbel' hsz')
        go_roundw
        case rel => exact ⟨k + 1, _, _, by omega, by omega, by go_num, rfl, HST.out, hown', hbel' _ (hbel.alloc hbs _)⟩
        case measure => simp [intOf]; omega
      · have c2 : (m : Int) ≤ k := by omega
        by_cases hy : 0 < y
        · have ST := hS.step d1 d2 t1 t2 (by omega) (s := y) (by simp [ext0, hkn, hkm])
          have HST : Hid _ := ST
          clear ST hx1 hx2 ha1 ha2
          go_wp2_with (refine wpl_append1 nums rfl _ _ rfl w.heap.size _ k f rfl ?_ (wr.heap.size) ((y) % 65536) rfl ?_ (by omega) ?_ ?_; (focus (exact hown.alloc _)); (focus (simp [go_sem]; done)); (focus (simp; omega)); intro v' w' hown' hbel' hsz')
          go_roundw
          case rel => exact ⟨k + 1, _, _, by omega, by omega, by go_num, rfl, HST.out, hown', hbel' _ (hbel.alloc hbs _)⟩
          case measure => simp [intOf]; omega
        · have hy0 : y = 0 := by omega
          subst hy0
          have D := hS.done (by omega) (by omega)
          have HD : Hid _ := D
          clear D
          go_wp2
          go_ret
          exact ⟨_, rfl, ⟨k, f, NumAt.of_owns hown, HD.out.1, HD.out.2.1, HD.out.2.2⟩, hbel⟩
theorem rplus_any {w : World} {v1 v2 : Value} {x y : Int} (h1 : IsNum w v1 x) (h2 : IsNum w v2 y) (hx : x < 65536 ^ 1000) (hy : y < 65536 ^ 1000) :
    Calls Try.prog 90 #[v1, v2] w fun e w' => ∃ v, e = .returned v ∧ IsNum w' v (x + y) ∧ Below w.heap.size w w' := by
  obtain ⟨n, f, a1, a2, a3, rfl⟩ := h1
  obtain ⟨m, g, b1, b2, b3, rfl⟩ := h2
  have := trim_len a2 a3 hx
  have := trim_len b2 b3 hy
  exact rplus_at w v1 v2 n m f g a1 b1 a2 b2 a3 b3 (by omega) (by omega)

set_option maxHeartbeats 2000000 in
theorem rminus_at (w : World) (v1 v2 : Value) (n m : Nat) (a b : Nat → Int) (h1 : NumAt w v1 n a) (h2 : NumAt w v2 m b) (d1 : Dig n a) (d2 : Dig m b) (hmn : m ≤ n) (hle : dval m b ≤ dval n a) (hn : n ≤ 100000) :
    Calls Try.prog 89 #[v1, v2] w fun e w' => ∃ v, e = .returned v ∧ IsNum w' v (dval n a - dval m b) ∧ Below w.heap.size w w' := by
  obtain ⟨ao1, cap1, g1, rfl, hc1, ha1, hx1⟩ := h1
  obtain ⟨ao2, cap2, g2, rfl, hc2, ha2, hx2⟩ := h2
  go_enter Try.func89, Try.ntmps89
  go_wp2_with (refine wpl_make nums rfl _ _ rfl n n n rfl rfl rfl rfl (by omega) ?_)
  go_loopw [6, 7, 8] (fun c i _ wr => ∃ (k : Nat) (y : Int) (f : Nat → Int), k ≤ n ∧ i = .int .i64 k ∧ c = .int .i64 y ∧ Diffs m a b k y f ∧ wr = w.alloc (.cells (tab .i64 n f) 3)) (fun _ i _ _ => n - (intOf i).toNat)
  case atStart => exact ⟨0, 0, fun _ => 0, by omega, rfl, rfl, Diffs.start m a b _, rfl⟩
  case round =>
    obtain ⟨k, y, f, hk, rfl, rfl, hS, rfl⟩ := hrel
    have hbel : Below w.heap.size w (w.alloc (.cells (tab .i64 n f) 3)) := (Below.refl _ _).alloc (Nat.le_refl _) _
    have hc := hS.c01
    by_cases hkn : k < n
    · have e1 := ha1 (by omega)
      subst e1
      have x1 := below_cells hbel hx1 k hkn
      have c1 : (k : Int) < n := by omega
      have b1 := d1 k hkn
      by_cases hkm : k < m
      · have e2 := ha2 (by omega)
        subst e2
        have x2 := below_cells hbel hx2 k hkm
        have c2 : (k : Int) < m := by omega
        have b2 := d2 k hkm
        have ST := hS.step b1 d2 (s := a k - y - b k) (by simp [ext0, hkm])
        have HST : Hid _ := ST
        clear ST hx1 hx2 ha1 ha2 hbel
        by_cases hneg : a k - y - b k < 0
        · go_wp2
          go_roundw
          case rel => exact ⟨k + 1, _, _, by omega, by go_num, rfl, HST.out.1 hneg, rfl⟩
          case measure => simp [intOf]; omega
        · go_wp2
          go_roundw
          case rel => exact ⟨k + 1, _, _, by omega, by go_num, rfl, HST.out.2 hneg, rfl⟩
          case measure => simp [intOf]; omega
      · have c2 : (m : Int) ≤ k := by omega
        have ST := hS.step b1 d2 (s := a k - y) (by simp [ext0, hkm])
        have HST : Hid _ := ST
        clear ST hx1 hx2 ha1 ha2 hbel
        by_cases hneg : a k - y < 0
        · go_wp2
          go_roundw
          case rel => exact ⟨k + 1, _, _, by omega, by go_num, rfl, HST.out.1 hneg, rfl⟩
          case measure => simp [intOf]; omega
        · go_wp2
          go_roundw
          case rel => exact ⟨k + 1, _, _, by omega, by go_num, rfl, HST.out.2 hneg, rfl⟩
          case measure => simp [intOf]; omega
    · have hk' : k = n := by omega
      subst hk'
      have D := hS.done hmn hle
      have HD : Hid _ := D
      clear D
      have hcell : ∀ i, i < k → (w.alloc (.cells (tab .i64 k f) 3)).cell? ⟨w.heap.size, i, none⟩ = some (.int .i64 (f i)) := fun i hi => by simp [go_sem, hi]
      have HC : Hid _ := hcell
      clear hcell hbel
      go_wp2_with (go_at_call 41; refine (trim_at _ _ _ _ f HC.out (by omega) (by omega)).mono ?_; rintro e w' ⟨j, hj, rfl, htr, hz, rfl⟩)
      go_ret
      refine ⟨_, rfl, ⟨j, f, NumAt.of_row (N := k) (F := f) (by simp [go_sem]) (by omega) hj (fun _ _ => rfl), fun i hi => hS.dig i (by omega), htr, ?_⟩, (Below.refl _ _).alloc (Nat.le_refl _) _⟩
      rw [← HD.out]
      obtain ⟨c, rfl⟩ : ∃ c, k = j + c := ⟨k - j, by omega⟩
      rw [dval_shift, dval_congr (n := c) (g := fun _ => 0) (fun i hi => hz _ (by omega) (by omega)), dval_zero]; omega
theorem rminus_any {w : World} {v1 v2 : Value} {x y : Int} (h1 : IsNum w v1 x) (h2 : IsNum w v2 y) (hyx : y ≤ x) (hx : x < 65536 ^ 1000) :
    Calls Try.prog 89 #[v1, v2] w fun e w' => ∃ v, e = .returned v ∧ IsNum w' v (x - y) ∧ Below w.heap.size w w' := by
  obtain ⟨n, f, a1, a2, a3, rfl⟩ := h1
  obtain ⟨m, g, b1, b2, b3, rfl⟩ := h2
  have hn := trim_len a2 a3 hx
  have hmn : m ≤ n := by
    by_cases h : m ≤ n
    · exact h
    · have := len_lt a2 b2 b3 (by omega); omega
  exact rminus_at w v1 v2 n m f g a1 b1 a2 b2 hmn hyx (by omega)
end Go.Proofs.Ytogkchcclcbobaa
