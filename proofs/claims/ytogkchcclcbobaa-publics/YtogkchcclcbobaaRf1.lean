/- The walks of the document's own answer: numbers: less, trim, prime. -/
import Derived.Test.YtogkchcclcbobaaProg
import Derived.Test.YtogkchcclcbobaaOwn
import Derived.Test.YtogkchcclcbobaaReg
namespace Go.Proofs.Ytogkchcclcbobaa
open Go.RowKit Go.Msg

theorem ret_bool {a b : Bool} (h : a = b) : Ending.returned (.bool a) = .returned (.bool b) := by rw [h]
set_option maxHeartbeats 1000000 in
theorem less_at (w : World) (v1 v2 : Value) (n m : Nat) (f g : Nat → Int) (h1 : NumAt w v1 n f) (h2 : NumAt w v2 m g) (d1 : Dig n f) (d2 : Dig m g) (t1 : Trim n f) (t2 : Trim m g) (hn : n ≤ 100000) (hm : m ≤ 100000) :
    Calls Try.prog 24 #[v1, v2] w fun e w' => e = .returned (.bool (decide (dval n f < dval m g))) ∧ Below w.heap.size w w' := by
  obtain ⟨ao1, cap1, g1, rfl, hc1, ha1, hx1⟩ := h1
  obtain ⟨ao2, cap2, g2, rfl, hc2, ha2, hx2⟩ := h2
  by_cases hnm : n = m
  · subst hnm
    have hq : ((n : Int) != n) = false := by simp
    go_enter Try.func24, Try.ntmps24
    go_wp2
    go_loopw [5] (fun i wr => ∃ (k d : Nat), k ≤ n ∧ i = .int .i64 ((k : Int) - 1) ∧ (∀ i, k ≤ i → i < n → f i = g i) ∧ wr = w.dr d) (fun i _ => (intOf i + 1).toNat)
    case atStart => exact ⟨n, _, by omega, rfl, fun i h1 h2 => by omega, (World.dr_self _).symm⟩
    case round =>
      obtain ⟨k, d, hk, rfl, heq, rfl⟩ := hrel
      by_cases hlt : 1 ≤ k
      · have e1 := ha1 (by omega)
        have e2 := ha2 (by omega)
        subst e1 e2
        obtain ⟨j, rfl⟩ : ∃ j, k = j + 1 := ⟨k - 1, by omega⟩
        have cj : ((j + 1 : Nat) : Int) - 1 = j := by omega
        rw [cj]
        have c1 : (0:Int) ≤ j := by omega
        have c2 : (j:Int) < n := by omega
        have c3 := hx1 j (by omega)
        have c4 := hx2 j (by omega)
        clear hx1 hx2 ha1 ha2 cj
        by_cases hd : f j = g j
        · have hd' : (f j != g j) = false := by simp [hd]
          have HD : Hid (f j = g j) := hd
          clear hd
          go_wp2
          go_region
          go_wp2
          go_roundw
          case rel => exact ⟨j, _, by omega, by go_num, fun i h1 h2 => by
            by_cases e : i = j
            · subst e; exact HD.out
            · exact heq i (by omega) h2, rfl⟩
          case measure => simp [intOf]
        · have hd' : (f j != g j) = true := by simp [hd]
          go_wp2
          go_region
          go_wp2
          go_region
          go_wp2
          go_ret
          refine ⟨ret_bool ?_, below_dr (Below.refl _ _) _⟩
          by_cases hl : f j < g j
          · have := dval_top_lt d1 d2 j (by omega) (fun i h1 h2 => heq i (by omega) h2) hl
            simp [hl, this]
          · have := dval_top_lt d2 d1 j (by omega) (fun i h1 h2 => (heq i (by omega) h2).symm) (by omega)
            simp [hl]; omega
      · have hk0 : k = 0 := by omega
        subst hk0
        have he := dval_congr (n := n) (f := f) (g := g) (fun i hi => heq i (by omega) hi)
        have HE : Hid (dval n f = dval n g) := he
        clear he
        go_wp2
        go_ret
        exact ⟨ret_bool (by rw [HE.out]; simp), below_dr (Below.refl _ _) _⟩
  · have hq : ((n : Int) != m) = true := by simp; omega
    go_enter Try.func24, Try.ntmps24
    go_wp2
    go_ret
    refine ⟨ret_bool ?_, Below.refl _ _⟩
    by_cases hl : n < m
    · have := len_lt d1 d2 t2 hl
      simp [hl, this]
    · have := len_lt d2 d1 t1 (by omega)
      simp [hl]; omega
/-- less. -/
theorem less_any {w : World} {v1 v2 : Value} {x y : Int} (h1 : IsNum w v1 x) (h2 : IsNum w v2 y) (hx : x < 65536 ^ 1000) (hy : y < 65536 ^ 1000) :
    Calls Try.prog 24 #[v1, v2] w fun e w' => e = .returned (.bool (decide (x < y))) ∧ Below w.heap.size w w' := by
  obtain ⟨n, f, a1, a2, a3, rfl⟩ := h1
  obtain ⟨m, g, b1, b2, b3, rfl⟩ := h2
  have := trim_len a2 a3 hx
  have := trim_len b2 b3 hy
  exact less_at w v1 v2 n m f g a1 b1 a2 b2 a3 b3 (by omega) (by omega)

set_option maxHeartbeats 1000000 in
/-- trim: of a row's first n numbers. -/
theorem trim_at (w : World) (g n cap : Nat) (f : Nat → Int) (hx : ∀ i, i < n → w.cell? ⟨g, i, none⟩ = some (.int .i64 (f i))) (hc : n ≤ cap) (hn : n ≤ 1000000) :
    Calls Try.prog 41 #[.slice (some ⟨g, 0, none⟩) n cap] w fun e w' => ∃ k, k ≤ n ∧ e = .returned (.slice (some ⟨g, 0, none⟩) k cap) ∧ Trim k f ∧ (∀ i, k ≤ i → i < n → f i = 0) ∧ w' = w := by
  go_enter Try.func41, Try.ntmps41
  go_wp2
  go_loop [3] (fun i => ∃ k : Nat, k ≤ n ∧ i = .int .i64 k ∧ (∀ i, k ≤ i → i < n → f i = 0)) (fun i => (intOf i).toNat)
  case atStart => exact ⟨n, by omega, rfl, fun i h1 h2 => by omega⟩
  case round =>
    obtain ⟨k, hk, rfl, hz⟩ := hrel
    by_cases hlt : 1 ≤ k
    · have c1 : (0:Int) < k := by omega
      have c2 : (0:Int) ≤ (k:Int) - 1 := by omega
      have c3 := hx (k - 1) (by omega)
      have c4 : ((k:Int) - 1).toNat = k - 1 := by omega
      by_cases h0 : f (k - 1) = 0
      · have h0' : (f (k - 1) == 0) = true := by simp [h0]
        have H0 : Hid (f (k - 1) = 0) := h0
        clear h0 hx
        go_wp2
        go_round
        case rel => exact ⟨k - 1, by omega, by go_num, fun i h1 h2 => by
          by_cases e : i = k - 1
          · subst e; exact H0.out
          · exact hz i (by omega) h2⟩
        case measure => simp [intOf]; omega
      · have h0' : (f (k - 1) == 0) = false := by simp [h0]
        clear hx
        go_wp2
        go_ret
        exact ⟨k, hk, rfl, fun _ => h0, hz, rfl⟩
    · have hk0 : k = 0 := by omega
      subst hk0
      clear hx
      go_wp2
      go_ret
      exact ⟨0, by omega, rfl, fun h => by omega, hz, rfl⟩

theorem nums : SliceTy Try.prog 54 3 .i64 8 := ⟨Try.underlying54, by kernel_rfl, by omega⟩
/-- The digits of the prime. -/
def pdig (i : Nat) : Int := if i = 0 then 65517 else if i = 15 then 32767 else if i < 16 then 65535 else 0
def pfill (k : Nat) (i : Nat) : Int := if i < k then 65535 else 0
theorem pfill_step (k : Nat) : upd (pfill k) k 65535 = pfill (k + 1) := by
  funext i; unfold upd pfill
  by_cases h : i = k
  · simp [h]
  · by_cases h2 : i < k
    · simp [h, h2, show i < k + 1 by omega]
    · simp [h, h2, show ¬ i < k + 1 by omega]
theorem pdig_eq : upd (upd (pfill 16) 0 65517) 15 32767 = pdig := by
  funext i; unfold upd pfill pdig
  by_cases h15 : i = 15
  · simp [h15]
  · by_cases h0 : i = 0
    · simp [h0]
    · simp [h15, h0]
theorem pdig_val : dval 16 pdig = P25519 := by decide
theorem pdig_ok : Dig 16 pdig ∧ Trim 16 pdig := ⟨fun i hi => by unfold pdig; split; omega; split; omega; simp, fun _ => by decide⟩
set_option maxHeartbeats 1000000 in
theorem prime_any (w : World) : Calls Try.prog 88 #[] w fun e w' => ∃ v, e = .returned v ∧ IsNum w' v P25519 ∧ Below w.heap.size w w' := by
  go_enter Try.func88, Try.ntmps88
  go_wp2_with (refine wpl_make nums rfl _ _ rfl 16 16 16 rfl rfl rfl rfl (by omega) ?_)
  go_loopw [2] (fun i wr => ∃ k : Nat, k ≤ 16 ∧ i = .int .i64 k ∧ wr = w.alloc (.cells (tab .i64 16 (pfill k)) 3)) (fun i _ => 16 - (intOf i).toNat)
  case atStart => exact ⟨0, by omega, rfl, by rw [show pfill 0 = fun _ => 0 by funext i; simp [pfill]]⟩
  case round =>
    obtain ⟨k, hk, rfl, rfl⟩ := hrel
    by_cases hlt : k < 16
    · have c1 : (k:Int) < 16 := by omega
      have HS := pfill_step k
      go_wp2
      go_roundw
      case rel => exact ⟨k + 1, by omega, by go_num, rfl⟩
      case measure => simp [intOf]; omega
    · have hk' : k = 16 := by omega
      subst hk'
      have HP := pdig_eq
      go_wp2
      go_ret
      exact ⟨_, rfl, ⟨16, pdig, NumAt.of_row (N := 16) (F := pdig) (by simp [go_sem]) (by omega) (by omega) (fun _ _ => rfl), pdig_ok.1, pdig_ok.2, pdig_val⟩, (Below.refl _ _).alloc (Nat.le_refl _) _⟩

set_option maxHeartbeats 1000000 in
theorem int_any (x : Int) (h0 : 0 ≤ x) (hx : x ≤ 9223372036854775807) (w : World) : Calls Try.prog 22 #[.int .i64 x] w fun e w' => ∃ v, e = .returned v ∧ IsNum w' v x ∧ Below w.heap.size w w' := by
  go_enter Try.func22, Try.ntmps22
  go_wp2
  go_loopw [0, 3] (fun i v wr => ∃ (y : Int) (k : Nat) (f : Nat → Int), 0 ≤ y ∧ y ≤ x ∧ k ≤ 4 ∧ y * 65536 ^ k ≤ x ∧ i = .int .i64 y ∧ wr.ownsRow w.heap.size 3 1 v k (ints .i64 k f) ∧ Dig k f ∧ (y = 0 → Trim k f) ∧ dval k f + y * 65536 ^ k = x ∧ Below w.heap.size w wr) (fun i _ _ => (intOf i).toNat)
  case atStart => exact ⟨x, 0, fun _ => 0, h0, by omega, by omega, by simp, rfl, World.ownsRow_nil _ _ _ _, fun i hi => by omega, fun _ h => by omega, by simp [dval], Below.refl _ _⟩
  case round =>
    obtain ⟨y, k, f, hy0, hyx, hk4, hpow, rfl, hown, hdig, htr, hval, hbel⟩ := hrel
    have hbs := hbel.size
    by_cases hlt : 0 < y
    · have hk3 : k ≤ 3 := by
        by_cases e : k = 4
        · subst e
          have : (65536 : Int) ^ 4 = 18446744073709551616 := by decide
          rw [this] at hpow; omega
        · omega
      go_wp2_with (refine wpl_append1 nums rfl _ _ rfl w.heap.size _ k f rfl ?_ (wr.heap.size) (y % 65536) rfl ?_ (by omega) ?_ ?_; (focus (exact hown.alloc _)); (focus (simp [go_sem]; done)); (focus (simp; omega)); intro v' w' hown' hbel' hsz')
      go_roundw
      case rel =>
        refine ⟨y / 65536, k + 1, upd f k (y % 65536), by omega, by omega, by omega, ?_, rfl, hown', fun i hi => ?_, fun hy => ?_, ?_, hbel' _ (hbel.alloc hbs _)⟩
        · have h1 := split_digit y k
          have h2 : 0 ≤ y % 65536 * 65536 ^ k := Int.mul_nonneg (by omega) (Int.pow_nonneg (by omega))
          omega
        · exact hdig.snoc (by omega) i hi
        · exact trim_snoc (by omega)
        · rw [dval_snoc]; have := split_digit y k; omega
      case measure => simp [intOf]; omega
    · have hy : y = 0 := by omega
      subst hy
      have HT : Hid (Trim k f) := htr rfl
      go_wp2
      go_ret
      exact ⟨_, rfl, ⟨k, f, NumAt.of_owns hown, hdig, HT.out, by simpa using hval⟩, hbel⟩
end Go.Proofs.Ytogkchcclcbobaa
