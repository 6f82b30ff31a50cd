/- Plain mathematics: whole numbers by their digits to the base 65536; and how they lie in memory. -/
import Derived.Test.YtogkchcclcbobaaLad
import Derived.Test.YtogkchcclcbobaaStr
namespace Go.Msg
open Go.RowKit
def dval : Nat → (Nat → Int) → Int
  | 0, _ => 0
  | n + 1, f => dval n f + f n * 65536 ^ n
theorem dval_congr {n : Nat} {f g : Nat → Int} (h : ∀ i, i < n → f i = g i) : dval n f = dval n g := by
  induction n with
  | zero => rfl
  | succ n ih => simp only [dval]; rw [ih (fun i hi => h i (by omega)), h n (by omega)]
theorem dval_upd (n : Nat) (f : Nat → Int) (i : Nat) (z : Int) (h : i < n) : dval n (upd f i z) = dval n f + (z - f i) * 65536 ^ i := by
  induction n with
  | zero => omega
  | succ n ih =>
    simp only [dval]
    by_cases hi : i = n
    · subst hi
      rw [dval_congr (g := f) (fun j hj => by simp [upd]; omega)]
      simp [upd]; grind
    · rw [ih (by omega)]
      have : upd f i z n = f n := by simp [upd]; omega
      rw [this]; omega
theorem dval_zero (n : Nat) : dval n (fun _ => 0) = 0 := by
  induction n with
  | zero => rfl
  | succ n ih => simp [dval, ih]
/-- Digits. -/
def Dig (n : Nat) (f : Nat → Int) : Prop := ∀ i, i < n → 0 ≤ f i ∧ f i < 65536
theorem dval_bd {n : Nat} {f : Nat → Int} (h : Dig n f) : 0 ≤ dval n f ∧ dval n f < 65536 ^ n := by
  induction n with
  | zero => simp [dval]
  | succ n ih =>
    have h1 := ih (fun i hi => h i (by omega))
    have h2 := h n (by omega)
    have hp : (0 : Int) < 65536 ^ n := Int.pow_pos (by omega)
    have h3 : f n * 65536 ^ n ≤ 65535 * 65536 ^ n := Int.mul_le_mul_of_nonneg_right (by omega) (by omega)
    have h4 : 0 ≤ f n * 65536 ^ n := Int.mul_nonneg h2.1 (by omega)
    simp only [dval]; rw [Int.pow_succ]; omega
theorem dval_shift (m n : Nat) (f : Nat → Int) : dval (m + n) f = dval m f + 65536 ^ m * dval n (fun i => f (m + i)) := by
  induction n with
  | zero => simp [dval]
  | succ n ih =>
    rw [show m + (n + 1) = (m + n) + 1 by omega]
    simp only [dval]; rw [ih, Int.pow_add]; grind
/-- Without noughts at its end. -/
def Trim (n : Nat) (f : Nat → Int) : Prop := 0 < n → f (n - 1) ≠ 0
theorem dval_top {n : Nat} {f : Nat → Int} (h : Dig n f) (ht : Trim n f) (hn : 0 < n) : 65536 ^ (n - 1) ≤ dval n f := by
  obtain ⟨m, rfl⟩ : ∃ m, n = m + 1 := ⟨n - 1, by omega⟩
  have h1 := (dval_bd (n := m) (fun i hi => h i (by omega))).1
  have h2 := h m (by omega)
  have h3 := ht (by omega)
  simp only [Nat.add_sub_cancel] at *
  have hp : (0 : Int) < 65536 ^ m := Int.pow_pos (by omega)
  have h4 : 1 * 65536 ^ m ≤ f m * 65536 ^ m := Int.mul_le_mul_of_nonneg_right (by omega) (by omega)
  simp only [dval]; omega
theorem pow_mono {a b : Nat} (h : a ≤ b) : (65536 : Int) ^ a ≤ 65536 ^ b := by
  obtain ⟨c, rfl⟩ : ∃ c, b = a + c := ⟨b - a, by omega⟩
  rw [Int.pow_add]
  have hp : (0 : Int) < 65536 ^ a := Int.pow_pos (by omega)
  have hq : (0 : Int) < 65536 ^ c := Int.pow_pos (by omega)
  have h1 : (1 : Int) ≤ 65536 ^ c := by omega
  have := Int.mul_le_mul_of_nonneg_left h1 (show (0 : Int) ≤ 65536 ^ a by omega)
  omega
theorem trim_len {n N : Nat} {f : Nat → Int} (h : Dig n f) (ht : Trim n f) (hx : dval n f < 65536 ^ N) : n ≤ N := by
  by_cases hn : 0 < n
  · have h1 := dval_top h ht hn
    by_cases hc : n ≤ N
    · exact hc
    · have := pow_mono (show N ≤ n - 1 by omega); omega
  · omega
theorem len_lt {n m : Nat} {f g : Nat → Int} (hf : Dig n f) (hg : Dig m g) (htg : Trim m g) (h : n < m) : dval n f < dval m g := by
  have h1 := (dval_bd hf).2
  have h2 := dval_top hg htg (by omega)
  have := pow_mono (show n ≤ m - 1 by omega)
  omega
theorem dval_top_lt {n : Nat} {f g : Nat → Int} (hf : Dig n f) (hg : Dig n g) (k : Nat) (hk : k < n) (he : ∀ i, k < i → i < n → f i = g i) (hl : f k < g k) : dval n f < dval n g := by
  have e1 := dval_shift (k + 1) (n - (k + 1)) f
  have e2 := dval_shift (k + 1) (n - (k + 1)) g
  rw [show k + 1 + (n - (k + 1)) = n by omega] at e1 e2
  rw [e1, e2, dval_congr (f := fun i => f (k + 1 + i)) (g := fun i => g (k + 1 + i)) (fun i hi => he _ (by omega) (by omega))]
  have b1 := dval_bd (n := k) (fun i hi => hf i (by omega))
  have b2 := dval_bd (n := k) (fun i hi => hg i (by omega))
  have hp : (0 : Int) < 65536 ^ k := Int.pow_pos (by omega)
  have : (f k + 1) * 65536 ^ k ≤ g k * 65536 ^ k := Int.mul_le_mul_of_nonneg_right (by omega) (by omega)
  rw [Int.add_mul] at this
  simp only [dval]; omega

theorem dval_snoc (k : Nat) (f : Nat → Int) (d : Int) : dval (k + 1) (upd f k d) = dval k f + d * 65536 ^ k := by
  simp only [dval]
  rw [dval_congr (g := f) (fun j hj => by simp [upd]; omega)]
  simp [upd]
theorem Dig.snoc {k : Nat} {f : Nat → Int} (h : Dig k f) {d : Int} (hd : 0 ≤ d ∧ d < 65536) : Dig (k + 1) (upd f k d) := fun i hi => by
  by_cases e : i = k
  · subst e; simp [upd]; exact hd
  · simp [upd, e]; exact h i (by omega)
theorem trim_snoc {k : Nat} {f : Nat → Int} {d : Int} (hd : d ≠ 0) : Trim (k + 1) (upd f k d) := fun _ => by simp [upd]; exact hd
theorem split_digit (y : Int) (k : Nat) : y % 65536 * 65536 ^ k + y / 65536 * 65536 ^ (k + 1) = y * 65536 ^ k := by
  have := Int.mul_ediv_add_emod y 65536
  rw [Int.pow_succ]
  generalize y / 65536 = q at *
  generalize y % 65536 = r at *
  rw [← this]; grind
/-- Digits, and noughts behind them. -/
def ext0 (n : Nat) (f : Nat → Int) (i : Nat) : Int := if i < n then f i else 0
theorem ext0_val {n k : Nat} {f : Nat → Int} (h : n ≤ k) : dval k (ext0 n f) = dval n f := by
  obtain ⟨c, rfl⟩ : ∃ c, k = n + c := ⟨k - n, by omega⟩
  rw [dval_shift, dval_congr (g := f) (fun i hi => by simp [ext0, hi]), dval_congr (n := c) (g := fun _ => 0) (fun i _ => by unfold ext0; rw [if_neg (by omega)]), dval_zero]; omega
theorem ext0_bd {n : Nat} {f : Nat → Int} (h : Dig n f) (i : Nat) : 0 ≤ ext0 n f i ∧ ext0 n f i < 65536 := by
  unfold ext0; split
  · exact h i (by assumption)
  · omega
/-- A sum behind k digits. -/
structure Sums (n m : Nat) (a b : Nat → Int) (k : Nat) (c : Int) (f : Nat → Int) : Prop where
  c01 : 0 ≤ c ∧ c ≤ 1
  dig : Dig k f
  vl : dval k f + c * 65536 ^ k = dval k (ext0 n a) + dval k (ext0 m b)
  tr : c = 0 → n ≤ k → m ≤ k → Trim k f
theorem Sums.start (n m : Nat) (a b : Nat → Int) : Sums n m a b 0 0 (fun _ => 0) := ⟨by omega, fun i hi => by omega, by simp [dval], fun _ _ _ h => by omega⟩
theorem Sums.step {n m : Nat} {a b : Nat → Int} {k : Nat} {c : Int} {f : Nat → Int} (h : Sums n m a b k c f) (da : Dig n a) (db : Dig m b) (ta : Trim n a) (tb : Trim m b) (hgo : k < n ∨ k < m ∨ 0 < c) {s : Int} (hs : s = c + ext0 n a k + ext0 m b k) :
    Sums n m a b (k + 1) (s / 65536) (upd f k (s % 65536)) := by
  have h1 := ext0_bd da k
  have h2 := ext0_bd db k
  have h3 := h.c01
  refine ⟨by omega, h.dig.snoc (by omega), ?_, fun hc hn hm => trim_snoc ?_⟩
  · rw [dval_snoc]
    simp only [dval]
    have e := split_digit s k
    have v := h.vl
    have : s * 65536 ^ k = c * 65536 ^ k + ext0 n a k * 65536 ^ k + ext0 m b k * 65536 ^ k := by rw [hs]; grind
    omega
  · by_cases hkn : k < n
    · have : n = k + 1 := by omega
      have t := ta (by omega)
      rw [this, Nat.add_sub_cancel] at t
      have : ext0 n a k = a k := by simp [ext0, hkn]
      have := da k hkn
      omega
    · by_cases hkm : k < m
      · have : m = k + 1 := by omega
        have t := tb (by omega)
        rw [this, Nat.add_sub_cancel] at t
        have : ext0 m b k = b k := by simp [ext0, hkm]
        have := db k hkm
        omega
      · omega
theorem Sums.done {n m : Nat} {a b : Nat → Int} {k : Nat} {f : Nat → Int} (h : Sums n m a b k 0 f) (hn : n ≤ k) (hm : m ≤ k) : Dig k f ∧ Trim k f ∧ dval k f = dval n a + dval m b := by
  refine ⟨h.dig, h.tr rfl hn hm, ?_⟩
  have := h.vl
  rw [ext0_val hn, ext0_val hm] at this
  omega
/-- A difference behind k digits. -/
structure Diffs (m : Nat) (a b : Nat → Int) (k : Nat) (c : Int) (f : Nat → Int) : Prop where
  c01 : 0 ≤ c ∧ c ≤ 1
  dig : Dig k f
  vl : dval k f - c * 65536 ^ k = dval k a - dval k (ext0 m b)
theorem Diffs.start (m : Nat) (a b : Nat → Int) (f : Nat → Int) : Diffs m a b 0 0 f := ⟨by omega, fun i hi => by omega, by simp [dval]⟩
theorem Diffs.step {m : Nat} {a b : Nat → Int} {k : Nat} {c : Int} {f : Nat → Int} (h : Diffs m a b k c f) (ha : 0 ≤ a k ∧ a k < 65536) (db : Dig m b) {s : Int} (hs : s = a k - c - ext0 m b k) :
    (s < 0 → Diffs m a b (k + 1) 1 (upd f k (s + 65536))) ∧ (¬ s < 0 → Diffs m a b (k + 1) 0 (upd f k s)) := by
  have h2 := ext0_bd db k
  have h3 := h.c01
  have v := h.vl
  have e : s * 65536 ^ k = a k * 65536 ^ k - c * 65536 ^ k - ext0 m b k * 65536 ^ k := by rw [hs]; grind
  refine ⟨fun hn => ⟨by omega, h.dig.snoc (by omega), ?_⟩, fun hn => ⟨by omega, h.dig.snoc (by omega), ?_⟩⟩
  · rw [dval_snoc]; simp only [dval]
    have : (s + 65536) * 65536 ^ k - 1 * 65536 ^ (k + 1) = s * 65536 ^ k := by rw [Int.pow_succ]; grind
    omega
  · rw [dval_snoc]; simp only [dval]; omega
theorem Diffs.done {n m : Nat} {a b : Nat → Int} {c : Int} {f : Nat → Int} (h : Diffs m a b n c f) (hm : m ≤ n) (hle : dval m b ≤ dval n a) : dval n f = dval n a - dval m b := by
  have v := h.vl
  rw [ext0_val hm] at v
  have b1 := dval_bd h.dig
  have h3 := h.c01
  have hp : (0 : Int) < 65536 ^ n := Int.pow_pos (by omega)
  by_cases e : c = 0
  · subst e; omega
  · have : c = 1 := by omega
    subst this; omega
/-- A product behind i rows and j cells. -/
structure Muls (n m : Nat) (a b : Nat → Int) (i j : Nat) (c : Int) (F : Nat → Int) : Prop where
  dig : Dig (n + m + 1) F
  c0 : 0 ≤ c ∧ c < 65536
  z : ∀ t, i + m ≤ t → t < n + m + 1 → F t = 0
  vl : dval (n + m + 1) F + c * 65536 ^ (i + j) = dval i a * dval m b + a i * 65536 ^ i * dval j b
theorem Muls.start (n m : Nat) (a b : Nat → Int) : Muls n m a b 0 0 0 (fun _ => 0) := ⟨fun i _ => by omega, by omega, fun _ _ _ => rfl, by rw [dval_zero]; simp [dval]⟩
theorem mul16 {x y : Int} (h1 : 0 ≤ x ∧ x < 65536) (h2 : 0 ≤ y ∧ y < 65536) : 0 ≤ x * y ∧ x * y ≤ 4294836225 :=
  ⟨Int.mul_nonneg h1.1 h2.1, by have := Int.mul_le_mul (show x ≤ 65535 by omega) (show y ≤ 65535 by omega) h2.1 (by omega); omega⟩
theorem Muls.step {n m : Nat} {a b : Nat → Int} {i j : Nat} {c : Int} {F : Nat → Int} (h : Muls n m a b i j c F) (hi : i < n) (hj : j < m) (da : Dig n a) (db : Dig m b) {s : Int} (hs : s = c + F (i + j) + a i * b j) :
    Muls n m a b i (j + 1) (s / 65536) (upd F (i + j) (s % 65536)) := by
  have h1 := h.dig (i + j) (by omega)
  have h2 := mul16 (da i hi) (db j hj)
  have h3 := h.c0
  refine ⟨fun t ht => ?_, by omega, fun t h1 h2 => ?_, ?_⟩
  · by_cases e : t = i + j
    · subst e; simp [upd]; omega
    · simp [upd, e]; exact h.dig t ht
  · have e : ¬ t = i + j := by omega
    simp only [upd, e, if_false]; exact h.z t h1 h2
  · rw [dval_upd _ _ _ _ (by omega)]
    have e := split_digit s (i + j)
    have v := h.vl
    rw [show dval (j + 1) b = dval j b + b j * 65536 ^ j from rfl]
    have e1 : s * 65536 ^ (i + j) = c * 65536 ^ (i + j) + F (i + j) * 65536 ^ (i + j) + a i * 65536 ^ i * (b j * 65536 ^ j) := by rw [hs, Int.pow_add]; grind
    have e2 : (s % 65536 - F (i + j)) * 65536 ^ (i + j) = s % 65536 * 65536 ^ (i + j) - F (i + j) * 65536 ^ (i + j) := Int.sub_mul ..
    have e3 : a i * 65536 ^ i * (dval j b + b j * 65536 ^ j) = a i * 65536 ^ i * dval j b + a i * 65536 ^ i * (b j * 65536 ^ j) := Int.mul_add ..
    rw [← Nat.add_assoc, e2, e3]
    omega
theorem Muls.row {n m : Nat} {a b : Nat → Int} {i : Nat} {c : Int} {F : Nat → Int} (h : Muls n m a b i m c F) (hi : i < n) : Muls n m a b (i + 1) 0 0 (upd F (i + m) c) := by
  have h3 := h.c0
  refine ⟨fun t ht => ?_, by omega, fun t h1 h2 => ?_, ?_⟩
  · by_cases e : t = i + m
    · subst e; simp [upd]; omega
    · simp [upd, e]; exact h.dig t ht
  · have e : ¬ t = i + m := by omega
    simp only [upd, e, if_false]; exact h.z t (by omega) h2
  · rw [dval_upd _ _ _ _ (by omega), h.z (i + m) (by omega) (by omega)]
    have v := h.vl
    rw [show dval (i + 1) a = dval i a + a i * 65536 ^ i from rfl, show dval 0 b = 0 from rfl]
    have e3 : (dval i a + a i * 65536 ^ i) * dval m b = dval i a * dval m b + a i * 65536 ^ i * dval m b := Int.add_mul ..
    rw [e3]
    simp only [Int.sub_zero, Int.zero_mul, Int.mul_zero, Int.add_zero]
    omega
theorem Muls.done {n m : Nat} {a b : Nat → Int} {F : Nat → Int} (h : Muls n m a b n 0 0 F) : dval (n + m + 1) F = dval n a * dval m b := by
  have v := h.vl
  rw [show dval 0 b = 0 from rfl] at v
  simp only [Int.zero_mul, Int.mul_zero, Int.add_zero] at v
  exact v
/-- What stands from 2^256 on counts thirty-eight times: behind k digits. -/
structure Folds (n : Nat) (a : Nat → Int) (k : Nat) (c : Int) (F : Nat → Int) : Prop where
  c0 : 0 ≤ c ∧ c ≤ 100
  dig : Dig k F
  rest : ∀ i, k ≤ i → i < 18 → F i = ext0 16 a i
  vl : dval k F + c * 65536 ^ k = dval k (ext0 16 a) + 38 * dval k (fun i => ext0 n a (16 + i))
theorem Folds.step {n : Nat} {a : Nat → Int} {k : Nat} {c : Int} {F : Nat → Int} (h : Folds n a k c F) (hk : k < 18) (ha : ∀ i, 0 ≤ ext0 n a i ∧ ext0 n a i < 65536) (ha16 : ∀ i, 0 ≤ ext0 16 a i ∧ ext0 16 a i < 65536) {s : Int} (hs : s = c + F k + 38 * ext0 n a (16 + k)) :
    Folds n a (k + 1) (s / 65536) (upd F k (s % 65536)) := by
  have h1 := ha (16 + k)
  have h2 := ha16 k
  have h3 := h.c0
  have h4 := h.rest k (by omega) hk
  refine ⟨by omega, h.dig.snoc (by omega), fun i h1 h2 => ?_, ?_⟩
  · have e : ¬ i = k := by omega
    simp only [upd, e, if_false]; exact h.rest i (by omega) h2
  · rw [dval_snoc]
    simp only [dval]
    have e := split_digit s k
    have v := h.vl
    have : s * 65536 ^ k = c * 65536 ^ k + ext0 16 a k * 65536 ^ k + 38 * (ext0 n a (16 + k) * 65536 ^ k) := by rw [hs, h4]; grind
    have e2 : 38 * (dval k (fun i => ext0 n a (16 + i)) + ext0 n a (16 + k) * 65536 ^ k) = 38 * dval k (fun i => ext0 n a (16 + i)) + 38 * (ext0 n a (16 + k) * 65536 ^ k) := Int.mul_add ..
    rw [e2]
    omega
theorem Folds.done {n : Nat} {a : Nat → Int} {c : Int} {F : Nat → Int} (h : Folds n a 18 c F) (d : Dig n a) (t : Trim n a) (hn : 16 < n) (hn2 : n ≤ 33) :
    Dig 18 F ∧ Eqv (dval 18 F) (dval n a) ∧ dval 18 F < dval n a := by
  have v := h.vl
  have e1 : dval 18 (ext0 16 a) = dval 16 a := ext0_val (by omega)
  have e2 : dval 18 (fun i => ext0 n a (16 + i)) = dval (n - 16) (fun i => a (16 + i)) := by
    rw [← ext0_val (n := n - 16) (k := 18) (f := fun i => a (16 + i)) (by omega)]
    exact dval_congr fun i _ => by
      unfold ext0
      by_cases h : 16 + i < n
      · rw [if_pos h, if_pos (by omega)]
      · rw [if_neg h, if_neg (by omega)]
  have e3 := dval_shift 16 (n - 16) a
  rw [show 16 + (n - 16) = n by omega] at e3
  have dh : Dig (n - 16) (fun i => a (16 + i)) := fun i hi => d (16 + i) (by omega)
  have th : Trim (n - 16) (fun i => a (16 + i)) := fun _ => by show a (16 + (n - 16 - 1)) ≠ 0; rw [show 16 + (n - 16 - 1) = n - 1 by omega]; exact t (by omega)
  have b1 := dval_bd (n := 16) (f := a) (fun i hi => d i (by omega))
  have b2 := dval_bd dh
  have b3 := dval_top dh th (by omega)
  have b4 := pow_mono (show n - 16 ≤ 17 by omega)
  have b5 := dval_bd h.dig
  have b6 := h.c0
  rw [e1, e2] at v
  generalize dval (n - 16) (fun i => a (16 + i)) = H at *
  have hH : 1 ≤ H := by
    have : (0 : Int) < 65536 ^ (n - 16 - 1) := Int.pow_pos (by omega)
    omega
  have p16 : (65536 : Int) ^ 16 = 115792089237316195423570985008687907853269984665640564039457584007913129639936 := by decide
  have p17 : (65536 : Int) ^ 17 = 7588550360256754183279148073529370729071901715047420004889892225542594864082845696 := by decide
  have p18 : (65536 : Int) ^ 18 = 497323236409786642155382248146820840100456150797347717440463976893159497012533375533056 := by decide
  rw [p16] at b1 e3
  rw [p17] at b4
  rw [p18] at v b5
  have hc : c = 0 := by omega
  subst hc
  refine ⟨h.dig, ?_, by omega⟩
  have : dval 18 F = dval n a - 2 * H * P25519 := by unfold P25519; omega
  rw [this]
  exact emod_sub_mul _ _ _
theorem digit_of {n : Nat} {f : Nat → Int} (h : Dig n f) (i : Nat) (hi : i < n) : f i = dval n f / 65536 ^ i % 65536 := by
  have e1 := dval_shift i (n - i) f
  rw [show i + (n - i) = n by omega] at e1
  have b1 := dval_bd (n := i) (fun j hj => h j (by omega))
  have hp : (0 : Int) < 65536 ^ i := Int.pow_pos (by omega)
  obtain ⟨m, hm⟩ : ∃ m, n - i = 1 + m := ⟨n - i - 1, by omega⟩
  have e2 := dval_shift 1 m (fun j => f (i + j))
  rw [← hm] at e2
  have e3 : dval 1 (fun j => f (i + j)) = f i := by simp [dval]
  rw [e3] at e2
  have b2 := h i hi
  rw [e1, Int.add_mul_ediv_left _ _ (by omega), Int.ediv_eq_zero_of_lt b1.1 b1.2, Int.zero_add, e2, show (65536 : Int) ^ 1 = 65536 by decide]
  omega
theorem bit_digit (X : Nat) (j r : Nat) (hr : r < 16) : ((X : Int) / 65536 ^ j % 65536) / 2 ^ r % 2 = ((X / 2 ^ (16 * j + r) % 2 : Nat) : Int) := by
  have e1 : ((X : Int) / 65536 ^ j) = ((X / 65536 ^ j : Nat) : Int) := by simp
  rw [e1]
  have e2 : X / 2 ^ (16 * j + r) = X / 65536 ^ j / 2 ^ r := by
    rw [Nat.pow_add, Nat.pow_mul, Nat.div_div_eq_div_mul, show 2 ^ 16 = 65536 by decide]
  rw [e2]
  generalize X / 65536 ^ j = Y
  have : r = 0 ∨ r = 1 ∨ r = 2 ∨ r = 3 ∨ r = 4 ∨ r = 5 ∨ r = 6 ∨ r = 7 ∨ r = 8 ∨ r = 9 ∨ r = 10 ∨ r = 11 ∨ r = 12 ∨ r = 13 ∨ r = 14 ∨ r = 15 := by omega
  rcases this with e | e | e | e | e | e | e | e | e | e | e | e | e | e | e | e <;> subst e <;> simp <;> omega
theorem half_pow (X k : Nat) (hk : 1 ≤ k) : X / 2 ^ (k - 1) = 2 * (X / 2 ^ k) + X / 2 ^ (k - 1) % 2 := by
  obtain ⟨j, rfl⟩ : ∃ j, k = j + 1 := ⟨k - 1, by omega⟩
  simp only [Nat.add_sub_cancel]
  rw [Nat.pow_succ, ← Nat.div_div_eq_div_mul]
  omega
/-! ### in memory -/
/-- The slice v has, in this world, these n numbers. -/
def NumAt (w : World) (v : Value) (n : Nat) (f : Nat → Int) : Prop :=
  ∃ ao cap g, v = .slice ao n cap ∧ n ≤ cap ∧ (0 < n → ao = some ⟨g, 0, none⟩) ∧ ∀ i, i < n → w.cell? ⟨g, i, none⟩ = some (.int .i64 (f i))
/-- v is the number x. -/
def IsNum (w : World) (v : Value) (x : Int) : Prop := ∃ n f, NumAt w v n f ∧ Dig n f ∧ Trim n f ∧ dval n f = x
theorem NumAt.below {w w' : World} {v : Value} {n : Nat} {f : Nat → Int} (h : NumAt w v n f) (hb : Below w.heap.size w w') : NumAt w' v n f := by
  obtain ⟨ao, cap, g, hv, hc, ha, hcell⟩ := h
  exact ⟨ao, cap, g, hv, hc, ha, fun i hi => by rw [hb.cell (p := ⟨g, i, none⟩) (World.block_lt_of_cell? w _ (hcell i hi))]; exact hcell i hi⟩
theorem IsNum.below {w w' : World} {v : Value} {x : Int} (h : IsNum w v x) (hb : Below w.heap.size w w') : IsNum w' v x := by
  obtain ⟨n, f, h1, h2⟩ := h
  exact ⟨n, f, h1.below hb, h2⟩
theorem IsNum.nonneg {w : World} {v : Value} {x : Int} (h : IsNum w v x) : 0 ≤ x := by
  obtain ⟨n, f, h1, h2, h3, h4⟩ := h
  rw [← h4]; exact (dval_bd h2).1
theorem NumAt.of_row {w : World} {g n cap N : Nat} {f F : Nat → Int} (hr : w.rowOf g = tab .i64 N F) (hn : n ≤ cap) (hN : n ≤ N) (he : ∀ i, i < n → F i = f i) : NumAt w (.slice (some ⟨g, 0, none⟩) n cap) n f :=
  ⟨_, cap, g, rfl, hn, fun _ => rfl, fun i hi => by rw [(cell_of_rowOf hr i (by rw [tab_size]; omega)).1, tab_get _ _ _ _ (by omega), he i hi]⟩
/-- The number that a slice is, in a world (for a loop's measure). -/
def nval (w : World) : Value → Nat
  | .slice (some a) n _ => (dval n (fun i => intOf ((w.cell? ⟨a.block, i, none⟩).getD undef))).toNat
  | _ => 0
theorem IsNum.nval {w : World} {v : Value} {x : Int} (h : IsNum w v x) : nval w v = x.toNat := by
  obtain ⟨n, f, ⟨ao, cap, g, rfl, hc, ha, hcell⟩, h2, h3, rfl⟩ := h
  by_cases hn : 0 < n
  · rw [ha hn]
    unfold Msg.nval
    simp only
    congr 1
    exact dval_congr fun i hi => by rw [hcell i hi]; rfl
  · have : n = 0 := by omega
    subst this
    cases ao <;> rfl
theorem NumAt.nil (w : World) (ao : Option Addr) (cap : Nat) (f : Nat → Int) : NumAt w (.slice ao 0 cap) 0 f := ⟨ao, cap, 0, rfl, by omega, fun h => by omega, fun i hi => by omega⟩
end Go.Msg
