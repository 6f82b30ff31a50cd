/- Plain mathematics: powers modulo the prime; bits of rows of bytes. -/
import Derived.Test.YtogkchcclcbobaaVal
namespace Go.Msg
/-- p - 2 -/
def E2 : Nat := 57896044618658097711785492504343953926634992332820282019728792003956564819947
theorem E2_bit : ∀ k, k < 254 → E2 / 2 ^ k = 2 * (E2 / 2 ^ (k + 1)) + if k = 2 ∨ k = 4 then 0 else 1 := by decide +kernel
theorem E2_top : E2 / 2 ^ 254 = 1 := by decide +kernel
theorem E2_low : E2 / 2 ^ 0 = E2 := by decide +kernel
theorem mul_cong {a b c d p : Int} (h1 : a % p = b % p) (h2 : c % p = d % p) : (a * c) % p = (b * d) % p := by
  rw [Int.mul_emod, h1, h2, ← Int.mul_emod]
theorem add_cong {a b c d p : Int} (h1 : a % p = b % p) (h2 : c % p = d % p) : (a + c) % p = (b + d) % p := by
  rw [Int.add_emod, h1, h2, ← Int.add_emod]
theorem sub_cong {a b c d p : Int} (h1 : a % p = b % p) (h2 : c % p = d % p) : (a - c) % p = (b - d) % p := by
  rw [Int.sub_emod, h1, h2, ← Int.sub_emod]
theorem pow_sq {F : Int} {E : Nat} {x x1 p : Int} (h : x % p = F ^ E % p) (h1 : x1 % p = (x * x) % p) : x1 % p = F ^ (2 * E) % p := by
  rw [h1, mul_cong h h, ← Int.pow_add]; congr 2; omega
theorem pow_sq1 {F : Int} {E : Nat} {x x1 x2 p : Int} (h : x % p = F ^ E % p) (h1 : x1 % p = (x * x) % p) (h2 : x2 % p = (x1 * F) % p) : x2 % p = F ^ (2 * E + 1) % p := by
  rw [h2, mul_cong (pow_sq h h1) rfl, Int.pow_succ]

/-! ### bytes -/
def bitAt (b : Nat → Int) (i : Nat) : Int := b (i / 8) / 2 ^ (i % 8) % 2
/-- The number of n bytes, the lowest first. -/
def bval : Nat → (Nat → Int) → Int
  | 0, _ => 0
  | n + 1, b => bval n b + b n * 256 ^ n
/-- The number of the first n bits. -/
def bsum (b : Nat → Int) : Nat → Int
  | 0 => 0
  | n + 1 => bsum b n + bitAt b n * 2 ^ n
theorem bitAt_01 (b : Nat → Int) (i : Nat) : 0 ≤ bitAt b i ∧ bitAt b i ≤ 1 := by unfold bitAt; omega
theorem bsum_byte (b : Nat → Int) (n : Nat) (j : Nat) (hj : j ≤ 8) : bsum b (8 * n + j) = bsum b (8 * n) + (b n % 2 ^ j) * 256 ^ n := by
  induction j with
  | zero => simp [Int.emod_one]
  | succ j ih =>
    rw [show 8 * n + (j + 1) = (8 * n + j) + 1 by omega, bsum, ih (by omega)]
    have e1 : bitAt b (8 * n + j) = b n / 2 ^ j % 2 := by
      unfold bitAt
      rw [show (8 * n + j) / 8 = n by omega, show (8 * n + j) % 8 = j by omega]
    have e2 : (2 : Int) ^ (8 * n + j) = 256 ^ n * 2 ^ j := by rw [Int.pow_add, Int.pow_mul, show (2 : Int) ^ 8 = 256 by decide]
    have e3 : b n % 2 ^ (j + 1) = b n % 2 ^ j + b n / 2 ^ j % 2 * 2 ^ j := by
      have : j = 0 ∨ j = 1 ∨ j = 2 ∨ j = 3 ∨ j = 4 ∨ j = 5 ∨ j = 6 ∨ j = 7 := by omega
      rcases this with h | h | h | h | h | h | h | h <;> subst h <;> simp <;> omega
    rw [e1, e2, e3]; grind
theorem bsum_bytes (b : Nat → Int) (n : Nat) (hb : ∀ i, i < n → 0 ≤ b i ∧ b i ≤ 255) : bsum b (8 * n) = bval n b := by
  induction n with
  | zero => rfl
  | succ n ih =>
    rw [show 8 * (n + 1) = 8 * n + 8 by omega, bsum_byte b n 8 (by omega), ih (fun i hi => hb i (by omega))]
    have := hb n (by omega)
    simp only [bval]
    rw [show b n % 2 ^ 8 = b n by simp; omega]
theorem bsum_255 (b : Nat → Int) (hb : ∀ i, i < 32 → 0 ≤ b i ∧ b i ≤ 255) : bsum b 255 = bval 31 b + (b 31 % 128) * 256 ^ 31 := by
  have := bsum_byte b 31 7 (by omega)
  rw [show 8 * 31 + 7 = 255 by rfl, show 8 * 31 = 248 by rfl] at this
  rw [this]
  have h2 := bsum_bytes b 31 (fun i hi => hb i (by omega))
  rw [show 8 * 31 = 248 by rfl] at h2
  rw [h2]; rfl
theorem bsum_lt (b : Nat → Int) (n : Nat) : 0 ≤ bsum b n ∧ bsum b n < 2 ^ n := by
  induction n with
  | zero => simp [bsum]
  | succ n ih =>
    have h := bitAt_01 b n
    simp only [bsum]
    rw [Int.pow_succ]
    have : bitAt b n = 0 ∨ bitAt b n = 1 := by omega
    rcases this with e | e <;> rw [e] <;> omega
/-- The limbs behind i bits. -/
structure Filled (b : Nat → Int) (i : Nat) (x : Nat → Int) : Prop where
  nn : ∀ l, l < 20 → 0 ≤ x l
  low : ∀ l, l < i / 13 → x l ≤ 8191
  at_ : x (i / 13) < 2 ^ (i % 13)
  high : ∀ l, i / 13 < l → x l = 0
  vl : lval 20 x = bsum b i
theorem Filled.start (b : Nat → Int) : Filled b 0 (fun _ => 0) := ⟨fun _ _ => by omega, fun _ h => by omega, by simp, fun _ _ => rfl, by rw [lval_zero]; rfl⟩
theorem Filled.step {b x : Nat → Int} {i : Nat} (h : Filled b i x) (hi : i < 255) : Filled b (i + 1) (upd x (i / 13) (x (i / 13) + bitAt b i * 2 ^ (i % 13))) := by
  have h1 := bitAt_01 b i
  have h2 := h.at_
  have h3 := h.nn (i / 13) (by omega)
  have hp : (0 : Int) < 2 ^ (i % 13) := Int.pow_pos (by omega)
  have h4 : 0 ≤ bitAt b i * 2 ^ (i % 13) ∧ bitAt b i * 2 ^ (i % 13) ≤ 2 ^ (i % 13) := by
    have : bitAt b i = 0 ∨ bitAt b i = 1 := by omega
    rcases this with e | e <;> rw [e] <;> omega
  have h5 : x (i / 13) + bitAt b i * 2 ^ (i % 13) < 2 ^ (i % 13 + 1) := by rw [Int.pow_succ]; omega
  have h6 : (2 : Int) ^ (i % 13 + 1) ≤ 8192 := by
    have : i % 13 = 0 ∨ i % 13 = 1 ∨ i % 13 = 2 ∨ i % 13 = 3 ∨ i % 13 = 4 ∨ i % 13 = 5 ∨ i % 13 = 6 ∨ i % 13 = 7 ∨ i % 13 = 8 ∨ i % 13 = 9 ∨ i % 13 = 10 ∨ i % 13 = 11 ∨ i % 13 = 12 := by omega
    rcases this with e | e | e | e | e | e | e | e | e | e | e | e | e <;> rw [e] <;> decide
  refine ⟨fun l hl => ?_, fun l hl => ?_, ?_, fun l hl => ?_, ?_⟩
  · by_cases e : l = i / 13
    · subst e; simp [upd]; omega
    · simp [upd, e]; exact h.nn l hl
  · by_cases e : l = i / 13
    · subst e; simp [upd]; omega
    · simp [upd, e]; exact h.low l (by omega)
  · by_cases e : (i + 1) / 13 = i / 13
    · rw [e]; simp only [upd, if_true]; rw [show (i + 1) % 13 = i % 13 + 1 by omega]; exact h5
    · simp only [upd, e, if_false]; rw [h.high _ (by omega)]; exact Int.pow_pos (by omega)
  · have e : ¬ l = i / 13 := by omega
    simp only [upd, e, if_false]; exact h.high l (by omega)
  · rw [val_upd 20 x (i / 13) _ (by omega), h.vl]
    simp only [bsum]
    have : (2 : Int) ^ i = 2 ^ (i % 13) * 8192 ^ (i / 13) := by
      rw [show (8192 : Int) = 2 ^ 13 by decide, ← Int.pow_mul, ← Int.pow_add]; congr 1; omega
    rw [this]; grind
theorem Filled.done {b x : Nat → Int} (h : Filled b 255 x) : Tidy x ∧ lval 20 x = bsum b 255 :=
  ⟨⟨h.nn, fun i hi _ => h.low i (by omega), by have := h.low 0 (by omega); omega, by have := h.at_; simp at this; omega⟩, h.vl⟩
/-! ### and back: limbs to bytes -/
def lbit (x : Nat → Int) (i : Nat) : Int := x (i / 13) / 2 ^ (i % 13) % 2
def lsum (x : Nat → Int) : Nat → Int
  | 0 => 0
  | n + 1 => lsum x n + lbit x n * 2 ^ n
theorem lbit_01 (x : Nat → Int) (i : Nat) : 0 ≤ lbit x i ∧ lbit x i ≤ 1 := by unfold lbit; omega
theorem lsum_limb (b : Nat → Int) (n : Nat) (j : Nat) (hj : j ≤ 13) : lsum b (13 * n + j) = lsum b (13 * n) + (b n % 2 ^ j) * 8192 ^ n := by
  induction j with
  | zero => simp [Int.emod_one]
  | succ j ih =>
    rw [show 13 * n + (j + 1) = (13 * n + j) + 1 by omega, lsum, ih (by omega)]
    have e1 : lbit b (13 * n + j) = b n / 2 ^ j % 2 := by
      unfold lbit
      rw [show (13 * n + j) / 13 = n by omega, show (13 * n + j) % 13 = j by omega]
    have e2 : (2 : Int) ^ (13 * n + j) = 8192 ^ n * 2 ^ j := by rw [Int.pow_add, Int.pow_mul, show (2 : Int) ^ 13 = 8192 by decide]
    have e3 : b n % 2 ^ (j + 1) = b n % 2 ^ j + b n / 2 ^ j % 2 * 2 ^ j := by
      have : j = 0 ∨ j = 1 ∨ j = 2 ∨ j = 3 ∨ j = 4 ∨ j = 5 ∨ j = 6 ∨ j = 7 ∨ j = 8 ∨ j = 9 ∨ j = 10 ∨ j = 11 ∨ j = 12 := by omega
      rcases this with h | h | h | h | h | h | h | h | h | h | h | h | h <;> subst h <;> simp <;> omega
    rw [e1, e2, e3]; grind
theorem lsum_limbs (b : Nat → Int) (n : Nat) (hb : ∀ i, i < n → 0 ≤ b i ∧ b i ≤ 8191) : lsum b (13 * n) = lval n b := by
  induction n with
  | zero => rfl
  | succ n ih =>
    rw [show 13 * (n + 1) = 13 * n + 13 by omega, lsum_limb b n 13 (by omega), ih (fun i hi => hb i (by omega))]
    have := hb n (by omega)
    simp only [lval]
    rw [show b n % 2 ^ 13 = b n by simp; omega]
theorem lsum_255 (b : Nat → Int) (hn : ∀ i, i < 20 → 0 ≤ b i) (hb : ∀ i, i < 19 → b i ≤ 8191) (ht : b 19 ≤ 255) : lsum b 255 = lval 20 b := by
  have := lsum_limb b 19 8 (by omega)
  rw [show 13 * 19 + 8 = 255 by rfl, show 13 * 19 = 247 by rfl] at this
  rw [this]
  have h2 := lsum_limbs b 19 (fun i hi => ⟨hn i (by omega), hb i hi⟩)
  rw [show 13 * 19 = 247 by rfl] at h2
  have := hn 19 (by omega)
  rw [h2, show b 19 % 2 ^ 8 = b 19 by simp; omega]; rfl
theorem bval_congr {n : Nat} {f g : Nat → Int} (h : ∀ i, i < n → f i = g i) : bval n f = bval n g := by
  induction n with
  | zero => rfl
  | succ n ih => simp only [bval]; rw [ih (fun i hi => h i (by omega)), h n (by omega)]
theorem bval_upd (n : Nat) (f : Nat → Int) (i : Nat) (z : Int) (h : i < n) : bval n (upd f i z) = bval n f + (z - f i) * 256 ^ i := by
  induction n with
  | zero => omega
  | succ n ih =>
    simp only [bval]
    by_cases hi : i = n
    · subst hi
      rw [bval_congr (g := f) (fun j hj => by simp [upd]; omega)]
      simp [upd]; grind
    · rw [ih (by omega)]
      have : upd f i z n = f n := by simp [upd]; omega
      rw [this]; omega
theorem bval_zero (n : Nat) : bval n (fun _ => 0) = 0 := by
  induction n with
  | zero => rfl
  | succ n ih => simp [bval, ih]
/-- The bytes behind i bits. -/
structure FilledB (x : Nat → Int) (i : Nat) (b : Nat → Int) : Prop where
  nn : ∀ l, l < 32 → 0 ≤ b l
  low : ∀ l, l < i / 8 → b l ≤ 255
  at_ : b (i / 8) < 2 ^ (i % 8)
  high : ∀ l, i / 8 < l → b l = 0
  vl : bval 32 b = lsum x i
theorem FilledB.start (x : Nat → Int) : FilledB x 0 (fun _ => 0) := ⟨fun _ _ => by omega, fun _ h => by omega, by simp, fun _ _ => rfl, by rw [bval_zero]; rfl⟩
theorem pow8 (j : Nat) (h : j < 8) : (2 : Int) ^ (j + 1) ≤ 256 ∧ (2 : Int) ^ j ≤ 128 := by
  have : j = 0 ∨ j = 1 ∨ j = 2 ∨ j = 3 ∨ j = 4 ∨ j = 5 ∨ j = 6 ∨ j = 7 := by omega
  rcases this with e | e | e | e | e | e | e | e <;> rw [e] <;> decide
theorem FilledB.step {x b : Nat → Int} {i : Nat} (h : FilledB x i b) (hi : i < 255) : FilledB x (i + 1) (upd b (i / 8) (b (i / 8) + lbit x i * 2 ^ (i % 8))) := by
  have h1 := lbit_01 x i
  have h2 := h.at_
  have h3 := h.nn (i / 8) (by omega)
  have hp : (0 : Int) < 2 ^ (i % 8) := Int.pow_pos (by omega)
  have h4 : 0 ≤ lbit x i * 2 ^ (i % 8) ∧ lbit x i * 2 ^ (i % 8) ≤ 2 ^ (i % 8) := by
    have : lbit x i = 0 ∨ lbit x i = 1 := by omega
    rcases this with e | e <;> rw [e] <;> omega
  have h5 : b (i / 8) + lbit x i * 2 ^ (i % 8) < 2 ^ (i % 8 + 1) := by rw [Int.pow_succ]; omega
  have h6 := (pow8 (i % 8) (by omega)).1
  refine ⟨fun l hl => ?_, fun l hl => ?_, ?_, fun l hl => ?_, ?_⟩
  · by_cases e : l = i / 8
    · subst e; simp [upd]; omega
    · simp [upd, e]; exact h.nn l hl
  · by_cases e : l = i / 8
    · subst e; simp [upd]; omega
    · simp [upd, e]; exact h.low l (by omega)
  · by_cases e : (i + 1) / 8 = i / 8
    · rw [e]; simp only [upd, if_true]; rw [show (i + 1) % 8 = i % 8 + 1 by omega]; exact h5
    · simp only [upd, e, if_false]; rw [h.high _ (by omega)]; exact Int.pow_pos (by omega)
  · have e : ¬ l = i / 8 := by omega
    simp only [upd, e, if_false]; exact h.high l (by omega)
  · rw [bval_upd 32 b (i / 8) _ (by omega), h.vl]
    simp only [lsum]
    have : (2 : Int) ^ i = 2 ^ (i % 8) * 256 ^ (i / 8) := by
      rw [show (256 : Int) = 2 ^ 8 by decide, ← Int.pow_mul, ← Int.pow_add]; congr 1; omega
    rw [this]; grind
theorem FilledB.done {x b : Nat → Int} (h : FilledB x 255 b) : (∀ i, i < 32 → 0 ≤ b i ∧ b i ≤ 255) ∧ bval 32 b = lsum x 255 :=
  ⟨fun i hi => ⟨h.nn i hi, by
    by_cases e : i = 31
    · subst e; have := h.at_; simp at this; omega
    · exact h.low i (by omega)⟩, h.vl⟩
theorem bits_and_1 (x : Int) (h0 : 0 ≤ x) (h1 : x < 4294967296) : bits .and .u32 x 1 = x % 2 := bits_mask .u32 32 (by decide) wraps_u32 1 (by decide) x h0 h1
theorem shr_bd {x : Int} (j : Nat) (h0 : 0 ≤ x) (h1 : x < 4294967296) : 0 ≤ x / 2 ^ j ∧ x / 2 ^ j < 4294967296 := by
  have hp : (0 : Int) < 2 ^ j := Int.pow_pos (by omega)
  exact ⟨Int.ediv_nonneg h0 (by omega), by have := Int.ediv_le_self (2 ^ j) h0; omega⟩
theorem u8_248 (n : Nat) (h : n < 256) : bits .and .u8 (n : Int) 248 = (n : Int) / 8 * 8 := by
  revert n; decide +kernel
theorem u8_127 (n : Nat) (h : n < 256) : bits .and .u8 (n : Int) 127 = (n : Int) % 128 := by
  revert n; decide +kernel
theorem u8_or64 (n : Nat) (h : n < 256) : bits .or .u8 ((n : Int) % 128) 64 = (n : Int) % 64 + 64 := by
  revert n; decide +kernel
/-- A bit laid above what is there. -/
theorem or_bit (x c : Int) (j : Nat) (hx : 0 ≤ x) (hx1 : x < 2 ^ j) (hc : 0 ≤ c ∧ c ≤ 1) (hj : j < 13) : bits .or .u32 x (c * 2 ^ j) = x + c * 2 ^ j := by
  have h2 : (2 : Int) ^ j ≤ 4096 := by
    have : j = 0 ∨ j = 1 ∨ j = 2 ∨ j = 3 ∨ j = 4 ∨ j = 5 ∨ j = 6 ∨ j = 7 ∨ j = 8 ∨ j = 9 ∨ j = 10 ∨ j = 11 ∨ j = 12 := by omega
    rcases this with e | e | e | e | e | e | e | e | e | e | e | e | e <;> rw [e] <;> decide
  have hp : (0 : Int) < 2 ^ j := Int.pow_pos (by omega)
  have h4 : 0 ≤ c * 2 ^ j ∧ c * 2 ^ j ≤ 2 ^ j := by
    have : c = 0 ∨ c = 1 := by omega
    rcases this with e | e <;> rw [e] <;> omega
  have hcm : bits .or .u32 x (c * 2 ^ j) = bits .or .u32 (c * 2 ^ j) x := by simp only [bits, BitVec.or_comm]
  rw [hcm, bits_join .u32 32 (by decide) wraps_u32 j (c * 2 ^ j) x h4.1 (by simp) (by omega) hx hx1 (by omega), Int.add_comm]
theorem or_bit8 (x c : Int) (j : Nat) (hx : 0 ≤ x) (hx1 : x < 2 ^ j) (hc : 0 ≤ c ∧ c ≤ 1) (hj : j < 8) : bits .or .u8 x (c * 2 ^ j) = x + c * 2 ^ j := by
  have h2 := (pow8 j hj).2
  have hp : (0 : Int) < 2 ^ j := Int.pow_pos (by omega)
  have h4 : 0 ≤ c * 2 ^ j ∧ c * 2 ^ j ≤ 2 ^ j := by
    have : c = 0 ∨ c = 1 := by omega
    rcases this with e | e <;> rw [e] <;> omega
  have hcm : bits .or .u8 x (c * 2 ^ j) = bits .or .u8 (c * 2 ^ j) x := by simp only [bits, BitVec.or_comm]
  rw [hcm, bits_join .u8 8 (by decide) wraps_u8 j (c * 2 ^ j) x h4.1 (by simp) (by omega) hx hx1 (by omega), Int.add_comm]
theorem bit_pow {c : Int} (j : Nat) (hc : 0 ≤ c ∧ c ≤ 1) (hj : j < 13) : c * 2 ^ j % 4294967296 = c * 2 ^ j := by
  have h2 : (2 : Int) ^ j ≤ 4096 := by
    have : j = 0 ∨ j = 1 ∨ j = 2 ∨ j = 3 ∨ j = 4 ∨ j = 5 ∨ j = 6 ∨ j = 7 ∨ j = 8 ∨ j = 9 ∨ j = 10 ∨ j = 11 ∨ j = 12 := by omega
    rcases this with e | e | e | e | e | e | e | e | e | e | e | e | e <;> rw [e] <;> decide
  have hp : (0 : Int) < 2 ^ j := Int.pow_pos (by omega)
  have : c = 0 ∨ c = 1 := by omega
  rcases this with e | e <;> rw [e] <;> omega
theorem bit_pow8 {c : Int} (j : Nat) (hc : 0 ≤ c ∧ c ≤ 1) (hj : j < 8) : c * 2 ^ j % 256 = c * 2 ^ j := by
  have h2 := (pow8 j hj).2
  have hp : (0 : Int) < 2 ^ j := Int.pow_pos (by omega)
  have : c = 0 ∨ c = 1 := by omega
  rcases this with e | e <;> rw [e] <;> omega
end Go.Msg
