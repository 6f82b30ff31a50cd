/- Plain mathematics: numbers in limbs of 13 bits. -/
import Derived.Test.YtogkchcclcbobaaBase
namespace Go.Msg
def lval : Nat → (Nat → Int) → Int
  | 0, _ => 0
  | n + 1, f => lval n f + f n * 8192 ^ n
theorem val_congr {n : Nat} {f g : Nat → Int} (h : ∀ i, i < n → f i = g i) : lval n f = lval n g := by
  induction n with
  | zero => rfl
  | succ n ih => simp only [lval]; rw [ih (fun i hi => h i (by omega)), h n (by omega)]
theorem val_upd (n : Nat) (f : Nat → Int) (i : Nat) (z : Int) (h : i < n) : lval n (upd f i z) = lval n f + (z - f i) * 8192 ^ i := by
  induction n with
  | zero => omega
  | succ n ih =>
    simp only [lval]
    by_cases hi : i = n
    · subst hi
      rw [val_congr (g := f) (fun j hj => by simp [upd]; omega)]
      simp [upd]; grind
    · rw [ih (by omega)]
      have : upd f i z n = f n := by simp [upd]; omega
      rw [this]; omega
theorem val_nonneg {n : Nat} {f : Nat → Int} (h : ∀ i, i < n → 0 ≤ f i) : 0 ≤ lval n f := by
  induction n with
  | zero => simp [lval]
  | succ n ih =>
    simp only [lval]
    have h1 := ih (fun i hi => h i (by omega))
    have h2 : 0 ≤ f n * 8192 ^ n := Int.mul_nonneg (h n (by omega)) (Int.pow_nonneg (by omega))
    omega
theorem val_lt {n : Nat} {f : Nat → Int} (h : ∀ i, i < n → 0 ≤ f i ∧ f i ≤ 8191) : lval n f < 8192 ^ n := by
  induction n with
  | zero => simp [lval]
  | succ n ih =>
    simp only [lval]
    have h1 := ih (fun i hi => h i (by omega))
    have h2 : f n * 8192 ^ n ≤ 8191 * 8192 ^ n := Int.mul_le_mul_of_nonneg_right (h n (by omega)).2 (Int.pow_nonneg (by omega))
    rw [Int.pow_succ]; omega
theorem val_add (n : Nat) (f g : Nat → Int) : lval n (fun i => f i + g i) = lval n f + lval n g := by
  induction n with
  | zero => rfl
  | succ n ih => simp only [lval]; rw [ih]; grind
theorem val_smul (n : Nat) (c : Int) (f : Nat → Int) : lval n (fun i => c * f i) = c * lval n f := by
  induction n with
  | zero => simp [lval]
  | succ n ih => simp only [lval]; rw [ih]; grind
theorem val_shift (m n : Nat) (f : Nat → Int) : lval (m + n) f = lval m f + 8192 ^ m * lval n (fun i => f (m + i)) := by
  induction n with
  | zero => simp [lval]
  | succ n ih =>
    rw [show m + (n + 1) = (m + n) + 1 by omega]
    simp only [lval]; rw [ih, Int.pow_add]; grind
/-- One carry. -/
def carry1 (x : Nat → Int) (k : Nat) : Nat → Int := upd (upd x (k + 1) (x (k + 1) + x k / 8192)) k (x k % 8192)
theorem val_carry1 (n : Nat) (x : Nat → Int) (k : Nat) (h : k + 1 < n) : lval n (carry1 x k) = lval n x := by
  unfold carry1
  rw [val_upd n _ k _ (by omega), val_upd n _ (k + 1) _ h]
  have e : upd x (k + 1) (x (k + 1) + x k / 8192) k = x k := by simp [upd]
  rw [e, Int.pow_succ]
  have := Int.mul_ediv_add_emod (x k) 8192
  generalize x k / 8192 = q at *
  generalize x k % 8192 = r at *
  rw [← this]; grind
/-- After k carries of f. -/
structure Carried (n : Nat) (f : Nat → Int) (k : Nat) (x : Nat → Int) : Prop where
  low : ∀ i, i < k → 0 ≤ x i ∧ x i ≤ 8191
  at_ : 0 ≤ x k ∧ x k ≤ f k + 524287
  high : ∀ i, k < i → x i = f i
  vl : lval n x = lval n f
theorem Carried.start (n : Nat) (f : Nat → Int) (h : 0 ≤ f 0) : Carried n f 0 f := ⟨fun i hi => by omega, ⟨h, by omega⟩, fun _ _ => rfl, rfl⟩
theorem Carried.step {n : Nat} {f x : Nat → Int} {k : Nat} (h : Carried n f k x) (hk : k + 1 < n) (hf : ∀ i, i < n → 0 ≤ f i ∧ f i ≤ 4294443008) : Carried n f (k + 1) (carry1 x k) := by
  have h0 := h.at_
  have h1 := h.high (k + 1) (by omega)
  have h2 := hf k (by omega)
  have h3 := hf (k + 1) hk
  refine ⟨fun i hi => ?_, ?_, fun i hi => ?_, by rw [val_carry1 n x k hk]; exact h.vl⟩
  · by_cases e : i = k
    · subst e; simp [carry1, upd]; omega
    · have := h.low i (by omega)
      have e2 : ¬ i = k + 1 := by omega
      simp [carry1, upd, e, e2]; exact this
  · simp [carry1, upd]; rw [h1]; omega
  · have e1 : ¬ i = k := by omega
    have e2 : ¬ i = k + 1 := by omega
    simp [carry1, upd, e1, e2]; exact h.high i (by omega)
/-- The prime. -/
def P25519 : Int := 57896044618658097711785492504343953926634992332820282019728792003956564819949
/-- A number in limbs as every function of package curve takes it and leaves it. -/
structure Tidy (f : Nat → Int) : Prop where
  nn : ∀ i, i < 20 → 0 ≤ f i
  le : ∀ i, i < 19 → 1 ≤ i → f i ≤ 8191
  le0 : f 0 ≤ 8210
  top : f 19 ≤ 255
theorem wraps_u32 (n : Int) (h₀ : 0 ≤ n) (h₁ : n < 2 ^ 32) : IntKind.u32.wrap n = n := by rw [IntKind.wrap_u32]; omega
theorem bits_and_8191 (x : Int) (h0 : 0 ≤ x) (h1 : x < 4294967296) : bits .and .u32 x 8191 = x % 8192 := bits_mask .u32 32 (by decide) wraps_u32 13 (by decide) x h0 h1
theorem bits_and_255 (x : Int) (h0 : 0 ≤ x) (h1 : x < 4294967296) : bits .and .u32 x 255 = x % 256 := bits_mask .u32 32 (by decide) wraps_u32 8 (by decide) x h0 h1
def wrap1 (x : Nat → Int) : Nat → Int := upd (upd x 19 (x 19 % 256)) 0 (x 0 + 19 * (x 19 / 256))
theorem val_wrap1 (x : Nat → Int) : lval 20 (wrap1 x) = lval 20 x - (x 19 / 256) * P25519 := by
  unfold wrap1
  rw [val_upd 20 _ 0 _ (by omega), val_upd 20 _ 19 _ (by omega)]
  have e : upd x 19 (x 19 % 256) 0 = x 0 := by simp [upd]
  rw [e]
  unfold P25519
  have := Int.mul_ediv_add_emod (x 19) 256
  generalize x 19 / 256 = q at *
  generalize x 19 % 256 = r at *
  rw [← this, show (8192 : Int) ^ 19 = 226156424291633194186662080095093570025917938800079226639565593765455331328 by decide]
  omega
theorem emod_sub_mul (a q p : Int) : (a - q * p) % p = a % p := by
  rw [Int.sub_eq_add_neg, ← Int.neg_mul]; exact Int.add_mul_emod_self_right ..
/-- What lies in the limbs of 'tidy' behind k passes over f. -/
structure TidyAt (f : Nat → Int) (k : Nat) (x : Nat → Int) : Prop where
  nn : ∀ i, i < 20 → 0 ≤ x i
  zero : k = 0 → ∀ i, i < 20 → x i ≤ 4294443008
  one : 1 ≤ k → (∀ i, i < 19 → 1 ≤ i → x i ≤ 8191) ∧ x 19 ≤ 255 ∧ x 0 ≤ 318775295
  two : 2 ≤ k → x 0 ≤ 8210
  vl : lval 20 x % P25519 = lval 20 f % P25519
theorem TidyAt.bound {f x : Nat → Int} {k : Nat} (h : TidyAt f k x) : ∀ i, i < 20 → 0 ≤ x i ∧ x i ≤ 4294443008 := fun i hi => by
  refine ⟨h.nn i hi, ?_⟩
  by_cases hk : k = 0
  · exact h.zero hk i hi
  · obtain ⟨h1, h2, h3⟩ := h.one (by omega)
    by_cases h0 : i = 0
    · subst h0; omega
    · by_cases h19 : i = 19
      · subst h19; omega
      · have := h1 i (by omega) (by omega); omega
theorem TidyAt.start {f : Nat → Int} (hf : ∀ i, i < 20 → 0 ≤ f i ∧ f i ≤ 4294443008) : TidyAt f 0 f :=
  ⟨fun i hi => (hf i hi).1, fun _ i hi => (hf i hi).2, fun h => by omega, fun h => by omega, rfl⟩
theorem val_top {x : Nat → Int} (h : ∀ i, i < 20 → 0 ≤ x i) : x 19 * 8192 ^ 19 ≤ lval 20 x := by
  have := val_nonneg (n := 19) (f := x) (fun i hi => h i (by omega))
  simp only [lval] at *; omega
theorem TidyAt.step {f x x' : Nat → Int} {k : Nat} (h : TidyAt f k x) (hk : k < 2) (hc : Carried 20 x 19 x') : TidyAt f (k + 1) (wrap1 x') ∧ x' 19 < 4294967296 ∧ x' 0 + 19 * (x' 19 / 256) < 4294967296 := by
  have hb := h.bound
  have h19 := hc.at_
  have hb19 := hb 19 (by omega)
  have h0 := hc.low 0 (by omega)
  have nn : ∀ i, i < 20 → 0 ≤ x' i := fun i hi => by
    by_cases e : i = 19
    · subst e; exact h19.1
    · exact (hc.low i (by omega)).1
  have key : 1 ≤ k → x' 19 ≤ 256 := fun hk1 => by
    obtain ⟨h1, h2, h3⟩ := h.one hk1
    have e1 := val_upd 20 x 0 0 (by omega)
    have e2 := val_lt (n := 19) (f := upd x 0 0) (fun i hi => by
      by_cases e : i = 0
      · subst e; simp [upd]
      · simp only [upd, e, if_false]; exact ⟨h.nn i (by omega), h1 i hi (by omega)⟩)
    have e3 : lval 20 (upd x 0 0) = lval 19 (upd x 0 0) + x 19 * 8192 ^ 19 := by simp [lval, upd]
    have e4 := val_top nn
    rw [hc.vl] at e4
    rw [show (8192 : Int) ^ 19 = 226156424291633194186662080095093570025917938800079226639565593765455331328 by decide] at *
    omega
  refine ⟨⟨fun i hi => ?_, fun e => by omega, fun _ => ⟨fun i hi h1 => ?_, ?_, ?_⟩, fun h2 => ?_, ?_⟩, by omega, by omega⟩
  · have := nn i hi
    by_cases e0 : i = 0
    · subst e0; simp [wrap1, upd]; omega
    · by_cases e : i = 19
      · subst e; simp [wrap1, upd]; omega
      · simp [wrap1, upd, e0, e]; exact this
  · have := hc.low i hi
    have e0 : ¬ i = 0 := by omega
    have e : ¬ i = 19 := by omega
    simp [wrap1, upd, e0, e]; exact this.2
  · simp [wrap1, upd]; omega
  · simp [wrap1, upd]; omega
  · have := key (by omega)
    simp [wrap1, upd]; omega
  · rw [val_wrap1, emod_sub_mul, hc.vl, h.vl]
theorem TidyAt.tidy {f x : Nat → Int} (h : TidyAt f 2 x) : Tidy x := ⟨h.nn, (h.one (by omega)).1, h.two (by omega), (h.one (by omega)).2.1⟩
theorem Tidy.le' {f : Nat → Int} (h : Tidy f) : ∀ i, i < 20 → 0 ≤ f i ∧ f i ≤ 8210 := fun i hi => by
  refine ⟨h.nn i hi, ?_⟩
  by_cases h0 : i = 0
  · subst h0; exact h.le0
  · by_cases h19 : i = 19
    · subst h19; have := h.top; omega
    · have := h.le i (by omega) (by omega); omega
/-- The least number: what 'least' answers. -/
theorem least_math {f g x y : Nat → Int} (hf : Tidy f) (hg : g = upd f 0 (f 0 + 19)) (hx : Carried 20 g 19 x) (hy : Carried 20 (upd f 0 (f 0 + 19 * (x 19 / 256))) 19 y) :
    (∀ i, i < 20 → 0 ≤ upd y 19 (y 19 % 256) i) ∧ (∀ i, i < 19 → upd y 19 (y 19 % 256) i ≤ 8191) ∧ upd y 19 (y 19 % 256) 19 ≤ 255 ∧ lval 20 (upd y 19 (y 19 % 256)) = lval 20 f % P25519 := by
  have e1 := val_upd 20 f 0 (f 0 + 19) (by omega)
  have e2 := val_upd 20 f 0 (f 0 + 19 * (x 19 / 256)) (by omega)
  have e3 := val_upd 20 y 19 (y 19 % 256) (by omega)
  have nnx : ∀ i, i < 20 → 0 ≤ x i := fun i hi => by
    by_cases e : i = 19
    · subst e; exact hx.at_.1
    · exact (hx.low i (by omega)).1
  have nny : ∀ i, i < 20 → 0 ≤ y i := fun i hi => by
    by_cases e : i = 19
    · subst e; exact hy.at_.1
    · exact (hy.low i (by omega)).1
  have hfv : 0 ≤ lval 20 f := val_nonneg hf.nn
  have b1 := val_lt (n := 19) (f := x) (fun i hi => hx.low i hi)
  have b2 := val_lt (n := 19) (f := y) (fun i hi => hy.low i hi)
  have b3 := val_nonneg (n := 19) (f := x) (fun i hi => nnx i (by omega))
  have b4 := val_nonneg (n := 19) (f := y) (fun i hi => nny i (by omega))
  have t1 : lval 20 x = lval 19 x + x 19 * 8192 ^ 19 := rfl
  have t2 : lval 20 y = lval 19 y + y 19 * 8192 ^ 19 := rfl
  have hfu : lval 20 f ≤ 57896044618658097711785492504343953926634992332820282019728792003956564828177 := by
    have u1 := val_upd 20 f 0 0 (by omega)
    have u2 := val_lt (n := 19) (f := upd f 0 0) (fun i hi => by
      by_cases e : i = 0
      · subst e; simp [upd]
      · simp only [upd, e, if_false]; exact ⟨hf.nn i (by omega), hf.le i hi (by omega)⟩)
    have u3 : lval 20 (upd f 0 0) = lval 19 (upd f 0 0) + f 19 * 8192 ^ 19 := by simp [lval, upd]
    have := hf.top; have := hf.le0
    rw [show (8192 : Int) ^ 19 = 226156424291633194186662080095093570025917938800079226639565593765455331328 by decide] at *
    omega
  have hxv := hx.vl
  have hyv := hy.vl
  subst hg
  unfold P25519
  refine ⟨fun i hi => ?_, fun i hi => ?_, ?_, ?_⟩
  · have := nny i hi
    by_cases e : i = 19
    · subst e; simp [upd]; omega
    · simp [upd, e]; exact this
  · have e : ¬ i = 19 := by omega
    simp [upd, e]; exact (hy.low i hi).2
  · simp [upd]; omega
  · rw [e3]
    rw [show (8192 : Int) ^ 19 = 226156424291633194186662080095093570025917938800079226639565593765455331328 by decide] at *
    simp only [Int.pow_zero] at *
    have he : x 19 / 256 = 0 ∨ x 19 / 256 = 1 := by omega
    have hy19 := nny 19 (by omega)
    have hx19 := nnx 19 (by omega)
    clear e3 nnx nny hx hy hf
    generalize lval 20 f = V at *
    generalize lval 20 (upd f 0 (f 0 + 19)) = D at *
    generalize lval 20 (upd f 0 (f 0 + 19 * (x 19 / 256))) = E at *
    generalize lval 20 x = Vx at *
    generalize lval 20 y = Vy at *
    generalize lval 19 x = Lx at *
    generalize lval 19 y = Ly at *
    rcases he with he | he
    · have h1 : V % 57896044618658097711785492504343953926634992332820282019728792003956564819949 = V := by omega
      rw [h1]
      have h2 : y 19 < 256 := by omega
      have h3 : y 19 % 256 = y 19 := by omega
      rw [h3]; omega
    · have h1 : V % 57896044618658097711785492504343953926634992332820282019728792003956564819949 = V - 57896044618658097711785492504343953926634992332820282019728792003956564819949 := by omega
      rw [h1]
      have h2 : y 19 = 256 := by omega
      rw [h2]; omega
/-- The first k limbs of f with g's added. -/
def addTo (f g : Nat → Int) (k : Nat) : Nat → Int := fun i => if i < k then f i + g i else f i
theorem addTo_step (f g : Nat → Int) (k : Nat) : upd (addTo f g k) k (f k + g k) = addTo f g (k + 1) := by
  funext i
  unfold upd addTo
  by_cases h : i = k
  · subst h; simp
  · by_cases h2 : i < k
    · simp [h, h2, show i < k + 1 by omega]
    · simp [h, h2, show ¬ i < k + 1 by omega]
theorem addTo_zero (f g : Nat → Int) : addTo f g 0 = f := by funext i; simp [addTo]
theorem addTo_at (f g : Nat → Int) (k : Nat) : addTo f g k k = f k := by simp [addTo]
theorem addTo_lval (f g : Nat → Int) (n : Nat) : lval n (addTo f g n) = lval n f + lval n g := by
  rw [← val_add]; exact val_congr (fun i hi => by simp [addTo, hi])
/-- The first k limbs of f times c. -/
def mulTo (c : Int) (f : Nat → Int) (k : Nat) : Nat → Int := fun i => if i < k then c * f i else f i
theorem mulTo_step (c : Int) (f : Nat → Int) (k : Nat) : upd (mulTo c f k) k (c * f k) = mulTo c f (k + 1) := by
  funext i
  unfold upd mulTo
  by_cases h : i = k
  · subst h; simp
  · by_cases h2 : i < k
    · simp [h, h2, show i < k + 1 by omega]
    · simp [h, h2, show ¬ i < k + 1 by omega]
theorem mulTo_zero (c : Int) (f : Nat → Int) : mulTo c f 0 = f := by funext i; simp [mulTo]
theorem mulTo_at (c : Int) (f : Nat → Int) (k : Nat) : mulTo c f k k = f k := by simp [mulTo]
theorem mulTo_lval (c : Int) (f : Nat → Int) (n : Nat) : lval n (mulTo c f n) = c * lval n f := by
  rw [← val_smul]; exact val_congr (fun i hi => by simp [mulTo, hi])
/-- 2p less g, limb by limb. -/
def from2p (g : Nat → Int) : Nat → Int := fun i => if i = 0 then 16346 - g 0 else if i = 19 then 510 - g 19 else 16382 - g i
theorem from2p_lval (g : Nat → Int) : lval 20 (from2p g) = 2 * P25519 - lval 20 g := by
  have h : lval 20 (from2p g) = lval 20 (fun i => (if i = 0 then 16346 else if i = 19 then 510 else 16382) + (-1) * g i) := val_congr (fun i hi => by
    unfold from2p
    by_cases h0 : i = 0
    · subst h0; simp; omega
    · by_cases h19 : i = 19
      · subst h19; simp; omega
      · simp [h0, h19]; omega)
  rw [h, val_add, val_smul]
  have : lval 20 (fun i => if i = 0 then (16346 : Int) else if i = 19 then 510 else 16382) = 2 * P25519 := by decide
  rw [this]; omega
/-- The columns of a product, behind i rows and j cells of the next. -/
structure Cols (f g : Nat → Int) (i j : Nat) (W : Nat → Int) : Prop where
  nn : ∀ c, c < 40 → 0 ≤ W c
  hi : ∀ c, c < 40 → i + j ≤ c → W c ≤ i * 67404100
  all : ∀ c, c < 40 → W c ≤ (i + 1) * 67404100
  z : W 39 = 0
  vl : lval 40 W = lval i f * lval 20 g + f i * 8192 ^ i * lval j g
theorem mul_bd {a b : Int} (h1 : 0 ≤ a) (h2 : a ≤ 8210) (h3 : 0 ≤ b) (h4 : b ≤ 8210) : 0 ≤ a * b ∧ a * b ≤ 67404100 :=
  ⟨Int.mul_nonneg h1 h3, by have := Int.mul_le_mul h2 h4 h3 (by omega); omega⟩
theorem lval_zero (n : Nat) : lval n (fun _ => 0) = 0 := by
  induction n with
  | zero => rfl
  | succ n ih => simp [lval, ih]
theorem Cols.start (f g : Nat → Int) : Cols f g 0 0 (fun _ => 0) := ⟨fun _ _ => by omega, fun _ _ _ => by omega, fun _ _ => by omega, rfl, by rw [lval_zero]; simp [lval]⟩
theorem Cols.step {f g W : Nat → Int} {i j : Nat} (h : Cols f g i j W) (hi : i < 20) (hj : j < 20) (hf : Tidy f) (hg : Tidy g) : Cols f g i (j + 1) (upd W (i + j) (W (i + j) + f i * g j)) := by
  have h1 := hf.le' i hi
  have h2 := hg.le' j hj
  have h3 := mul_bd h1.1 h1.2 h2.1 h2.2
  have h4 := h.nn (i + j) (by omega)
  have h5 := h.hi (i + j) (by omega) (by omega)
  refine ⟨fun c hc => ?_, fun c hc hl => ?_, fun c hc => ?_, ?_, ?_⟩
  · by_cases e : c = i + j
    · subst e; simp [upd]; omega
    · simp [upd, e]; exact h.nn c hc
  · have e : ¬ c = i + j := by omega
    simp [upd, e]; exact h.hi c hc (by omega)
  · by_cases e : c = i + j
    · subst e; simp [upd]; omega
    · simp [upd, e]; exact h.all c hc
  · have e : ¬ 39 = i + j := by omega
    simp [upd, e]; exact h.z
  · rw [val_upd 40 W (i + j) _ (by omega), h.vl]
    simp only [lval]
    rw [Int.pow_add]; grind
theorem Cols.row {f g W : Nat → Int} {i : Nat} (h : Cols f g i 20 W) : Cols f g (i + 1) 0 W := by
  refine ⟨h.nn, fun c hc _ => ?_, fun c hc => ?_, h.z, ?_⟩
  · have := h.all c hc; simpa using this
  · have := h.all c hc; simp; omega
  · rw [h.vl]; simp only [lval]; grind
theorem Cols.bd {f g W : Nat → Int} {i j : Nat} (h : Cols f g i j W) (hi : i < 20) (c : Nat) (hc : c < 40) : 0 ≤ W c ∧ W c ≤ 1348082000 := by
  have := h.all c hc; have := h.nn c hc; omega
/-- The twenty limbs out of forty. -/
def fold20 (x : Nat → Int) (k : Nat) : Nat → Int := fun i => if i < k then x i + 608 * x (20 + i) else 0
theorem fold20_step (x : Nat → Int) (k : Nat) : upd (fold20 x k) k (x k + 608 * x (20 + k)) = fold20 x (k + 1) := by
  funext i
  unfold upd fold20
  by_cases h : i = k
  · subst h; simp
  · by_cases h2 : i < k
    · simp [h, h2, show i < k + 1 by omega]
    · simp [h, h2, show ¬ i < k + 1 by omega]
theorem fold20_zero (x : Nat → Int) : fold20 x 0 = fun _ => 0 := by funext i; simp [fold20]
theorem fold20_lval (x : Nat → Int) : lval 20 (fold20 x 20) % P25519 = lval 40 x % P25519 := by
  have e : lval 20 (fold20 x 20) = lval 20 x + 608 * lval 20 (fun i => x (20 + i)) := by
    rw [← val_smul, ← val_add]; exact val_congr (fun i hi => by simp [fold20, hi])
  have e2 := val_shift 20 20 x
  rw [show (20 + 20 : Nat) = 40 by rfl] at e2
  rw [e, e2, show (8192 : Int) ^ 20 = 608 + 32 * P25519 by decide]
  rw [show lval 20 x + (608 + 32 * P25519) * lval 20 (fun i => x (20 + i)) = (lval 20 x + 608 * lval 20 (fun i => x (20 + i))) - (-32 * lval 20 (fun i => x (20 + i))) * P25519 by grind, emod_sub_mul]
end Go.Msg
