namespace Go.Msg
def Pr (n : Nat) : Prop := 2 ≤ n ∧ ∀ d, d ∣ n → d = 1 ∨ d = n
theorem Pr.coprime {p a : Nat} (h : Pr p) (ha : ¬ p ∣ a) : Nat.Coprime p a := by
  rcases h.2 _ (Nat.gcd_dvd_left p a) with e | e
  · exact e
  · exact absurd (e ▸ Nat.gcd_dvd_right p a) ha
theorem Pr.dvd_mul {p a b : Nat} (h : Pr p) (hab : p ∣ a * b) : p ∣ a ∨ p ∣ b := by
  by_cases ha : p ∣ a
  · exact Or.inl ha
  · exact Or.inr ((h.coprime ha).dvd_of_dvd_mul_left hab)
def cho : Nat → Nat → Nat
  | _, 0 => 1
  | 0, _ + 1 => 0
  | n + 1, k + 1 => cho n k + cho n (k + 1)
theorem cho_zero (n : Nat) : cho n 0 = 1 := by cases n <;> rfl
theorem cho_mul (n k : Nat) : cho (n + 1) (k + 1) * (k + 1) = (n + 1) * cho n k := by
  induction n generalizing k with
  | zero =>
    cases k with
    | zero => rfl
    | succ k => simp [cho]
  | succ n ih =>
    cases k with
    | zero =>
      have := ih 0
      rw [cho_zero] at this ⊢
      rw [cho, cho_zero]; omega
    | succ j =>
      have h1 := ih j
      have h2 := ih (j + 1)
      rw [cho]
      have e : cho (n + 1) (j + 1) = cho n j + cho n (j + 1) := rfl
      generalize cho (n + 1) (j + 2) = A at *
      generalize cho (n + 1) (j + 1) = B at *
      generalize cho n j = C at *
      generalize cho n (j + 1) = D at *
      subst e
      grind
theorem cho_over {n k : Nat} (h : n < k) : cho n k = 0 := by
  induction n generalizing k with
  | zero =>
    cases k with
    | zero => omega
    | succ k => rfl
  | succ n ih =>
    cases k with
    | zero => omega
    | succ k => rw [cho, ih (by omega), ih (by omega)]
theorem cho_self (n : Nat) : cho n n = 1 := by
  induction n with
  | zero => rfl
  | succ n ih => rw [cho, ih, cho_over (Nat.lt_succ_self n)]
def csum (n a : Nat) : Nat → Nat
  | 0 => 0
  | m + 1 => csum n a m + cho n m * a ^ m
theorem csum_succ (n a m : Nat) : csum (n + 1) a (m + 1) = csum n a (m + 1) + a * csum n a m := by
  induction m with
  | zero => simp [csum, cho_zero]
  | succ m ih =>
    rw [csum, ih, csum, csum, csum]
    have e : cho (n + 1) (m + 1) = cho n m + cho n (m + 1) := rfl
    rw [e, Nat.pow_succ]
    generalize a ^ m = A
    grind
theorem binom (n a : Nat) : (a + 1) ^ n = csum n a (n + 1) := by
  induction n with
  | zero => simp [csum, cho]
  | succ n ih =>
    rw [csum_succ, csum, cho_over (Nat.lt_succ_self n), Nat.pow_succ, ih]
    grind
theorem cho_dvd {p k : Nat} (h : Pr p) (h1 : 0 < k) (h2 : k < p) : p ∣ cho p k := by
  obtain ⟨n, rfl⟩ : ∃ n, p = n + 1 := ⟨p - 1, by omega⟩
  obtain ⟨j, rfl⟩ : ∃ j, k = j + 1 := ⟨k - 1, by omega⟩
  rcases h.dvd_mul (a := cho (n + 1) (j + 1)) (b := j + 1) ⟨_, cho_mul n j⟩ with e | e
  · exact e
  · exact absurd (Nat.le_of_dvd (by omega) e) (by omega)
theorem csum_mod {p : Nat} (h : Pr p) (a m : Nat) (hm : m < p) : csum p a (m + 1) % p = 1 := by
  induction m with
  | zero => simp [csum, cho_zero]; exact Nat.mod_eq_of_lt h.1
  | succ m ih =>
    rw [csum]
    have hd : p ∣ cho p (m + 1) * a ^ (m + 1) := Nat.dvd_trans (cho_dvd h (by omega) hm) (Nat.dvd_mul_right _ _)
    rw [Nat.add_mod, Nat.mod_eq_zero_of_dvd hd, Nat.add_zero, Nat.mod_mod, ih (by omega)]
theorem fermat_pow {p : Nat} (h : Pr p) (a : Nat) : a ^ p % p = a % p := by
  induction a with
  | zero => rw [Nat.zero_pow (by have := h.1; omega)]
  | succ a ih =>
    rw [binom, csum, cho_self, Nat.one_mul]
    have h2 := h.1
    obtain ⟨m, hm⟩ : ∃ m, p = m + 1 := ⟨p - 1, by omega⟩
    have e : csum p a p % p = 1 := by
      have := csum_mod h a m (by omega)
      rwa [← hm] at this
    rw [Nat.add_mod, e, ih, Nat.add_mod a 1, Nat.mod_eq_of_lt h2, Nat.add_comm]
theorem fermat {p : Nat} (h : Pr p) {a : Nat} (ha : ¬ p ∣ a) : a ^ (p - 1) % p = 1 := by
  have h2 := h.1
  have e := fermat_pow h a
  have hp : a ^ p = a ^ (p - 1) * a := by rw [← Nat.pow_succ]; congr 1; omega
  have hz : 1 ≤ a ^ (p - 1) := Nat.one_le_iff_ne_zero.2 (fun q => ha (by
    have : a = 0 := by
      rcases Nat.pow_eq_zero.1 q with ⟨q, _⟩
      exact q
    rw [this]; exact Nat.dvd_zero p))
  have hd : p ∣ (a ^ (p - 1) - 1) * a := by
    rw [Nat.sub_mul, Nat.one_mul, ← hp]
    exact Nat.dvd_of_mod_eq_zero (Nat.sub_mod_eq_zero_of_mod_eq e)
  rcases h.dvd_mul hd with q | q
  · obtain ⟨t, ht⟩ := q
    rw [show a ^ (p - 1) = 1 + p * t by omega, Nat.add_mul_mod_self_left, Nat.mod_eq_of_lt h2]
  · exact absurd q ha
theorem pow_one_mul {r b m : Nat} (h : b ^ m % r = 1 % r) (k : Nat) : b ^ (m * k) % r = 1 % r := by
  rw [Nat.pow_mul, Nat.pow_mod, h, ← Nat.pow_mod, Nat.one_pow]
theorem pow_gcd {r b : Nat} (m n : Nat) : b ^ m % r = 1 % r → b ^ n % r = 1 % r → b ^ (Nat.gcd m n) % r = 1 % r := by
  induction m, n using Nat.gcd.induction with
  | H0 n => intro _ h; rw [Nat.gcd_zero_left]; exact h
  | H1 m n hm ih =>
    intro h1 h2
    rw [Nat.gcd_rec]
    refine ih ?_ h1
    have e : b ^ n = b ^ (m * (n / m)) * b ^ (n % m) := by rw [← Nat.pow_add, Nat.div_add_mod]
    rw [e, Nat.mul_mod, pow_one_mul h1, ← Nat.mul_mod, Nat.one_mul] at h2
    exact h2
theorem least_factor (n : Nat) (h : 2 ≤ n) : ∃ r, Pr r ∧ r ∣ n ∧ (¬ Pr n → r * r ≤ n) := by
  induction n using Nat.strongRecOn with
  | ind n ih =>
    by_cases hp : Pr n
    · exact ⟨n, hp, Nat.dvd_refl n, fun q => absurd hp q⟩
    · have : ∃ d, d ∣ n ∧ d ≠ 1 ∧ d ≠ n := Classical.byContradiction (fun q => hp ⟨h, fun d hd => by
        by_cases e : d = 1
        · exact Or.inl e
        · by_cases e2 : d = n
          · exact Or.inr e2
          · exact absurd ⟨d, hd, e, e2⟩ q⟩)
      obtain ⟨d, ⟨e, he⟩, h1, h2⟩ := this
      have hd0 : d ≠ 0 := by intro q; subst q; omega
      have he0 : e ≠ 0 := by intro q; subst q; omega
      have he1 : e ≠ 1 := by intro q; subst q; omega
      by_cases hde : d ≤ e
      · obtain ⟨r, r1, r2, r3⟩ := ih d (by have : d * 2 ≤ d * e := Nat.mul_le_mul_left d (by omega); omega) (by omega)
        refine ⟨r, r1, Nat.dvd_trans r2 ⟨e, he⟩, fun _ => ?_⟩
        have hrd : r ≤ d := Nat.le_of_dvd (by omega) r2
        rw [he]; exact Nat.mul_le_mul hrd (by omega)
      · obtain ⟨r, r1, r2, r3⟩ := ih e (by have : 2 * e ≤ d * e := Nat.mul_le_mul_right e (by omega); omega) (by omega)
        refine ⟨r, r1, Nat.dvd_trans r2 ⟨d, by rw [he, Nat.mul_comm]⟩, fun _ => ?_⟩
        have hre : r ≤ e := Nat.le_of_dvd (by omega) r2
        rw [he]; exact Nat.mul_le_mul (by omega) hre
def pwm (n a : Nat) : Nat → Nat → Nat
  | 0, _ => 1
  | f + 1, e => let h := pwm n a f (e / 2); if e % 2 = 1 then h * h % n * a % n else h * h % n
theorem pwm_spec (n a : Nat) : ∀ f e, e < 2 ^ f → pwm n a f e % n = a ^ e % n := by
  intro f
  induction f with
  | zero => intro e he; have : e = 0 := by simpa using he
            subst this; rfl
  | succ f ih =>
    intro e he
    have hh := ih (e / 2) (by rw [Nat.pow_succ] at he; omega)
    have sq : pwm n a f (e / 2) * pwm n a f (e / 2) % n = a ^ (e / 2 + e / 2) % n := by rw [Nat.mul_mod, hh, ← Nat.mul_mod, ← Nat.pow_add]
    unfold pwm
    by_cases h1 : e % 2 = 1
    · simp only [h1, if_true]
      rw [Nat.mod_mod, sq, Nat.mod_mul_mod, ← Nat.pow_succ]
      congr 2; omega
    · simp only [h1, if_false]
      rw [Nat.mod_mod, sq]
      congr 2; omega
theorem pock {N F R a : Nat} (hN : N = F * R + 1) (hF1 : 1 < F) (hR : 0 < R) (hF : N < (F + 1) * (F + 1)) (ha : a ^ (F * R) % N = 1) (hq : ∀ q, Pr q → q ∣ F → Nat.gcd (a ^ (F * R / q) % N + (N - 1)) N = 1) : Pr N := by
  apply Classical.byContradiction
  intro hp
  have hN2 : 2 ≤ N := by
    have : 1 * 1 ≤ F * R := Nat.mul_le_mul (by omega) (by omega)
    omega
  obtain ⟨r, r1, r2, r3⟩ := least_factor N hN2
  have r3 := r3 hp
  have hr2 := r1.1
  have ha' : a ^ (F * R) % r = 1 % r := by
    have e : a ^ (F * R) % N % r = 1 % r := by rw [ha]
    rwa [Nat.mod_mod_of_dvd _ r2] at e
  have hra : ¬ r ∣ a := fun q => by
    have hd : a ∣ a ^ (F * R) := by
      have : 1 * 1 ≤ F * R := Nat.mul_le_mul (by omega) (by omega)
      obtain ⟨n, hn⟩ : ∃ n, F * R = n + 1 := ⟨F * R - 1, by omega⟩
      rw [hn, Nat.pow_succ]; exact Nat.dvd_mul_left a _
    have h0 : a ^ (F * R) % r = 0 := Nat.mod_eq_zero_of_dvd (Nat.dvd_trans q hd)
    rw [h0, Nat.mod_eq_of_lt hr2] at ha'
    omega
  have hf : a ^ (r - 1) % r = 1 % r := by rw [fermat r1 hra, Nat.mod_eq_of_lt hr2]
  have hb1 : (a ^ R) ^ F % r = 1 % r := by rw [← Nat.pow_mul, Nat.mul_comm R F]; exact ha'
  have hb2 : (a ^ R) ^ (r - 1) % r = 1 % r := by rw [← Nat.pow_mul, Nat.mul_comm R (r - 1)]; exact pow_one_mul hf R
  have hg := pow_gcd F (r - 1) hb1 hb2
  obtain ⟨k, hk⟩ := Nat.gcd_dvd_left F (r - 1)
  have hk0 : k ≠ 0 := by intro q; subst q; omega
  by_cases hk1 : k = 1
  · have : F ∣ r - 1 := by
      rw [hk1, Nat.mul_one] at hk
      exact hk ▸ Nat.gcd_dvd_right F (r - 1)
    have hle := Nat.le_of_dvd (by omega) this
    have : (F + 1) * (F + 1) ≤ r * r := Nat.mul_le_mul (by omega) (by omega)
    omega
  · obtain ⟨q, q1, ⟨j, hj⟩, _⟩ := least_factor k (by omega)
    generalize Nat.gcd F (r - 1) = g at *
    have hq0 : 0 < q := by have := q1.1; omega
    have hFq : F = q * (g * j) := by rw [hk, hj, ← Nat.mul_assoc, Nat.mul_comm g q, Nat.mul_assoc]
    have h1 := hq q q1 ⟨_, hFq⟩
    have hdiv : F * R / q = R * (g * j) := by
      rw [hFq, Nat.mul_assoc, Nat.mul_div_cancel_left _ hq0, Nat.mul_comm]
    have h2 : a ^ (F * R / q) % r = 1 % r := by
      rw [hdiv, Nat.pow_mul]
      exact pow_one_mul hg j
    have h3 : r ∣ a ^ (F * R / q) % N + (N - 1) := by
      apply Nat.dvd_of_mod_eq_zero
      rw [Nat.add_mod, Nat.mod_mod_of_dvd _ r2, h2, ← Nat.add_mod, show 1 + (N - 1) = N by omega]
      exact Nat.mod_eq_zero_of_dvd r2
    have h4 : r ∣ 1 := h1 ▸ Nat.dvd_gcd h3 r2
    have := Nat.le_of_dvd (by omega) h4
    omega
theorem Pr.eq {p q : Nat} (hp : Pr p) (hq : Pr q) (h : p ∣ q) : p = q := by
  rcases hq.2 p h with e | e
  · have := hp.1; omega
  · exact e
theorem pock1 {N q R : Nat} (hq : Pr q) (hN : N = q * R + 1) (hR : 0 < R) (hF : N < (q + 1) * (q + 1)) (f : Nat) (he : q * R < 2 ^ f) (ha : pwm N 2 f (q * R) = 1) (hg : Nat.gcd (pwm N 2 f R % N + (N - 1)) N = 1) : Pr N := by
  have h2 := hq.1
  have hN2 : 1 < N := by
    have : 1 * 1 ≤ q * R := Nat.mul_le_mul (by omega) (by omega)
    omega
  have hRl : R < 2 ^ f := Nat.lt_of_le_of_lt (Nat.le_mul_of_pos_left R (by omega)) he
  refine pock (F := q) (R := R) (a := 2) hN (by omega) hR hF ?_ ?_
  · rw [← pwm_spec N 2 f _ he, ha]; exact Nat.mod_eq_of_lt hN2
  · intro p hp hpq
    have := hp.eq hq hpq
    subst this
    rw [Nat.mul_div_cancel_left _ (by omega), ← pwm_spec N 2 f _ hRl]; exact hg
theorem pock2 {N q s R : Nat} (hq : Pr q) (hs : Pr s) (hN : N = q * s * R + 1) (hR : 0 < R) (hF : N < (q * s + 1) * (q * s + 1)) (f : Nat) (he : q * s * R < 2 ^ f) (ha : pwm N 2 f (q * s * R) = 1) (hg : Nat.gcd (pwm N 2 f (s * R) % N + (N - 1)) N = 1) (hg2 : Nat.gcd (pwm N 2 f (q * R) % N + (N - 1)) N = 1) : Pr N := by
  have h2 := hq.1
  have h3 := hs.1
  have hqs : 2 * 2 ≤ q * s := Nat.mul_le_mul h2 h3
  have hN2 : 1 < N := by
    have : 1 * 1 ≤ q * s * R := Nat.mul_le_mul (by omega) (by omega)
    omega
  have l1 : s * R < 2 ^ f := Nat.lt_of_le_of_lt (by rw [Nat.mul_assoc]; exact Nat.le_mul_of_pos_left _ (by omega)) he
  have l2 : q * R < 2 ^ f := Nat.lt_of_le_of_lt (by rw [Nat.mul_comm q s, Nat.mul_assoc]; exact Nat.le_mul_of_pos_left _ (by omega)) he
  refine pock (F := q * s) (R := R) (a := 2) hN (by omega) hR hF ?_ ?_
  · rw [← pwm_spec N 2 f _ he, ha]; exact Nat.mod_eq_of_lt hN2
  · intro p hp hpq
    rcases hp.dvd_mul hpq with h | h
    · have := hp.eq hq h
      subst this
      rw [Nat.mul_assoc, Nat.mul_div_cancel_left _ (by omega), ← pwm_spec N 2 f _ l1]; exact hg
    · have := hp.eq hs h
      subst this
      rw [Nat.mul_comm q p, Nat.mul_assoc, Nat.mul_div_cancel_left _ (by omega), ← pwm_spec N 2 f _ l2]; exact hg2
def tri (n : Nat) : Nat → Bool
  | 0 => true
  | k + 1 => (k < 2 || n % k != 0) && tri n k
theorem tri_spec (n : Nat) : ∀ m, tri n m = true → ∀ d, 2 ≤ d → d < m → ¬ d ∣ n := by
  intro m
  induction m with
  | zero => intro _ d _ h; omega
  | succ m ih =>
    intro h d h2 hd hdv
    rw [tri, Bool.and_eq_true, Bool.or_eq_true] at h
    by_cases e : d = m
    · subst e
      rcases h.1 with q | q
      · have := of_decide_eq_true q; omega
      · rw [Nat.mod_eq_zero_of_dvd hdv] at q; exact absurd q (by decide)
    · exact ih h.2 d h2 (by omega) hdv
theorem small {n m : Nat} (hn : 2 ≤ n) (hm : n < m * m) (h : tri n m = true) : Pr n := by
  apply Classical.byContradiction
  intro hp
  obtain ⟨r, r1, r2, r3⟩ := least_factor n hn
  have r3 := r3 hp
  refine tri_spec n m h r r1.1 ?_ r2
  apply Classical.byContradiction
  intro q
  have : m * m ≤ r * r := Nat.mul_le_mul (by omega) (by omega)
  omega
theorem pr1 : Pr 4153 := small (m := 65) (by decide) (by decide) (by decide +kernel)
theorem pr2 : Pr 1723 := small (m := 42) (by decide) (by decide) (by decide +kernel)
theorem pr3 : Pr 97 := small (m := 10) (by decide) (by decide) (by decide +kernel)
theorem pr4 : Pr 419 := small (m := 21) (by decide) (by decide) (by decide +kernel)
theorem pr5 : Pr 127 := small (m := 12) (by decide) (by decide) (by decide +kernel)
theorem pr6 : Pr 103 := small (m := 11) (by decide) (by decide) (by decide +kernel)
theorem pr7 : Pr 991 := small (m := 32) (by decide) (by decide) (by decide +kernel)
theorem pr8 : Pr 3797 := small (m := 62) (by decide) (by decide) (by decide +kernel)
theorem pr9 : Pr 2551 := small (m := 51) (by decide) (by decide) (by decide +kernel)
theorem pr10 : Pr 430751 := pock1 (q := 1723) (R := 250) pr2 (by decide +kernel) (by decide +kernel) (by decide +kernel) 19 (by decide +kernel) (by decide +kernel) (by decide +kernel)
theorem pr11 : Pr 31757755568855353 := pock2 (q := 4153) (s := 430751) (R := 17752584) pr1 pr10 (by decide +kernel) (by decide +kernel) (by decide +kernel) 55 (by decide +kernel) (by decide +kernel) (by decide +kernel) (by decide +kernel)
theorem pr12 : Pr 569003 := pock2 (q := 97) (s := 419) (R := 14) pr3 pr4 (by decide +kernel) (by decide +kernel) (by decide +kernel) 20 (by decide +kernel) (by decide +kernel) (by decide +kernel) (by decide +kernel)
theorem pr13 : Pr 2773320623 := pock1 (q := 569003) (R := 4874) pr12 (by decide +kernel) (by decide +kernel) (by decide +kernel) 32 (by decide +kernel) (by decide +kernel) (by decide +kernel)
theorem pr14 : Pr 72106336199 := pock1 (q := 2773320623) (R := 26) pr13 (by decide +kernel) (by decide +kernel) (by decide +kernel) 37 (by decide +kernel) (by decide +kernel) (by decide +kernel)
theorem pr15 : Pr 8574133 := pock2 (q := 103) (s := 991) (R := 84) pr6 pr7 (by decide +kernel) (by decide +kernel) (by decide +kernel) 24 (by decide +kernel) (by decide +kernel) (by decide +kernel) (by decide +kernel)
theorem pr16 : Pr 1919519569386763 := pock2 (q := 127) (s := 8574133) (R := 1762782) pr5 pr15 (by decide +kernel) (by decide +kernel) (by decide +kernel) 51 (by decide +kernel) (by decide +kernel) (by decide +kernel) (by decide +kernel)
theorem pr17 : Pr 75445702479781427272750846543864801 := pock2 (q := 72106336199) (s := 1919519569386763) (R := 545090400) pr14 pr16 (by decide +kernel) (by decide +kernel) (by decide +kernel) 116 (by decide +kernel) (by decide +kernel) (by decide +kernel) (by decide +kernel)
theorem pr18 : Pr 74058212732561358302231226437062788676166966415465897661863160754340907 := pock2 (q := 31757755568855353) (s := 75445702479781427272750846543864801) (R := 30909282119527343802) pr11 pr17 (by decide +kernel) (by decide +kernel) (by decide +kernel) 236 (by decide +kernel) (by decide +kernel) (by decide +kernel) (by decide +kernel)
theorem pr19 : Pr 57896044618658097711785492504343953926634992332820282019728792003956564819949 := pock1 (q := 74058212732561358302231226437062788676166966415465897661863160754340907) (R := 781764) pr18 (by decide +kernel) (by decide +kernel) (by decide +kernel) 255 (by decide +kernel) (by decide +kernel) (by decide +kernel)
theorem pr20 : Pr 531581 := pock1 (q := 3797) (R := 140) pr8 (by decide +kernel) (by decide +kernel) (by decide +kernel) 20 (by decide +kernel) (by decide +kernel) (by decide +kernel)
theorem pr21 : Pr 1224481 := pock1 (q := 2551) (R := 480) pr9 (by decide +kernel) (by decide +kernel) (by decide +kernel) 21 (by decide +kernel) (by decide +kernel) (by decide +kernel)
theorem pr22 : Pr 1257559732178653 := pock2 (q := 531581) (s := 1224481) (R := 1932) pr20 pr21 (by decide +kernel) (by decide +kernel) (by decide +kernel) 51 (by decide +kernel) (by decide +kernel) (by decide +kernel) (by decide +kernel)
theorem pr23 : Pr 4434155615661930479 := pock1 (q := 1257559732178653) (R := 3526) pr22 (by decide +kernel) (by decide +kernel) (by decide +kernel) 62 (by decide +kernel) (by decide +kernel) (by decide +kernel)
theorem pr24 : Pr 172054593956031949258510691 := pock1 (q := 4434155615661930479) (R := 38802110) pr23 (by decide +kernel) (by decide +kernel) (by decide +kernel) 88 (by decide +kernel) (by decide +kernel) (by decide +kernel)
theorem pr25 : Pr 19757330305831588566944191468367130476339 := pock1 (q := 172054593956031949258510691) (R := 114831751082918) pr24 (by decide +kernel) (by decide +kernel) (by decide +kernel) 134 (by decide +kernel) (by decide +kernel) (by decide +kernel)
theorem pr26 : Pr 276602624281642239937218680557139826668747 := pock1 (q := 19757330305831588566944191468367130476339) (R := 14) pr25 (by decide +kernel) (by decide +kernel) (by decide +kernel) 138 (by decide +kernel) (by decide +kernel) (by decide +kernel)
theorem pr27 : Pr 7237005577332262213973186563042994240857116359379907606001950938285454250989 := pock1 (q := 276602624281642239937218680557139826668747) (R := 26163907866482859529727157400808004) pr26 (by decide +kernel) (by decide +kernel) (by decide +kernel) 253 (by decide +kernel) (by decide +kernel) (by decide +kernel)
theorem prime_p : Pr 57896044618658097711785492504343953926634992332820282019728792003956564819949 := pr19
theorem prime_l : Pr 7237005577332262213973186563042994240857116359379907606001950938285454250989 := pr27
end Go.Msg
namespace Go.Msg
abbrev Fq := Fin 57896044618658097711785492504343953926634992332820282019728792003956564819949
theorem fq_mul {a b : Fq} (h : a * b = 0) : a = 0 ∨ b = 0 := by
  have e : (a * b).val = 0 := by rw [h]; rfl
  rw [Fin.val_mul] at e
  rcases prime_p.dvd_mul (Nat.dvd_of_mod_eq_zero e) with q | q
  · left; apply Fin.ext
    have := Nat.eq_zero_of_dvd_of_lt q a.isLt
    rw [this]; rfl
  · right; apply Fin.ext
    have := Nat.eq_zero_of_dvd_of_lt q b.isLt
    rw [this]; rfl
def fqE : Nat := 57896044618658097711785492504343953926634992332820282019728792003956564819947
def fqInv (a : Fq) : Fq := Fin.ofNat _ (a.val ^ fqE)
theorem fq_ndvd {a : Fq} (h : a ≠ 0) : ¬ 57896044618658097711785492504343953926634992332820282019728792003956564819949 ∣ a.val := fun q => h (by
  apply Fin.ext
  have := Nat.eq_zero_of_dvd_of_lt q a.isLt
  rw [this]; rfl)
theorem fq_inv {a : Fq} (h : a ≠ 0) : a * fqInv a = 1 := by
  have f := fermat prime_p (fq_ndvd h)
  apply Fin.ext
  rw [Fin.val_mul]
  show a.val * (a.val ^ fqE % _) % _ = 1
  have he : Nat.succ fqE = 57896044618658097711785492504343953926634992332820282019728792003956564819949 - 1 := by decide +kernel
  rw [Nat.mul_mod_mod, Nat.mul_comm, ← Nat.pow_succ, he]
  exact f
theorem fq_cancel {a b c : Fq} (h : a ≠ 0) (e : a * b = a * c) : b = c := by
  have i := fq_inv h
  have h1 : fqInv a * (a * b) = fqInv a * (a * c) := by rw [e]
  generalize fqInv a = j at *
  grobner
theorem fq_two : (2 : Fq) ≠ 0 := by decide
theorem fq_ne {a b : Fq} (ha : a ≠ 0) (hb : b ≠ 0) : a * b ≠ 0 := fun h => (fq_mul h).elim ha hb
def dE : Fq := 20800338683988658368647408995589388737092878452977063003340006470870624536394
theorem dE_val : dE.val = 20800338683988658368647408995589388737092878452977063003340006470870624536394 := by decide +kernel
theorem dE_ns (s : Fq) : s * s ≠ dE := by
  intro h
  have hs : s ≠ 0 := by
    intro q
    rw [q] at h
    exact absurd h (by decide +kernel)
  have f := fermat prime_p (fq_ndvd hs)
  have e : (s.val * s.val) % 57896044618658097711785492504343953926634992332820282019728792003956564819949 = dE.val := by rw [← h, Fin.val_mul]
  obtain ⟨H, hH⟩ : ∃ H : Nat, H = 28948022309329048855892746252171976963317496166410141009864396001978282409974 := ⟨_, rfl⟩
  have he : 2 * H = 57896044618658097711785492504343953926634992332820282019728792003956564819949 - 1 := by rw [hH]
  have hl : H < 2 ^ 256 := by rw [hH]; decide +kernel
  rw [← he, Nat.pow_mul, Nat.pow_two, Nat.pow_mod, e, dE_val, ← pwm_spec _ _ 256 H hl, hH] at f
  exact absurd f (by decide +kernel)
theorem ed_complete {d x1 y1 x2 y2 : Fq} (hns : ∀ s : Fq, s * s ≠ d) (e1 : x1 * x1 + y1 * y1 = 1 + d * (x1 * x1 * (y1 * y1))) (e2 : x2 * x2 + y2 * y2 = 1 + d * (x2 * x2 * (y2 * y2))) (D : Fq) (hD : D = d * x1 * x2 * y1 * y2) : D * D ≠ 1 := by
  intro h
  have s1 : (x1 + D * y1) * (x1 + D * y1) = d * ((x1 * y1 * (x2 + y2)) * (x1 * y1 * (x2 + y2))) := by grobner
  have s2 : (x1 - D * y1) * (x1 - D * y1) = d * ((x1 * y1 * (x2 - y2)) * (x1 * y1 * (x2 - y2))) := by grobner
  have sq : ∀ u K : Fq, u * u = d * (K * K) → K = 0 := by
    intro u K hu
    apply Classical.byContradiction
    intro hK
    have i := fq_inv hK
    refine hns (u * fqInv K) ?_
    generalize fqInv K = j at *
    grobner
  have k1 := sq _ _ s1
  have k2 := sq _ _ s2
  have k3 : 2 * D = 0 := by grobner
  have k4 : (2 : Fq) = 0 := by grobner
  exact fq_two k4
theorem one_add_ne {D : Fq} (h : D * D ≠ 1) : 1 + D ≠ 0 ∧ 1 - D ≠ 0 := by
  constructor
  · intro q; apply h; grobner
  · intro q; apply h; grobner
structure Ed where
  x : Fq
  y : Fq
def Ed.On (a : Ed) : Prop := a.x * a.x + a.y * a.y = 1 + dE * (a.x * a.x * (a.y * a.y))
def Ed.D (a b : Ed) : Fq := dE * a.x * b.x * a.y * b.y
def Ed.add (a b : Ed) : Ed := ⟨(a.x * b.y + a.y * b.x) * fqInv (1 + Ed.D a b), (a.y * b.y - a.x * b.x) * fqInv (1 - Ed.D a b)⟩
def Ed.zero : Ed := ⟨0, 1⟩
def Ed.neg (a : Ed) : Ed := ⟨-a.x, a.y⟩
theorem Ed.ext' {a b : Ed} (h1 : a.x = b.x) (h2 : a.y = b.y) : a = b := by cases a; cases b; simp at h1 h2; rw [h1, h2]
theorem Ed.ne {a b : Ed} (ha : a.On) (hb : b.On) : 1 + Ed.D a b ≠ 0 ∧ 1 - Ed.D a b ≠ 0 := one_add_ne (ed_complete dE_ns ha hb _ rfl)
theorem Ed.add_x {a b : Ed} (ha : a.On) (hb : b.On) : (a.add b).x * (1 + Ed.D a b) = a.x * b.y + a.y * b.x := by
  have i := fq_inv (Ed.ne ha hb).1
  show (a.x * b.y + a.y * b.x) * fqInv (1 + Ed.D a b) * (1 + Ed.D a b) = _
  generalize fqInv (1 + Ed.D a b) = j at *
  generalize Ed.D a b = D at *
  grobner
theorem Ed.add_y {a b : Ed} (ha : a.On) (hb : b.On) : (a.add b).y * (1 - Ed.D a b) = a.y * b.y - a.x * b.x := by
  have i := fq_inv (Ed.ne ha hb).2
  show (a.y * b.y - a.x * b.x) * fqInv (1 - Ed.D a b) * (1 - Ed.D a b) = _
  generalize fqInv (1 - Ed.D a b) = j at *
  generalize Ed.D a b = D at *
  grobner
theorem ed_close {x1 y1 x2 y2 d D : Fq} (e1 : x1 * x1 + y1 * y1 = 1 + d * (x1 * x1 * (y1 * y1))) (e2 : x2 * x2 + y2 * y2 = 1 + d * (x2 * x2 * (y2 * y2))) (hD : D = d * x1 * x2 * y1 * y2) :
    (x1 * y2 + y1 * x2) * (x1 * y2 + y1 * x2) * ((1 - D) * (1 - D)) + (y1 * y2 - x1 * x2) * (y1 * y2 - x1 * x2) * ((1 + D) * (1 + D)) = (1 - D) * (1 - D) * ((1 + D) * (1 + D)) + d * ((x1 * y2 + y1 * x2) * (x1 * y2 + y1 * x2) * ((y1 * y2 - x1 * x2) * (y1 * y2 - x1 * x2))) := by
  subst hD; grobner
theorem ed_on {d A B p q X Y : Fq} (hp : p ≠ 0) (hq : q ≠ 0) (hX : X * p = A) (hY : Y * q = B) (h : A * A * (q * q) + B * B * (p * p) = q * q * (p * p) + d * (A * A * (B * B))) : X * X + Y * Y = 1 + d * (X * X * (Y * Y)) := by
  refine fq_cancel (fq_ne (fq_ne hp hp) (fq_ne hq hq)) ?_
  subst hX hY
  grobner
theorem Ed.on_add {a b : Ed} (ha : a.On) (hb : b.On) : (a.add b).On :=
  ed_on (Ed.ne ha hb).1 (Ed.ne ha hb).2 (Ed.add_x ha hb) (Ed.add_y ha hb) (ed_close ha hb rfl)
theorem Ed.add_comm (a b : Ed) : a.add b = b.add a := by
  have e : Ed.D a b = Ed.D b a := by unfold Ed.D; generalize dE = d; grobner
  refine Ed.ext' ?_ ?_
  · show (a.x * b.y + a.y * b.x) * fqInv (1 + Ed.D a b) = (b.x * a.y + b.y * a.x) * fqInv (1 + Ed.D b a)
    rw [e]; generalize fqInv (1 + Ed.D b a) = j; grobner
  · show (a.y * b.y - a.x * b.x) * fqInv (1 - Ed.D a b) = (b.y * a.y - b.x * a.x) * fqInv (1 - Ed.D b a)
    rw [e]; generalize fqInv (1 - Ed.D b a) = j; grobner
set_option maxHeartbeats 4000000 in
theorem assoc_x {x1 y1 x2 y2 x3 y3 d : Fq} (e1 : x1 * x1 + y1 * y1 = 1 + d * (x1 * x1 * (y1 * y1))) (e2 : x2 * x2 + y2 * y2 = 1 + d * (x2 * x2 * (y2 * y2))) (e3 : x3 * x3 + y3 * y3 = 1 + d * (x3 * x3 * (y3 * y3))) {D E A B A2 B2 : Fq}
    (hD : D = d * x1 * x2 * y1 * y2) (hE : E = d * x2 * x3 * y2 * y3) (hA : A = x1 * y2 + y1 * x2) (hB : B = y1 * y2 - x1 * x2) (hA2 : A2 = x2 * y3 + y2 * x3) (hB2 : B2 = y2 * y3 - x2 * x3) :
    (A * y3 * (1 - D) + B * x3 * (1 + D)) * ((1 - E * E) + d * x1 * y1 * A2 * B2) = (x1 * B2 * (1 + E) + y1 * A2 * (1 - E)) * ((1 - D * D) + d * A * B * x3 * y3) := by
  subst hD hE hA hB hA2 hB2; grobner
set_option maxHeartbeats 4000000 in
theorem assoc_y {x1 y1 x2 y2 x3 y3 d : Fq} (e1 : x1 * x1 + y1 * y1 = 1 + d * (x1 * x1 * (y1 * y1))) (e2 : x2 * x2 + y2 * y2 = 1 + d * (x2 * x2 * (y2 * y2))) (e3 : x3 * x3 + y3 * y3 = 1 + d * (x3 * x3 * (y3 * y3))) {D E A B A2 B2 : Fq}
    (hD : D = d * x1 * x2 * y1 * y2) (hE : E = d * x2 * x3 * y2 * y3) (hA : A = x1 * y2 + y1 * x2) (hB : B = y1 * y2 - x1 * x2) (hA2 : A2 = x2 * y3 + y2 * x3) (hB2 : B2 = y2 * y3 - x2 * x3) :
    (B * y3 * (1 + D) - A * x3 * (1 - D)) * ((1 - E * E) - d * x1 * y1 * A2 * B2) = (y1 * B2 * (1 + E) - x1 * A2 * (1 - E)) * ((1 - D * D) - d * A * B * x3 * y3) := by
  subst hD hE hA hB hA2 hB2; grobner
theorem assoc_end {L R f g N1 N2 K1 K2 : Fq} (hf : f ≠ 0) (hg : g ≠ 0) (hK1 : K1 ≠ 0) (hK2 : K2 ≠ 0) (hL : L * f * K1 = N1) (hR : R * g * K2 = N2) (h : N1 * (K2 * g) = N2 * (K1 * f)) : L = R := by
  refine fq_cancel (fq_ne (fq_ne hf hK1) (fq_ne hg hK2)) ?_
  subst hL hR
  grobner
theorem Ed.add_assoc {a b c : Ed} (ha : a.On) (hb : b.On) (hc : c.On) : (a.add b).add c = a.add (b.add c) := by
  have hab := Ed.on_add ha hb
  have hbc := Ed.on_add hb hc
  have x1 := Ed.add_x ha hb
  have y1 := Ed.add_y ha hb
  have x2 := Ed.add_x hb hc
  have y2 := Ed.add_y hb hc
  have X1 := Ed.add_x hab hc
  have Y1 := Ed.add_y hab hc
  have X2 := Ed.add_x ha hbc
  have Y2 := Ed.add_y ha hbc
  have n1 := Ed.ne ha hb
  have n2 := Ed.ne hb hc
  have N1 := Ed.ne hab hc
  have N2 := Ed.ne ha hbc
  have AX := assoc_x ha hb hc (D := Ed.D a b) (E := Ed.D b c) rfl rfl rfl rfl rfl rfl
  have AY := assoc_y ha hb hc (D := Ed.D a b) (E := Ed.D b c) rfl rfl rfl rfl rfl rfl
  have d1 : Ed.D (a.add b) c = dE * (a.add b).x * c.x * (a.add b).y * c.y := rfl
  have d2 : Ed.D a (b.add c) = dE * a.x * (b.add c).x * a.y * (b.add c).y := rfl
  rw [d1] at X1 Y1 N1
  rw [d2] at X2 Y2 N2
  generalize Ed.D a b = D at *
  generalize Ed.D b c = E at *
  refine Ed.ext' ?_ ?_
  · refine assoc_end N1.1 N2.1 (fq_ne n1.1 n1.2) (fq_ne n2.1 n2.2) (N1 := (a.x * b.y + a.y * b.x) * c.y * (1 - D) + (a.y * b.y - a.x * b.x) * c.x * (1 + D)) (N2 := a.x * (b.y * c.y - b.x * c.x) * (1 + E) + a.y * (b.x * c.y + b.y * c.x) * (1 - E)) ?_ ?_ ?_
    · rw [X1, ← x1, ← y1]; generalize (a.add b).x = p; generalize (a.add b).y = q; grobner
    · rw [X2, ← x2, ← y2]; generalize (b.add c).x = p; generalize (b.add c).y = q; grobner
    · rw [← x1, ← y1, ← x2, ← y2] at AX ⊢
      clear AY X1 Y1 X2 Y2 x1 x2 y1 y2 d1 d2 N1 N2 n1 n2 ha hb hc hab hbc
      generalize (a.add b).x = p at *; generalize (a.add b).y = q at *; generalize (b.add c).x = r at *; generalize (b.add c).y = s at *
      generalize dE = d at *
      grobner
  · refine assoc_end N1.2 N2.2 (fq_ne n1.1 n1.2) (fq_ne n2.1 n2.2) (N1 := (a.y * b.y - a.x * b.x) * c.y * (1 + D) - (a.x * b.y + a.y * b.x) * c.x * (1 - D)) (N2 := a.y * (b.y * c.y - b.x * c.x) * (1 + E) - a.x * (b.x * c.y + b.y * c.x) * (1 - E)) ?_ ?_ ?_
    · rw [Y1, ← x1, ← y1]; generalize (a.add b).x = p; generalize (a.add b).y = q; grobner
    · rw [Y2, ← x2, ← y2]; generalize (b.add c).x = p; generalize (b.add c).y = q; grobner
    · rw [← x1, ← y1, ← x2, ← y2] at AY ⊢
      clear AX X1 Y1 X2 Y2 x1 x2 y1 y2 d1 d2 N1 N2 n1 n2 ha hb hc hab hbc
      generalize (a.add b).x = p at *; generalize (a.add b).y = q at *; generalize (b.add c).x = r at *; generalize (b.add c).y = s at *
      generalize dE = d at *
      grobner
theorem Ed.zero_on : Ed.zero.On := by
  show (0 : Fq) * 0 + 1 * 1 = 1 + dE * (0 * 0 * (1 * 1))
  generalize dE = d
  grobner
theorem fq_inv1 : fqInv 1 = 1 := by
  have h := fq_inv (a := 1) (by decide)
  grobner
theorem Ed.add_zero (a : Ed) : a.add Ed.zero = a := by
  have e : Ed.D a Ed.zero = 0 := by unfold Ed.D Ed.zero; generalize dE = d; grobner
  refine Ed.ext' ?_ ?_
  · show (a.x * 1 + a.y * 0) * fqInv (1 + Ed.D a Ed.zero) = a.x
    rw [e, show (1 : Fq) + 0 = 1 from by decide, fq_inv1]; grobner
  · show (a.y * 1 - a.x * 0) * fqInv (1 - Ed.D a Ed.zero) = a.y
    rw [e, show (1 : Fq) - 0 = 1 from by decide, fq_inv1]; grobner
theorem Ed.neg_on {a : Ed} (h : a.On) : a.neg.On := by
  unfold Ed.On at *
  show -a.x * -a.x + a.y * a.y = 1 + dE * (-a.x * -a.x * (a.y * a.y))
  generalize dE = d at *
  grobner
theorem Ed.add_neg {a : Ed} (h : a.On) : a.add a.neg = Ed.zero := by
  have hn := Ed.neg_on h
  have x := Ed.add_x h hn
  have y := Ed.add_y h hn
  have n := Ed.ne h hn
  have hd : Ed.D a a.neg = - (dE * (a.x * a.x * (a.y * a.y))) := by
    show dE * a.x * -a.x * a.y * a.y = _
    generalize dE = d; grobner
  have nx : a.neg.x = -a.x := rfl
  have ny : a.neg.y = a.y := rfl
  rw [nx, ny] at x y
  rw [hd] at x y n
  unfold Ed.On at h
  clear hd hn
  generalize dE = d at *
  refine Ed.ext' ?_ ?_
  · show _ = (0 : Fq)
    rcases fq_mul (show (a.add a.neg).x * (1 + - (d * (a.x * a.x * (a.y * a.y)))) = 0 by rw [x]; grobner) with q | q
    · exact q
    · exact absurd q n.1
  · show _ = (1 : Fq)
    refine fq_cancel n.2 ?_
    grobner
def Ed.mul : Nat → Ed → Ed
  | 0, _ => Ed.zero
  | n + 1, a => (Ed.mul n a).add a
theorem Ed.mul_on {a : Ed} (h : a.On) (n : Nat) : (Ed.mul n a).On := by
  induction n with
  | zero => exact Ed.zero_on
  | succ n ih => exact Ed.on_add ih h
theorem Ed.mul_add {a : Ed} (h : a.On) (m n : Nat) : Ed.mul (m + n) a = (Ed.mul m a).add (Ed.mul n a) := by
  induction n with
  | zero => exact (Ed.add_zero _).symm
  | succ n ih =>
    show (Ed.mul (m + n) a).add a = (Ed.mul m a).add ((Ed.mul n a).add a)
    rw [ih, Ed.add_assoc (Ed.mul_on h m) (Ed.mul_on h n) h]
theorem Ed.mul_mul {a : Ed} (h : a.On) (m n : Nat) : Ed.mul (m * n) a = Ed.mul m (Ed.mul n a) := by
  induction m with
  | zero => rw [Nat.zero_mul]; rfl
  | succ m ih => rw [Nat.succ_mul, Ed.mul_add h, ih]; rfl
theorem Ed.mul_zero (n : Nat) : Ed.mul n Ed.zero = Ed.zero := by
  induction n with
  | zero => rfl
  | succ n ih => show (Ed.mul n Ed.zero).add Ed.zero = _; rw [ih, Ed.add_zero]
end Go.Msg
