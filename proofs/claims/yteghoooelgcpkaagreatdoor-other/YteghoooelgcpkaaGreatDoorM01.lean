import Derived.Test.YteghoooelgcpkaaGreatDoorM00
namespace Go.Proofs.YteghoooelgcpkaaGreatDoor
open Go.RowKit Go.Msg
theorem rt121 : RowTy Tryz.prog 193 80 := ⟨by decide, by kernel_rfl, _, Tryz.underlying193, rfl⟩
abbrev c80 (f : Nat → Int) : Obj := .cells (tab .u32 80 f) 193
abbrev z80 : Obj := .cells (tab .u32 80 (fun _ => 0)) 193
@[go_sem] theorem zero80 : Tryz.zeroCells193 = tab .u32 80 (fun _ => 0) := by rw [tab_eq]; kernel_rfl
theorem u32_of {x : Int} (h : 0 ≤ x ∧ x < 4294967296) : ∃ n : Nat, n < 4294967296 ∧ x = n := ⟨x.toNat, by omega, by omega⟩
theorem xor_swap {a b : Int} (ha : 0 ≤ a ∧ a < 4294967296) (hb : 0 ≤ b ∧ b < 4294967296) :
    bits .and .u32 4294967295 (bits .xor .u32 a b) = bits .xor .u32 a b ∧ bits .xor .u32 a (bits .xor .u32 a b) = b ∧ bits .xor .u32 b (bits .xor .u32 a b) = a := by
  obtain ⟨n, hn, rfl⟩ := u32_of ha
  obtain ⟨m, hm, rfl⟩ := u32_of hb
  have h : n ^^^ m < 4294967296 := Nat.xor_lt_two_pow (n := 32) hn hm
  rw [u32_xor_nat n m hn hm]
  refine ⟨?_, ?_, ?_⟩
  · have := u32_and_nat 4294967295 (n ^^^ m) (by omega) h
    rw [show ((4294967295 : Nat) : Int) = 4294967295 by rfl] at this
    rw [this, Nat.and_comm, show (4294967295 : Nat) = 2 ^ 32 - 1 by decide, Nat.and_two_pow_sub_one_eq_mod, Nat.mod_eq_of_lt h]
  · rw [u32_xor_nat n _ hn h, ← Nat.xor_assoc, Nat.xor_self, Nat.zero_xor]
  · rw [u32_xor_nat m _ hm h, Nat.xor_comm n m, ← Nat.xor_assoc, Nat.xor_self, Nat.zero_xor]
theorem xor_stay {a b : Int} (ha : 0 ≤ a ∧ a < 4294967296) (hb : 0 ≤ b ∧ b < 4294967296) : bits .and .u32 0 b = 0 ∧ bits .xor .u32 a 0 = a := by
  obtain ⟨n, hn, rfl⟩ := u32_of ha
  obtain ⟨m, hm, rfl⟩ := u32_of hb
  have h1 := u32_and_nat 0 m (by omega) hm
  have h2 := u32_xor_nat n 0 hn (by omega)
  simp only [Nat.zero_and, Nat.xor_zero] at h1 h2
  exact ⟨h1, h2⟩
theorem xor_bd {a b : Int} (ha : 0 ≤ a ∧ a < 4294967296) (hb : 0 ≤ b ∧ b < 4294967296) : 0 ≤ bits .xor .u32 a b ∧ bits .xor .u32 a b < 4294967296 := by
  obtain ⟨n, hn, rfl⟩ := u32_of ha
  obtain ⟨m, hm, rfl⟩ := u32_of hb
  have h : n ^^^ m < 4294967296 := Nat.xor_lt_two_pow (n := 32) hn hm
  rw [u32_xor_nat n m hn hm]; omega
def Sw (F : Nat → Int) (k : Nat) (G : Nat → Int) : Prop := ∀ j, j < 80 → G j = if j % 20 < k then F ((j + 40) % 80) else F j
theorem Sw.step {F G : Nat → Int} {k : Nat} (h : Sw F k G) (hk : k < 20) :
    Sw F (k + 1) (upd (upd (upd (upd G k (G (40 + k))) (40 + k) (G k)) (20 + k) (G (60 + k))) (60 + k) (G (20 + k))) := by
  intro j hj
  have h0 := h k (by omega); have h1 := h (20 + k) (by omega); have h2 := h (40 + k) (by omega); have h3 := h (60 + k) (by omega)
  rw [if_neg (by omega)] at h0 h1 h2 h3
  by_cases e3 : j = 60 + k
  · subst e3; simp only [upd, if_true]; rw [if_pos (by omega), h1]; congr 1; omega
  · by_cases e2 : j = 20 + k
    · subst e2; simp only [upd, e3, if_true, if_false]; rw [if_pos (by omega), h3]; congr 1; omega
    · by_cases e1 : j = 40 + k
      · subst e1; simp only [upd, e3, e2, if_true, if_false]; rw [if_pos (by omega), h0]; congr 1; omega
      · by_cases e0 : j = k
        · subst e0; simp only [upd, e3, e2, e1, if_true, if_false]; rw [if_pos (by omega), h2]; congr 1; omega
        · simp only [upd, e3, e2, e1, e0, if_false]
          rw [h j hj]
          by_cases hlt : j % 20 < k
          · rw [if_pos hlt, if_pos (by omega)]
          · rw [if_neg hlt, if_neg (by omega)]
theorem upd4_self (G : Nat → Int) (k : Nat) : upd (upd (upd (upd G k (G k)) (40 + k) (G (40 + k))) (20 + k) (G (20 + k))) (60 + k) (G (60 + k)) = G := by
  funext j; unfold upd
  by_cases e3 : j = 60 + k
  · simp [e3]
  · by_cases e2 : j = 20 + k
    · simp [e2]
    · by_cases e1 : j = 40 + k
      · simp [e1]
      · by_cases e0 : j = k
        · simp [e0]
        · simp [e3, e2, e1, e0]
set_option maxHeartbeats 1000000 in
theorem exchanged_no (F : Nat → Int) (hF : ∀ i, i < 80 → 0 ≤ F i ∧ F i < 4294967296) (w : World) :
    Calls Tryz.prog 164 #[.agg (tab .u32 80 F), .int .u32 0] w fun e w' => e = .returned (.agg (tab .u32 80 F)) ∧ Below w.heap.size w w' := by
  go_enter Tryz.func164, Tryz.ntmps164
  go_wp2
  go_loopw [6] (fun i wr => ∃ (k n : Nat), k ≤ 20 ∧ i = .int .i64 k ∧ wr = ((w.alloc (c80 F)).alloc z80).dr n) (fun i _ => 20 - (intOf i).toNat)
  case atStart => exact ⟨0, _, by omega, rfl, by rw [World.dr_self]⟩
  case round =>
    obtain ⟨k, n, hk, rfl, rfl⟩ := hrel
    by_cases hlt : k < 20
    · have c1 : (k : Int) < 20 := by omega
      have c2 : k < 80 := by omega
      have c3 : 20 + k < 80 := by omega
      have c4 : 40 + k < 80 := by omega
      have c5 : 60 + k < 80 := by omega
      have b0 := hF k c2
      have b1 := hF (20 + k) c3
      have b2 := hF (40 + k) c4
      have b3 := hF (60 + k) c5
      have e0 := (xor_stay b0 (xor_bd b0 b2)).1
      have e1 := (xor_stay b1 (xor_bd b1 b3)).1
      have d0 := (xor_stay b0 b0).2
      have d1 := (xor_stay b1 b0).2
      have d2 := (xor_stay b2 b0).2
      have d3 := (xor_stay b3 b0).2
      clear b0 b1 b2 b3 hF
      go_wp2
      go_region
      go_wp2
      go_region
      go_wp2
      go_roundw
      case rel => exact ⟨k + 1, _, by omega, by go_num, by rw [upd4_self]⟩
      case measure => simp [intOf]; omega
    · have hk' : k = 20 := by omega
      subst hk'
      go_wp2_with (first | (refine wpl_load rt121 rfl _ rfl _ rfl (tab .u32 80 F) ?_ (tab_size _ _ _) ?_; (focus (first | (simp [go_sem]; done) | (simp (disch := first | (simp [go_sem]; done) | (simp [go_sem]; omega)) [go_sem]; done)))) | (refine wpl_store rt121 rfl _ _ rfl _ rfl (tab .u32 80 F) rfl ?_ (tab_size _ _ _) (tab_all _ _ _) (((w.alloc (c80 F)).alloc (c80 F)).dr n) ?_ ?_; (focus (first | (simp [go_sem]; done) | (simp (disch := first | (simp [go_sem]; done) | (simp [go_sem]; omega)) [go_sem]; done))); (focus (first | (simp [go_sem]; done) | (simp (disch := first | (simp [go_sem]; done) | (simp [go_sem]; omega)) [go_sem]; done)))))
      exact bodyPost_ret (v := .agg (tab .u32 80 F)) (by rw [results_row rt121 Tryz.results164 _ _ (w.heap.size + 1) rfl (by first | (simp [go_sem]; done) | (simp (disch := first | (simp [go_sem]; done) | (simp [go_sem]; omega)) [go_sem]; done))]; first | (simp [go_sem]; done) | (simp (disch := first | (simp [go_sem]; done) | (simp [go_sem]; omega)) [go_sem]; done)) rfl ⟨rfl, below2 _ _ _ _⟩
set_option maxHeartbeats 1000000 in
theorem exchanged_yes (F : Nat → Int) (hF : ∀ i, i < 80 → 0 ≤ F i ∧ F i < 4294967296) (w : World) :
    Calls Tryz.prog 164 #[.agg (tab .u32 80 F), .int .u32 1] w fun e w' => e = .returned (.agg (tab .u32 80 (fun j => F ((j + 40) % 80)))) ∧ Below w.heap.size w w' := by
  go_enter Tryz.func164, Tryz.ntmps164
  go_wp2
  go_loopw [6] (fun i wr => ∃ (k n : Nat) (G : Nat → Int), k ≤ 20 ∧ i = .int .i64 k ∧ Sw F k G ∧ wr = ((w.alloc (c80 G)).alloc z80).dr n) (fun i _ => 20 - (intOf i).toNat)
  case atStart => exact ⟨0, _, F, by omega, rfl, fun j _ => by simp, by rw [World.dr_self]⟩
  case round =>
    obtain ⟨k, n, G, hk, rfl, hS, rfl⟩ := hrel
    by_cases hlt : k < 20
    · have c1 : (k : Int) < 20 := by omega
      have c2 : k < 80 := by omega
      have c3 : 20 + k < 80 := by omega
      have c4 : 40 + k < 80 := by omega
      have c5 : 60 + k < 80 := by omega
      have gb : ∀ j, j < 80 → 0 ≤ G j ∧ G j < 4294967296 := fun j hj => by
        rw [hS j hj]; split
        · exact hF _ (by omega)
        · exact hF _ hj
      obtain ⟨e0, d0, d2⟩ := xor_swap (gb k c2) (gb (40 + k) c4)
      obtain ⟨e1, d1, d3⟩ := xor_swap (gb (20 + k) c3) (gb (60 + k) c5)
      clear gb
      go_wp2
      go_region
      go_wp2
      go_region
      go_wp2
      go_roundw
      case rel => exact ⟨k + 1, _, _, by omega, by go_num, hS.step hlt, rfl⟩
      case measure => simp [intOf]; omega
    · have hk' : k = 20 := by omega
      subst hk'
      have HT : Hid (tab .u32 80 G = tab .u32 80 (fun j => F ((j + 40) % 80))) := tab_congr fun i hi => by rw [hS i hi, if_pos (by omega)]
      go_wp2_with (first | (refine wpl_load rt121 rfl _ rfl _ rfl (tab .u32 80 G) ?_ (tab_size _ _ _) ?_; (focus (first | (simp [go_sem]; done) | (simp (disch := first | (simp [go_sem]; done) | (simp [go_sem]; omega)) [go_sem]; done)))) | (refine wpl_store rt121 rfl _ _ rfl _ rfl (tab .u32 80 G) rfl ?_ (tab_size _ _ _) (tab_all _ _ _) (((w.alloc (c80 G)).alloc (c80 G)).dr n) ?_ ?_; (focus (first | (simp [go_sem]; done) | (simp (disch := first | (simp [go_sem]; done) | (simp [go_sem]; omega)) [go_sem]; done))); (focus (first | (simp [go_sem]; done) | (simp (disch := first | (simp [go_sem]; done) | (simp [go_sem]; omega)) [go_sem]; done)))))
      rw [← HT.out]
      exact bodyPost_ret (v := .agg (tab .u32 80 G)) (by rw [results_row rt121 Tryz.results164 _ _ (w.heap.size + 1) rfl (by first | (simp [go_sem]; done) | (simp (disch := first | (simp [go_sem]; done) | (simp [go_sem]; omega)) [go_sem]; done))]; first | (simp [go_sem]; done) | (simp (disch := first | (simp [go_sem]; done) | (simp [go_sem]; omega)) [go_sem]; done)) rfl ⟨rfl, below2 _ _ _ _⟩
end Go.Proofs.YteghoooelgcpkaaGreatDoor
