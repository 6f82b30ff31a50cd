import Derived.Test.YteghoooelgcpkabGreatDoorM04
import Derived.Test.YteghoooelgcpkabGreatDoorM13
namespace Go.Msg
open Go.RowKit Go.Proofs.YteghoooelgcpkabGreatDoor
theorem bitAt_bit (b : Nat → Int) (i : Nat) : bitAt b i = 0 ∨ bitAt b i = 1 := by have := bitAt_01 b i; omega
theorem clamp_0 (b : Nat → Int) : clampF b 0 = b 0 / 8 * 8 := by simp [clampF, upd]
theorem clamp_31 (b : Nat → Int) : clampF b 31 = b 31 % 64 + 64 := by simp [clampF, upd]
def kN (k : ByteArray) : Nat := pre (bitAt (clampF (sb k))) 256
theorem kN_ell (k : ByteArray) : ¬ ellN ∣ kN k := by
  refine pre_clamped (bitAt_bit _) ?_ ?_ ?_ ?_ ?_
  · show clampF (sb k) 31 / 2 ^ 7 % 2 = 0
    rw [clamp_31]; omega
  · show clampF (sb k) 31 / 2 ^ 6 % 2 = 1
    rw [clamp_31]; omega
  · show clampF (sb k) 0 / 2 ^ 0 % 2 = 0
    rw [clamp_0]; omega
  · show clampF (sb k) 0 / 2 ^ 1 % 2 = 0
    rw [clamp_0]; omega
  · show clampF (sb k) 0 / 2 ^ 2 % 2 = 0
    rw [clamp_0]; omega
theorem dhN_mul (k : ByteArray) {p : ByteArray} {n : Nat} (hn : ¬ ellN ∣ n) (hp : toF (bsum (sb p) 255 % P25519) = uOf (Ed.mul n bE)) : toF (dhN k p) = uOf (Ed.mul (kN k * n) bE) := lout_mul (bitAt_bit _) hn hp
theorem nine_sum : bsum (sb nine) 255 % P25519 = 9 := by decide +kernel
theorem dhN_nine (k : ByteArray) : toF (dhN k nine) = uOf (Ed.mul (kN k) bE) := by
  unfold dhN
  rw [nine_sum]
  exact lout_nine (bitAt_bit _)
theorem dhN_lt (k p : ByteArray) : 0 ≤ dhN k p ∧ dhN k p < P25519 := by
  unfold dhN lout
  exact ⟨Int.emod_nonneg _ (by decide), Int.emod_lt_of_pos _ (by decide)⟩
theorem sb_dhF (k p : ByteArray) (i : Nat) (hi : i < 32) : sb (dhF k p) i = dhN k p / 256 ^ i % 256 := by
  unfold dhF
  exact sb_bstr 32 _ i hi ⟨by omega, by omega⟩
theorem bval_dhF (k p : ByteArray) : bval 32 (sb (dhF k p)) = dhN k p := by
  have h : ∀ n, n ≤ 32 → bval n (sb (dhF k p)) = bval n (fun i => dhN k p / 256 ^ i % 256) := by
    intro n
    induction n with
    | zero => intro _; rfl
    | succ n ih => intro hn; rw [bval, bval, ih (by omega), sb_dhF k p n (by omega)]
  have hb := dhN_bd k p
  rw [h 32 (by omega), bval_digits, Int.emod_eq_of_lt hb.1 hb.2]
theorem bsum_dhF (k p : ByteArray) : bsum (sb (dhF k p)) 255 = dhN k p := by
  have h1 := dhN_lt k p
  have hp : P25519 ≤ 128 * 256 ^ 31 := by decide
  have e : sb (dhF k p) 31 % 128 = sb (dhF k p) 31 := by
    rw [sb_dhF k p 31 (by omega)]
    have h2 : dhN k p / 256 ^ 31 < 128 := Int.ediv_lt_of_lt_mul (by decide) (by omega)
    have h3 : 0 ≤ dhN k p / 256 ^ 31 := Int.ediv_nonneg h1.1 (by decide)
    generalize dhN k p / 256 ^ 31 = q at *
    omega
  have h := bsum_255 (sb (dhF k p)) (fun i _ => by have := sb_bd (dhF k p) i; omega)
  rw [e] at h
  have g := bval_dhF k p
  rw [bval] at g
  rw [h]; exact g
theorem dh_pub (k l : ByteArray) : toF (dhN k (pubF l)) = uOf (Ed.mul (kN k * kN l) bE) := by
  refine dhN_mul k (kN_ell l) ?_
  unfold pubF
  rw [bsum_dhF, toF_mod]
  exact dhN_nine l
theorem dhF_of {k p k' p' : ByteArray} (h : toF (dhN k p) = toF (dhN k' p')) : dhF k p = dhF k' p' := by
  have h1 := dhN_lt k p
  have h2 := dhN_lt k' p'
  rw [toF_eq, Int.emod_eq_of_lt h1.1 h1.2, Int.emod_eq_of_lt h2.1 h2.2] at h
  unfold dhF
  rw [h]
theorem dh_comm (k l : ByteArray) : dhF k (pubF l) = dhF l (pubF k) := dhF_of (by rw [dh_pub, dh_pub, Nat.mul_comm])
theorem bval_zeros (n : Nat) : ∀ m, m ≤ n → bval m (sb (zeros n)) = 0 := by
  intro m
  induction m with
  | zero => intro _; rfl
  | succ m ih =>
    intro hm
    rw [bval, ih (by omega)]
    have : sb (zeros n) m = 0 := by unfold zeros; exact sb_bstr _ _ _ (by omega) (by simp)
    rw [this]; simp
theorem dh_ne (k l : ByteArray) : dhF k (pubF l) ≠ zeros 32 := by
  intro h
  have e := bval_dhF k (pubF l)
  rw [h, bval_zeros 32 32 (by omega)] at e
  have hn : ¬ ellN ∣ kN k * kN l := fun q => by
    rcases Pr.dvd_mul (p := ellN) prime_l q with q | q
    · exact kN_ell k q
    · exact kN_ell l q
  refine (mul_y _ hn).2 ?_
  rw [← dh_pub, ← e, toF_0]
end Go.Msg
