/- The walks of the document's own answer: numbers modulo the prime. -/
import Derived.Test.YtogkchcclcbobaaRf4
namespace Go.Proofs.Ytogkchcclcbobaa
open Go.RowKit Go.Msg

/-- A rest by the prime. -/
def Res (w : World) (v : Value) (x : Int) : Prop := IsNum w v x ∧ x < P25519
theorem Res.below {w w' : World} {v : Value} {x : Int} (h : Res w v x) (hb : Below w.heap.size w w') : Res w' v x := ⟨h.1.below hb, h.2⟩
theorem Res.nonneg {w : World} {v : Value} {x : Int} (h : Res w v x) : 0 ≤ x := h.1.nonneg
theorem res_of {w : World} {v : Value} {x y : Int} (h : IsNum w v (x % P25519)) (e : Eqv x y) : Res w v (y % P25519) := by
  rw [show x % P25519 = y % P25519 from e] at h
  exact ⟨h, Int.emod_lt_of_pos _ (by decide)⟩
theorem p_lt (n : Nat) (hn : 16 ≤ n) : P25519 < 65536 ^ n := by
  have := pow_mono hn
  have : P25519 < 65536 ^ 16 := by decide
  omega
theorem p_sum {x y : Int} (hx : x < P25519) (hy : y < P25519) : x + y < 65536 ^ 33 := by
  have : P25519 + P25519 < 65536 ^ 33 := by decide
  omega
theorem p_prod {x y : Int} (hx : x < P25519) (hy0 : 0 ≤ y) (hy : y < P25519) : x * y < 65536 ^ 33 := by
  have : P25519 * P25519 < 65536 ^ 33 := by decide
  have := Int.mul_le_mul (Int.le_of_lt hx) (Int.le_of_lt hy) hy0 (by decide)
  omega
set_option maxHeartbeats 400000 in
theorem add_any {w : World} {v1 v2 : Value} {x y : Int} (h1 : Res w v1 x) (h2 : Res w v2 y) :
    Calls Try.prog 75 #[v1, v2] w fun e w' => ∃ v, e = .returned v ∧ Res w' v ((x + y) % P25519) ∧ Below w.heap.size w w' := by
  have q1 := p_lt 1000 (by omega)
  have H1 : Hid (x < 65536 ^ 1000) := Int.lt_trans h1.2 q1
  have H2 : Hid (y < 65536 ^ 1000) := Int.lt_trans h2.2 q1
  have H3 : Hid (x + y < 65536 ^ 33) := p_sum h1.2 h2.2
  clear q1
  go_enter Try.func75, Try.ntmps75
  go_wp2_with (first
    | (go_at_call 90; refine (rplus_any h1.1 h2.1 H1.out H2.out).mono ?_; rintro e wA ⟨vA, rfl, hA, hbA⟩)
    | (go_at_call 73; refine (mod_any _ _ _ hA H3.out).mono ?_; rintro e wB ⟨vB, rfl, hB, hbB⟩))
  go_ret
  exact ⟨_, rfl, res_of hB (Eqv.refl _), below_lift hbA hbA.size hbB⟩
set_option maxHeartbeats 400000 in
theorem mul_any {w : World} {v1 v2 : Value} {x y : Int} (h1 : Res w v1 x) (h2 : Res w v2 y) :
    Calls Try.prog 66 #[v1, v2] w fun e w' => ∃ v, e = .returned v ∧ Res w' v ((x * y) % P25519) ∧ Below w.heap.size w w' := by
  have q1 := p_lt 1000 (by omega)
  have H1 : Hid (x < 65536 ^ 1000) := Int.lt_trans h1.2 q1
  have H2 : Hid (y < 65536 ^ 1000) := Int.lt_trans h2.2 q1
  have H3 : Hid (x * y < 65536 ^ 33) := p_prod h1.2 h2.nonneg h2.2
  clear q1
  go_enter Try.func66, Try.ntmps66
  go_wp2_with (first
    | (go_at_call 23; refine (rtimes_any h1.1 h2.1 H1.out H2.out).mono ?_; rintro e wA ⟨vA, rfl, hA, hbA⟩)
    | (go_at_call 73; refine (mod_any _ _ _ hA H3.out).mono ?_; rintro e wB ⟨vB, rfl, hB, hbB⟩))
  go_ret
  exact ⟨_, rfl, res_of hB (Eqv.refl _), below_lift hbA hbA.size hbB⟩
set_option maxHeartbeats 400000 in
theorem sub_any {w : World} {v1 v2 : Value} {x y : Int} (h1 : Res w v1 x) (h2 : Res w v2 y) :
    Calls Try.prog 74 #[v1, v2] w fun e w' => ∃ v, e = .returned v ∧ Res w' v ((x - y) % P25519) ∧ Below w.heap.size w w' := by
  have q1 := p_lt 1000 (by omega)
  have x0 := h1.nonneg
  have y0 := h2.nonneg
  have xp := h1.2
  have yp := h2.2
  have q2 : P25519 + P25519 < 65536 ^ 33 := by decide
  have q3 := pow_mono (show 33 ≤ 1000 by omega)
  have H1 : Hid (x < 65536 ^ 1000) := Int.lt_trans h1.2 q1
  have HP : Hid (P25519 < 65536 ^ 1000) := q1
  have H3 : Hid (x + P25519 < 65536 ^ 1000) := by show _ < _; omega
  have H4 : Hid (y ≤ x + P25519) := by show _ ≤ _; omega
  have H5 : Hid (x + P25519 - y < 65536 ^ 33) := by show _ < _; omega
  clear q1 q2 q3 xp yp
  go_enter Try.func74, Try.ntmps74
  go_wp2_with (first
    | (go_at_call 88; refine (prime_any _).mono ?_; rintro e wp ⟨vp, rfl, hp, hbp⟩; have h1p := h1.below hbp; have h2p := h2.below hbp)
    | (go_at_call 90; refine (rplus_any h1p.1 hp H1.out HP.out).mono ?_; rintro e wA ⟨vA, rfl, hA, hbA⟩; have h2A := h2p.below hbA)
    | (go_at_call 89; refine (rminus_any hA h2A.1 H4.out H3.out).mono ?_; rintro e wB ⟨vB, rfl, hB, hbB⟩)
    | (go_at_call 73; refine (mod_any _ _ _ hB H5.out).mono ?_; rintro e wC ⟨vC, rfl, hC, hbC⟩))
  go_ret
  have b1 := below_lift hbp hbp.size hbA
  have b2 := below_lift b1 b1.size hbB
  refine ⟨_, rfl, res_of hC ?_, below_lift b2 b2.size hbC⟩
  have e : x + P25519 - y = (x - y) - (-1) * P25519 := by omega
  rw [e]; exact emod_sub_mul _ _ _
end Go.Proofs.Ytogkchcclcbobaa
