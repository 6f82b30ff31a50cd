/- The walks of package curve: inverse, bits and bytes. -/
import Derived.Test.YtogkchcclcbobaaCv5
import Derived.Test.YtogkchcclcbobaaFld
namespace Go.Proofs.Ytogkchcclcbobaa
open Go.RowKit Go.Msg

set_option maxHeartbeats 1000000 in
theorem inverse_any (f : Nat → Int) (hf : Tidy f) (w : World) :
    Calls Try.prog 82 #[.agg (tab .u32 20 f)] w fun e w' => ∃ x, e = .returned (.agg (tab .u32 20 x)) ∧ Tidy x ∧ lval 20 x % P25519 = (lval 20 f) ^ E2 % P25519 ∧ Below w.heap.size w w' := by
  go_enter Try.func82, Try.ntmps82
  go_wp2_with (first | (refine wpl_load rt117 rfl _ rfl _ rfl (tab .u32 20 f) ?_ (tab_size _ _ _) ?_; (focus (first | (simp [go_sem]; done) | (simp (disch := first | (simp [go_sem]; done) | (simp [go_sem]; omega)) [go_sem]; done)))) | (refine wpl_store rt117 rfl _ _ rfl _ rfl (tab .u32 20 f) rfl ?_ (tab_size _ _ _) (tab_all _ _ _) (((w.alloc (c20 f)).alloc z20).alloc (c20 f)) ?_ ?_; (focus (first | (simp [go_sem]; done) | (simp (disch := first | (simp [go_sem]; done) | (simp [go_sem]; omega)) [go_sem]; done))); (focus (first | (simp [go_sem]; done) | (simp (disch := first | (simp [go_sem]; done) | (simp [go_sem]; omega)) [go_sem]; done)))))
  go_loopw [4] (fun i wr => ∃ (k n : Nat) (x : Nat → Int) (bs : List Obj), k ≤ 254 ∧ i = .int .i64 ((k : Int) - 1) ∧ Tidy x ∧ lval 20 x % P25519 = (lval 20 f) ^ (E2 / 2 ^ k) % P25519 ∧ wr = ((((w.alloc (c20 f)).alloc z20).alloc (c20 x)).exts bs).dr n) (fun i _ => (intOf i + 1).toNat)
  case atStart => exact ⟨254, _, f, [], by omega, rfl, hf, by rw [E2_top, Int.pow_one], by rw [World.exts_nil, World.dr_self]⟩
  case round =>
    obtain ⟨k, n, x, bs, hk, rfl, hx, hv, rfl⟩ := hrel
    by_cases hlt : 1 ≤ k
    · have HV : Hid (lval 20 x % P25519 = (lval 20 f) ^ (E2 / 2 ^ k) % P25519) := hv
      clear hv
      by_cases h24 : k = 3 ∨ k = 5
      · have HE : Hid (E2 / 2 ^ (k - 1) = 2 * (E2 / 2 ^ k)) := by
          have := E2_bit (k - 1) (by omega)
          rw [if_pos (by omega), show k - 1 + 1 = k by omega] at this; exact this
        rcases h24 with rfl | rfl
        all_goals
          go_wp2_with (first | (refine wpl_load rt117 rfl _ rfl _ rfl (tab .u32 20 x) ?_ (tab_size _ _ _) ?_; (focus (first | (simp [go_sem]; done) | (simp (disch := first | (simp [go_sem]; done) | (simp [go_sem]; omega)) [go_sem]; done)))) | (go_at_call 93; refine (square_any _ hx _).mono ?_; rintro e w' ⟨y, rfl, hy, hv1, hb1⟩; obtain ⟨bs1, n1, rfl⟩ := below_form2 hb1) | (refine wpl_store rt117 rfl _ _ rfl _ rfl (tab .u32 20 y) rfl ?_ (tab_size _ _ _) (tab_all _ _ _) (((((w.alloc (c20 f)).alloc z20).alloc (c20 y)).exts bs1).dr n1) ?_ ?_; (focus (first | (simp [go_sem]; done) | (simp (disch := first | (simp [go_sem]; done) | (simp [go_sem]; omega)) [go_sem]; done))); (focus (first | (simp [go_sem]; done) | (simp (disch := first | (simp [go_sem]; done) | (simp [go_sem]; omega)) [go_sem]; done)))))
          go_roundw
          case rel => first | exact ⟨2, _, _, _, by omega, by go_num, hy, by rw [show E2 / 2 ^ 2 = 2 * (E2 / 2 ^ 3) from HE.out]; exact pow_sq HV.out hv1, rfl⟩ | exact ⟨4, _, _, _, by omega, by go_num, hy, by rw [show E2 / 2 ^ 4 = 2 * (E2 / 2 ^ 5) from HE.out]; exact pow_sq HV.out hv1, rfl⟩
          case measure => simp [intOf]
      · have HE : Hid (E2 / 2 ^ (k - 1) = 2 * (E2 / 2 ^ k) + 1) := by
          have := E2_bit (k - 1) (by omega)
          rw [if_neg (by omega), show k - 1 + 1 = k by omega] at this; exact this
        have h3 : ((k : Int) - 1 != 2) = true := by simp; omega
        have h5 : ((k : Int) - 1 != 4) = true := by simp; omega
        clear h24
        go_wp2_with (first | (refine wpl_load rt117 rfl _ rfl _ rfl (tab .u32 20 x) ?_ (tab_size _ _ _) ?_; (focus (first | (simp [go_sem]; done) | (simp (disch := first | (simp [go_sem]; done) | (simp [go_sem]; omega)) [go_sem]; done)))) | (go_at_call 93; refine (square_any _ hx _).mono ?_; rintro e w' ⟨y, rfl, hy, hv1, hb1⟩; obtain ⟨bs1, n1, rfl⟩ := below_form2 hb1) | (refine wpl_store rt117 rfl _ _ rfl _ rfl (tab .u32 20 y) rfl ?_ (tab_size _ _ _) (tab_all _ _ _) (((((w.alloc (c20 f)).alloc z20).alloc (c20 y)).exts bs1).dr n1) ?_ ?_; (focus (first | (simp [go_sem]; done) | (simp (disch := first | (simp [go_sem]; done) | (simp [go_sem]; omega)) [go_sem]; done))); (focus (first | (simp [go_sem]; done) | (simp (disch := first | (simp [go_sem]; done) | (simp [go_sem]; omega)) [go_sem]; done)))) | (refine wpl_load rt117 rfl _ rfl _ rfl (tab .u32 20 y) ?_ (tab_size _ _ _) ?_; (focus (first | (simp [go_sem]; done) | (simp (disch := first | (simp [go_sem]; done) | (simp [go_sem]; omega)) [go_sem]; done)))) | (refine wpl_load rt117 rfl _ rfl _ rfl (tab .u32 20 f) ?_ (tab_size _ _ _) ?_; (focus (first | (simp [go_sem]; done) | (simp (disch := first | (simp [go_sem]; done) | (simp [go_sem]; omega)) [go_sem]; done)))) | (go_at_call 83; refine (times_any _ _ hy hf _).mono ?_; rintro e w' ⟨z, rfl, hz, hv2, hb2⟩; obtain ⟨bs2, n2, rfl⟩ := below_form2 hb2) | (refine wpl_store rt117 rfl _ _ rfl _ rfl (tab .u32 20 z) rfl ?_ (tab_size _ _ _) (tab_all _ _ _) (((((w.alloc (c20 f)).alloc z20).alloc (c20 z)).exts bs2).dr n2) ?_ ?_; (focus (first | (simp [go_sem]; done) | (simp (disch := first | (simp [go_sem]; done) | (simp [go_sem]; omega)) [go_sem]; done))); (focus (first | (simp [go_sem]; done) | (simp (disch := first | (simp [go_sem]; done) | (simp [go_sem]; omega)) [go_sem]; done)))))
        go_roundw
        case rel => exact ⟨k - 1, _, _, _, by omega, by go_num, hz, by rw [HE.out]; exact pow_sq1 HV.out hv1 hv2, rfl⟩
        case measure => simp [intOf]; omega
    · have hk' : k = 0 := by omega
      subst hk'
      rw [E2_low] at hv
      have HV : Hid (lval 20 x % P25519 = (lval 20 f) ^ E2 % P25519) := hv
      clear hv
      go_wp2_with (first | (refine wpl_load rt117 rfl _ rfl _ rfl (tab .u32 20 x) ?_ (tab_size _ _ _) ?_; (focus (first | (simp [go_sem]; done) | (simp (disch := first | (simp [go_sem]; done) | (simp [go_sem]; omega)) [go_sem]; done)))) | (refine wpl_store rt117 rfl _ _ rfl _ rfl (tab .u32 20 x) rfl ?_ (tab_size _ _ _) (tab_all _ _ _) (((((w.alloc (c20 f)).alloc (c20 x)).alloc (c20 x)).exts bs).dr n) ?_ ?_; (focus (first | (simp [go_sem]; done) | (simp (disch := first | (simp [go_sem]; done) | (simp [go_sem]; omega)) [go_sem]; done))); (focus (first | (simp [go_sem]; done) | (simp (disch := first | (simp [go_sem]; done) | (simp [go_sem]; omega)) [go_sem]; done)))))
      exact bodyPost_ret (v := .agg (tab .u32 20 x)) (by rw [results_row rt117 Try.results82 _ _ (w.heap.size + 1) rfl (by first | (simp [go_sem]; done) | (simp (disch := first | (simp [go_sem]; done) | (simp [go_sem]; omega)) [go_sem]; done))]; first | (simp [go_sem]; done) | (simp (disch := first | (simp [go_sem]; done) | (simp [go_sem]; omega)) [go_sem]; done)) rfl ⟨x, rfl, hx, HV.out, below3e _ _ _ _ _ _⟩
end Go.Proofs.Ytogkchcclcbobaa
