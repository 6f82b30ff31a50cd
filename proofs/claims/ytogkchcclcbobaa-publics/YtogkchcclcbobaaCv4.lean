/- The walks of package curve: plus, minus, small, timesFactor. -/
import Derived.Test.YtogkchcclcbobaaCv3
namespace Go.Proofs.Ytogkchcclcbobaa
open Go.RowKit Go.Msg

set_option maxHeartbeats 800000 in
theorem plus_any (f g : Nat → Int) (hf : Tidy f) (hg : Tidy g) (w : World) :
    Calls Try.prog 91 #[.agg (tab .u32 20 f), .agg (tab .u32 20 g)] w fun e w' => ∃ x, e = .returned (.agg (tab .u32 20 x)) ∧ Tidy x ∧ lval 20 x % P25519 = (lval 20 f + lval 20 g) % P25519 ∧ Below w.heap.size w w' := by
  go_enter Try.func91, Try.ntmps91
  go_wp2
  go_loopw [5] (fun i wr => ∃ (k n : Nat), k ≤ 20 ∧ i = .int .i64 k ∧ wr = (((w.alloc (c20 (addTo f g k))).alloc (c20 g)).alloc z20).dr n) (fun i _ => 20 - (intOf i).toNat)
  case atStart => exact ⟨0, _, by omega, rfl, by rw [addTo_zero, World.dr_self]⟩
  case round =>
    obtain ⟨k, n, hk, rfl, rfl⟩ := hrel
    by_cases hlt : k < 20
    · have c1 : (k:Int) < 20 := by omega
      have b1 := hf.le' k hlt
      have b2 := hg.le' k hlt
      have HA := addTo_at f g k
      go_wp2
      go_region
      go_wp2
      go_roundw
      case rel => exact ⟨k + 1, _, by omega, by go_num, by rw [addTo_step]⟩
      case measure => simp [intOf]; omega
    · have hk' : k = 20 := by omega
      subst hk'
      have hb : ∀ i, i < 20 → 0 ≤ addTo f g 20 i ∧ addTo f g 20 i ≤ 4294443008 := fun i hi => by
        have := hf.le' i hi; have := hg.le' i hi
        simp only [addTo, hi, if_true]; omega
      go_wp2_with (first | (refine wpl_load rt117 rfl _ rfl _ rfl (tab .u32 20 (addTo f g 20)) ?_ (tab_size _ _ _) ?_; (focus (first | (simp [go_sem]; done) | (simp (disch := first | (simp [go_sem]; done) | (simp [go_sem]; omega)) [go_sem]; done)))) | (go_at_call 97; refine (tidy_any _ ?_ _).mono ?_; (focus (with_reducible exact hb)); rintro e w' ⟨x, rfl, hx, hv, hb1⟩; obtain ⟨bs1, n1, rfl⟩ := below_form hb1) | (refine wpl_store rt117 rfl _ _ rfl _ rfl (tab .u32 20 x) rfl ?_ (tab_size _ _ _) (tab_all _ _ _) (((((w.alloc (c20 (addTo f g 20))).alloc (c20 g)).alloc (c20 x)).exts bs1).dr n1) ?_ ?_; (focus (first | (simp [go_sem]; done) | (simp (disch := first | (simp [go_sem]; done) | (simp [go_sem]; omega)) [go_sem]; done))); (focus (first | (simp [go_sem]; done) | (simp (disch := first | (simp [go_sem]; done) | (simp [go_sem]; omega)) [go_sem]; done)))))
      exact bodyPost_ret (v := .agg (tab .u32 20 x)) (by rw [results_row rt117 Try.results91 _ _ (w.heap.size + 1 + 1) rfl (by first | (simp [go_sem]; done) | (simp (disch := first | (simp [go_sem]; done) | (simp [go_sem]; omega)) [go_sem]; done))]; first | (simp [go_sem]; done) | (simp (disch := first | (simp [go_sem]; done) | (simp [go_sem]; omega)) [go_sem]; done)) rfl ⟨x, rfl, hx, by rw [hv, addTo_lval], below3e _ _ _ _ _ _⟩

set_option maxHeartbeats 800000 in
theorem minus_any (f g : Nat → Int) (hf : Tidy f) (hg : Tidy g) (w : World) :
    Calls Try.prog 92 #[.agg (tab .u32 20 f), .agg (tab .u32 20 g)] w fun e w' => ∃ x, e = .returned (.agg (tab .u32 20 x)) ∧ Tidy x ∧ lval 20 x % P25519 = (lval 20 f - lval 20 g) % P25519 ∧ Below w.heap.size w w' := by
  have b0 := hf.le' 0 (by omega)
  have g0 := hg.le' 0 (by omega)
  have b19 := hf.le' 19 (by omega)
  have g19 := hg.nn 19 (by omega)
  have g19' := hg.top
  have HS : Hid (upd f 0 (f 0 + (16346 - g 0)) = addTo f (from2p g) 1) := by
    have := addTo_step f (from2p g) 0
    rw [addTo_zero] at this; exact this
  go_enter Try.func92, Try.ntmps92
  go_wp2
  rw [HS.out]
  go_loopw [5] (fun i wr => ∃ (k n : Nat), 1 ≤ k ∧ k ≤ 19 ∧ i = .int .i64 k ∧ wr = (((w.alloc (c20 (addTo f (from2p g) k))).alloc (c20 g)).alloc z20).dr n) (fun i _ => 19 - (intOf i).toNat)
  case atStart => exact ⟨1, _, by omega, by omega, rfl, by rw [World.dr_self]⟩
  case round =>
    obtain ⟨k, n, hk1, hk, rfl, rfl⟩ := hrel
    by_cases hlt : k < 19
    · have c1 : (k:Int) < 20 := by omega
      have c2 : k < 20 := by omega
      have b1 := hf.le' k c2
      have b2 := hg.le' k c2
      have HA := addTo_at f (from2p g) k
      have HF : Hid (16382 - g k = from2p g k) := by show _ = _; unfold from2p; rw [if_neg (by omega), if_neg (by omega)]
      go_wp2
      go_region
      go_wp2
      go_roundw
      case rel => exact ⟨k + 1, _, by omega, by omega, by go_num, by rw [HF.out, addTo_step]⟩
      case measure => simp [intOf]; omega
    · have hk' : k = 19 := by omega
      subst hk'
      have HA := addTo_at f (from2p g) 19
      have HF : upd (addTo f (from2p g) 19) 19 (f 19 + (510 - g 19)) = addTo f (from2p g) 20 := addTo_step f (from2p g) 19
      have hb : ∀ i, i < 20 → 0 ≤ addTo f (from2p g) 20 i ∧ addTo f (from2p g) 20 i ≤ 4294443008 := fun i hi => by
        have := hf.le' i hi; have := hg.le' i hi
        simp only [addTo, hi, if_true, from2p]
        split
        · omega
        · split <;> omega
      go_wp2_with (first | (refine wpl_load rt117 rfl _ rfl _ rfl (tab .u32 20 (addTo f (from2p g) 20)) ?_ (tab_size _ _ _) ?_; (focus (first | (simp [go_sem]; done) | (simp (disch := first | (simp [go_sem]; done) | (simp [go_sem]; omega)) [go_sem]; done)))) | (go_at_call 97; refine (tidy_any _ ?_ _).mono ?_; (focus (with_reducible exact hb)); rintro e w' ⟨x, rfl, hx, hv, hb1⟩; obtain ⟨bs1, n1, rfl⟩ := below_form hb1) | (refine wpl_store rt117 rfl _ _ rfl _ rfl (tab .u32 20 x) rfl ?_ (tab_size _ _ _) (tab_all _ _ _) (((((w.alloc (c20 (addTo f (from2p g) 20))).alloc (c20 g)).alloc (c20 x)).exts bs1).dr n1) ?_ ?_; (focus (first | (simp [go_sem]; done) | (simp (disch := first | (simp [go_sem]; done) | (simp [go_sem]; omega)) [go_sem]; done))); (focus (first | (simp [go_sem]; done) | (simp (disch := first | (simp [go_sem]; done) | (simp [go_sem]; omega)) [go_sem]; done)))))
      exact bodyPost_ret (v := .agg (tab .u32 20 x)) (by rw [results_row rt117 Try.results92 _ _ (w.heap.size + 1 + 1) rfl (by first | (simp [go_sem]; done) | (simp (disch := first | (simp [go_sem]; done) | (simp [go_sem]; omega)) [go_sem]; done))]; first | (simp [go_sem]; done) | (simp (disch := first | (simp [go_sem]; done) | (simp [go_sem]; omega)) [go_sem]; done)) rfl ⟨x, rfl, hx, by rw [hv, addTo_lval, from2p_lval, show lval 20 f + (2 * P25519 - lval 20 g) = (lval 20 f - lval 20 g) - (-2) * P25519 by omega, emod_sub_mul], below3e _ _ _ _ _ _⟩

set_option maxHeartbeats 400000 in
theorem small_any (v : Int) (h0 : 0 ≤ v) (h1 : v ≤ 8191) (w : World) :
    Calls Try.prog 78 #[.int .u32 v] w fun e w' => e = .returned (.agg (tab .u32 20 (upd (fun _ => 0) 0 v))) ∧ Below w.heap.size w w' := by
  have hv : bits .and .u32 v 8191 = v := by rw [bits_and_8191 _ h0 (by omega)]; omega
  go_enter Try.func78, Try.ntmps78
  go_wp2_with (first | (refine wpl_load rt117 rfl _ rfl _ rfl (tab .u32 20 (upd (fun _ => 0) 0 v)) ?_ (tab_size _ _ _) ?_; (focus (first | (simp [go_sem]; done) | (simp (disch := first | (simp [go_sem]; done) | (simp [go_sem]; omega)) [go_sem]; done)))) | (refine wpl_store rt117 rfl _ _ rfl _ rfl (tab .u32 20 (upd (fun _ => 0) 0 v)) rfl ?_ (tab_size _ _ _) (tab_all _ _ _) ((w.alloc (c20 (upd (fun _ => 0) 0 v))).alloc (c20 (upd (fun _ => 0) 0 v))) ?_ ?_; (focus (first | (simp [go_sem]; done) | (simp (disch := first | (simp [go_sem]; done) | (simp [go_sem]; omega)) [go_sem]; done))); (focus (first | (simp [go_sem]; done) | (simp (disch := first | (simp [go_sem]; done) | (simp [go_sem]; omega)) [go_sem]; done)))))
  exact bodyPost_ret (v := .agg (tab .u32 20 (upd (fun _ => 0) 0 v))) (by rw [results_row rt117 Try.results78 _ _ (w.heap.size) rfl (by first | (simp [go_sem]; done) | (simp (disch := first | (simp [go_sem]; done) | (simp [go_sem]; omega)) [go_sem]; done))]; first | (simp [go_sem]; done) | (simp (disch := first | (simp [go_sem]; done) | (simp [go_sem]; omega)) [go_sem]; done)) rfl ⟨rfl, ((Below.refl _ _).alloc (Nat.le_refl _) _).alloc (by simp) _⟩

set_option maxHeartbeats 800000 in
theorem timesFactor_any (f : Nat → Int) (hf : Tidy f) (w : World) :
    Calls Try.prog 94 #[.agg (tab .u32 20 f)] w fun e w' => ∃ x, e = .returned (.agg (tab .u32 20 x)) ∧ Tidy x ∧ lval 20 x % P25519 = (121665 * lval 20 f) % P25519 ∧ Below w.heap.size w w' := by
  go_enter Try.func94, Try.ntmps94
  go_wp2
  go_loopw [3] (fun i wr => ∃ (k n : Nat), k ≤ 20 ∧ i = .int .i64 k ∧ wr = ((w.alloc (c20 (mulTo 121665 f k))).alloc z20).dr n) (fun i _ => 20 - (intOf i).toNat)
  case atStart => exact ⟨0, _, by omega, rfl, by rw [mulTo_zero, World.dr_self]⟩
  case round =>
    obtain ⟨k, n, hk, rfl, rfl⟩ := hrel
    by_cases hlt : k < 20
    · have c1 : (k:Int) < 20 := by omega
      have b1 := hf.le' k hlt
      have HA := mulTo_at 121665 f k
      go_wp2
      go_roundw
      case rel => exact ⟨k + 1, _, by omega, by go_num, by rw [← mulTo_step, Int.mul_comm]⟩
      case measure => simp [intOf]; omega
    · have hk' : k = 20 := by omega
      subst hk'
      have hb : ∀ i, i < 20 → 0 ≤ mulTo 121665 f 20 i ∧ mulTo 121665 f 20 i ≤ 4294443008 := fun i hi => by
        have := hf.le' i hi
        simp only [mulTo, hi, if_true]; omega
      go_wp2_with (first | (refine wpl_load rt117 rfl _ rfl _ rfl (tab .u32 20 (mulTo 121665 f 20)) ?_ (tab_size _ _ _) ?_; (focus (first | (simp [go_sem]; done) | (simp (disch := first | (simp [go_sem]; done) | (simp [go_sem]; omega)) [go_sem]; done)))) | (go_at_call 97; refine (tidy_any _ ?_ _).mono ?_; (focus (with_reducible exact hb)); rintro e w' ⟨x, rfl, hx, hv, hb1⟩; obtain ⟨bs1, n1, rfl⟩ := below_form hb1) | (refine wpl_store rt117 rfl _ _ rfl _ rfl (tab .u32 20 x) rfl ?_ (tab_size _ _ _) (tab_all _ _ _) ((((w.alloc (c20 (mulTo 121665 f 20))).alloc (c20 x)).exts bs1).dr n1) ?_ ?_; (focus (first | (simp [go_sem]; done) | (simp (disch := first | (simp [go_sem]; done) | (simp [go_sem]; omega)) [go_sem]; done))); (focus (first | (simp [go_sem]; done) | (simp (disch := first | (simp [go_sem]; done) | (simp [go_sem]; omega)) [go_sem]; done)))))
      exact bodyPost_ret (v := .agg (tab .u32 20 x)) (by rw [results_row rt117 Try.results94 _ _ (w.heap.size + 1) rfl (by first | (simp [go_sem]; done) | (simp (disch := first | (simp [go_sem]; done) | (simp [go_sem]; omega)) [go_sem]; done))]; first | (simp [go_sem]; done) | (simp (disch := first | (simp [go_sem]; done) | (simp [go_sem]; omega)) [go_sem]; done)) rfl ⟨x, rfl, hx, by rw [hv, mulTo_lval], below2e _ _ _ _ _⟩
end Go.Proofs.Ytogkchcclcbobaa
