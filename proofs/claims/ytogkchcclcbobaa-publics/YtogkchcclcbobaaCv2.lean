/- The walks of package curve: wrapped, tidy, least. -/
import Derived.Test.YtogkchcclcbobaaCv1
namespace Go.Proofs.Ytogkchcclcbobaa
open Go.RowKit Go.Msg

set_option maxHeartbeats 400000 in
theorem wrapped_any (x : Nat → Int) (h19 : 0 ≤ x 19) (h19' : x 19 < 4294967296) (h0 : 0 ≤ x 0) (h0' : x 0 + 19 * (x 19 / 256) < 4294967296) (w : World) :
    Calls Try.prog 99 #[.agg (tab .u32 20 x)] w fun e w' => e = .returned (.agg (tab .u32 20 (wrap1 x))) ∧ Below w.heap.size w w' := by
  go_enter Try.func99, Try.ntmps99
  have hw1 : upd (upd x 19 (bits .and .u32 (x 19) 255)) 0 (x 0 + 19 * (x 19 / 256)) = wrap1 x := by rw [bits_and_255 _ h19 h19']; rfl
  go_wp2_with (first | (refine wpl_load rt117 rfl _ rfl _ rfl (tab .u32 20 (wrap1 x)) ?_ (tab_size _ _ _) ?_; (focus (first | (simp [go_sem]; done) | (simp (disch := first | (simp [go_sem]; done) | (simp [go_sem]; omega)) [go_sem]; done)))) | (refine wpl_store rt117 rfl _ _ rfl _ rfl (tab .u32 20 (wrap1 x)) rfl ?_ (tab_size _ _ _) (tab_all _ _ _) ((w.alloc (.cells (tab .u32 20 (wrap1 x)) 117)).alloc (.cells (tab .u32 20 (wrap1 x)) 117)) ?_ ?_; (focus (first | (simp [go_sem]; done) | (simp (disch := first | (simp [go_sem]; done) | (simp [go_sem]; omega)) [go_sem]; done))); (focus (first | (simp [go_sem]; done) | (simp (disch := first | (simp [go_sem]; done) | (simp [go_sem]; omega)) [go_sem]; done)))))
  exact bodyPost_ret (v := .agg (tab .u32 20 (wrap1 x))) (by rw [results_row rt117 Try.results99 _ _ (w.heap.size + 1) rfl (by first | (simp [go_sem]; done) | (simp (disch := first | (simp [go_sem]; done) | (simp [go_sem]; omega)) [go_sem]; done))]; first | (simp [go_sem]; done) | (simp (disch := first | (simp [go_sem]; done) | (simp [go_sem]; omega)) [go_sem]; done)) rfl ⟨rfl, ((Below.refl _ _).alloc (Nat.le_refl _) _).alloc (by simp) _⟩

set_option maxHeartbeats 800000 in
theorem tidy_any (f : Nat → Int) (hf : ∀ i, i < 20 → 0 ≤ f i ∧ f i ≤ 4294443008) (w : World) :
    Calls Try.prog 97 #[.agg (tab .u32 20 f)] w fun e w' => ∃ x, e = .returned (.agg (tab .u32 20 x)) ∧ Tidy x ∧ lval 20 x % P25519 = lval 20 f % P25519 ∧ Below w.heap.size w w' := by
  go_enter Try.func97, Try.ntmps97
  go_wp2
  go_loopw [3] (fun i wr => ∃ (k n : Nat) (x : Nat → Int) (bs : List Obj), k ≤ 2 ∧ i = .int .i64 k ∧ TidyAt f k x ∧ wr = (((w.alloc (.cells (tab .u32 20 x) 117)).alloc (.cells (tab .u32 20 (fun _ => 0)) 117)).exts bs).dr n) (fun i _ => 2 - (intOf i).toNat)
  case atStart => exact ⟨0, _, f, [], by omega, rfl, TidyAt.start hf, by rw [World.exts_nil, World.dr_self]⟩
  case round =>
    obtain ⟨k, n, x, bs, hk, rfl, hc, rfl⟩ := hrel
    by_cases hlt : k < 2
    · go_wp2_with (first | (refine wpl_load rt117 rfl _ rfl _ rfl (tab .u32 20 x) ?_ (tab_size _ _ _) ?_; (focus (first | (simp [go_sem]; done) | (simp (disch := first | (simp [go_sem]; done) | (simp [go_sem]; omega)) [go_sem]; done)))) | (go_at_call 98; refine (carried_any x hc.bound _).mono ?_; rintro e w' ⟨x1, rfl, hc1, hb1⟩; obtain ⟨bs1, n1, rfl⟩ := below_form2 hb1; obtain ⟨hs1, hs2, hs3⟩ := hc.step hlt hc1) | (refine wpl_store rt117 rfl _ _ rfl _ rfl (tab .u32 20 x1) rfl ?_ (tab_size _ _ _) (tab_all _ _ _) ((((w.alloc (.cells (tab .u32 20 x1) 117)).alloc (.cells (tab .u32 20 (fun _ => 0)) 117)).exts bs1).dr n1) ?_ ?_; (focus (first | (simp [go_sem]; done) | (simp (disch := first | (simp [go_sem]; done) | (simp [go_sem]; omega)) [go_sem]; done))); (focus (first | (simp [go_sem]; done) | (simp (disch := first | (simp [go_sem]; done) | (simp [go_sem]; omega)) [go_sem]; done)))) | (refine wpl_load rt117 rfl _ rfl _ rfl (tab .u32 20 x1) ?_ (tab_size _ _ _) ?_; (focus (first | (simp [go_sem]; done) | (simp (disch := first | (simp [go_sem]; done) | (simp [go_sem]; omega)) [go_sem]; done)))) | (go_at_call 99; refine (wrapped_any x1 hc1.at_.1 hs2 (hc1.low 0 (by omega)).1 hs3 _).mono ?_; rintro e w' ⟨rfl, hb2⟩; obtain ⟨bs2, n2, rfl⟩ := below_form2 hb2) | (refine wpl_store rt117 rfl _ _ rfl _ rfl (tab .u32 20 (wrap1 x1)) rfl ?_ (tab_size _ _ _) (tab_all _ _ _) ((((w.alloc (.cells (tab .u32 20 (wrap1 x1)) 117)).alloc (.cells (tab .u32 20 (fun _ => 0)) 117)).exts bs2).dr n2) ?_ ?_; (focus (first | (simp [go_sem]; done) | (simp (disch := first | (simp [go_sem]; done) | (simp [go_sem]; omega)) [go_sem]; done))); (focus (first | (simp [go_sem]; done) | (simp (disch := first | (simp [go_sem]; done) | (simp [go_sem]; omega)) [go_sem]; done)))))
      go_roundw
      case rel => exact ⟨k + 1, _, _, _, by omega, by go_num, hs1, rfl⟩
      case measure => simp [intOf]; omega
    · have hk' : k = 2 := by omega
      subst hk'
      go_wp2_with (first | (refine wpl_load rt117 rfl _ rfl _ rfl (tab .u32 20 x) ?_ (tab_size _ _ _) ?_; (focus (first | (simp [go_sem]; done) | (simp (disch := first | (simp [go_sem]; done) | (simp [go_sem]; omega)) [go_sem]; done)))) | (refine wpl_store rt117 rfl _ _ rfl _ rfl (tab .u32 20 x) rfl ?_ (tab_size _ _ _) (tab_all _ _ _) ((((w.alloc (.cells (tab .u32 20 x) 117)).alloc (.cells (tab .u32 20 x) 117)).exts bs).dr n) ?_ ?_; (focus (first | (simp [go_sem]; done) | (simp (disch := first | (simp [go_sem]; done) | (simp [go_sem]; omega)) [go_sem]; done))); (focus (first | (simp [go_sem]; done) | (simp (disch := first | (simp [go_sem]; done) | (simp [go_sem]; omega)) [go_sem]; done)))))
      exact bodyPost_ret (v := .agg (tab .u32 20 x)) (by rw [results_row rt117 Try.results97 _ _ (w.heap.size + 1) rfl (by first | (simp [go_sem]; done) | (simp (disch := first | (simp [go_sem]; done) | (simp [go_sem]; omega)) [go_sem]; done))]; first | (simp [go_sem]; done) | (simp (disch := first | (simp [go_sem]; done) | (simp [go_sem]; omega)) [go_sem]; done)) rfl ⟨x, rfl, hc.tidy, hc.vl, below_dr (below_exts' (((Below.refl _ _).alloc (Nat.le_refl _) _).alloc (by simp) _) (by simp; omega) _) _⟩

end Go.Proofs.Ytogkchcclcbobaa
