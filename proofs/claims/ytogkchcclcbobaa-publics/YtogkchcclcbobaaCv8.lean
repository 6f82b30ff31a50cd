/- The walks of package curve: fromBytes, bytes. -/
import Derived.Test.YtogkchcclcbobaaCv7
import Derived.Test.YtogkchcclcbobaaReg
namespace Go.Proofs.Ytogkchcclcbobaa
open Go.RowKit Go.Msg

theorem mixed_any : Try.prog.follows .mixedOrders = true := by kernel_rfl

set_option maxHeartbeats 1000000 in
theorem fromBytes_any (b : Nat → Int) (hb : ∀ i, i < 32 → 0 ≤ b i ∧ b i ≤ 255) (w : World) :
    Calls Try.prog 77 #[.agg (tab .u8 32 b)] w fun e w' => ∃ x, e = .returned (.agg (tab .u32 20 x)) ∧ Tidy x ∧ lval 20 x = bsum b 255 ∧ Below w.heap.size w w' := by
  go_enter Try.func77, Try.ntmps77
  go_wp2
  go_loopw [4] (fun i wr => ∃ (k n : Nat) (x : Nat → Int) (bs : List Obj), k ≤ 255 ∧ i = .int .i64 k ∧ Filled b k x ∧ wr = ((((w.alloc (c32 b)).alloc z20).alloc (c20 x)).exts bs).dr n) (fun i _ => 255 - (intOf i).toNat)
  case atStart => exact ⟨0, _, _, [], by omega, rfl, Filled.start b, by rw [World.exts_nil, World.dr_self]⟩
  case round =>
    obtain ⟨k, n, x, bs, hk, rfl, hx, rfl⟩ := hrel
    by_cases hlt : k < 255
    · have c1 : (k : Int) < 255 := by omega
      have c2 : k / 13 < 20 := by omega
      have c3 : (k : Int) / 13 < 20 := by omega
      have b1 := bitAt_01 b k
      go_wp2
      refine wp_region_quiet_tail 12 (fun w' => ∃ q, w' = (((w.alloc (c32 b)).alloc z20).alloc (c20 x)).ex q) mixed_any (by kernel_rfl) ⟨behind bs (n + 1), by rw [World.ex_behind]; rfl⟩ ?_
      simp only [List.take_succ_cons, List.take_zero, List.drop_succ_cons, List.drop_zero]
      iterate 4 (go_big_quiet_step (fail))
      refine quiet_load_row rt107 rfl _ rfl _ rfl (tab .u8 32 b) (tab_size _ _ _) ?_ ?_
      · rintro w' ⟨p, rfl⟩; simp [go_sem]
      simp only [Act.put, List.setIfInBounds_toArray, List.set_cons_succ, List.set_cons_zero]
      go_big_quiet_step (fail)
      go_big_quiet_step ((rename_i p; go_at_call 79; refine (bitOf_any _ hb _ (by omega) _).mono ?_; rintro e w' ⟨rfl, hb1⟩; obtain ⟨q1, rfl⟩ := below_ex hb1; exact ⟨rfl, q1, rfl⟩))
      iterate 5 (go_big_quiet_step (fail))
      refine wpQuiet_nil ?_
      rintro w' ⟨q, rfl⟩
      unfold World.ex
      go_wp2
      go_roundw
      case rel => exact ⟨k + 1, _, _, _, by omega, by go_num, hx.step hlt, by rw [bit_pow _ b1 (by omega), or_bit _ _ _ (hx.nn _ c2) hx.at_ b1 (by omega)]⟩
      case measure => simp [intOf]; omega
    · have hk' : k = 255 := by omega
      subst hk'
      have D := hx.done
      go_wp2_with (first | (refine wpl_load rt117 rfl _ rfl _ rfl (tab .u32 20 x) ?_ (tab_size _ _ _) ?_; (focus (first | (simp [go_sem]; done) | (simp (disch := first | (simp [go_sem]; done) | (simp [go_sem]; omega)) [go_sem]; done)))) | (refine wpl_store rt117 rfl _ _ rfl _ rfl (tab .u32 20 x) rfl ?_ (tab_size _ _ _) (tab_all _ _ _) (((((w.alloc (c32 b)).alloc (c20 x)).alloc (c20 x)).exts bs).dr n) ?_ ?_; (focus (first | (simp [go_sem]; done) | (simp (disch := first | (simp [go_sem]; done) | (simp [go_sem]; omega)) [go_sem]; done))); (focus (first | (simp [go_sem]; done) | (simp (disch := first | (simp [go_sem]; done) | (simp [go_sem]; omega)) [go_sem]; done)))))
      exact bodyPost_ret (v := .agg (tab .u32 20 x)) (by rw [results_row rt117 Try.results77 _ _ (w.heap.size + 1) rfl (by first | (simp [go_sem]; done) | (simp (disch := first | (simp [go_sem]; done) | (simp [go_sem]; omega)) [go_sem]; done))]; first | (simp [go_sem]; done) | (simp (disch := first | (simp [go_sem]; done) | (simp [go_sem]; omega)) [go_sem]; done)) rfl ⟨x, rfl, D.1, D.2, below3e _ _ _ _ _ _⟩

set_option maxHeartbeats 1000000 in
theorem bytes_any (f : Nat → Int) (hf : Tidy f) (w : World) :
    Calls Try.prog 84 #[.agg (tab .u32 20 f)] w fun e w' => ∃ b, e = .returned (.agg (tab .u8 32 b)) ∧ (∀ i, i < 32 → 0 ≤ b i ∧ b i ≤ 255) ∧ bval 32 b = lval 20 f % P25519 ∧ Below w.heap.size w w' := by
  go_enter Try.func84, Try.ntmps84
  go_wp2_with (first | (refine wpl_load rt117 rfl _ rfl _ rfl (tab .u32 20 f) ?_ (tab_size _ _ _) ?_; (focus (first | (simp [go_sem]; done) | (simp (disch := first | (simp [go_sem]; done) | (simp [go_sem]; omega)) [go_sem]; done)))) | (go_at_call 96; refine (least_any _ hf _).mono ?_; rintro e w' ⟨x, rfl, hx1, hx2, hx3, hx4, hb1⟩; obtain ⟨bs1, n1, rfl⟩ := below_form hb1) | (refine wpl_store rt117 rfl _ _ rfl _ rfl (tab .u32 20 x) rfl ?_ (tab_size _ _ _) (tab_all _ _ _) (((((w.alloc (c20 f)).alloc z32).exts bs1).alloc (c20 x)).dr n1) ?_ ?_; (focus (first | (simp [go_sem]; done) | (simp (disch := first | (simp [go_sem]; done) | (simp [go_sem]; omega)) [go_sem]; done))); (focus (first | (simp [go_sem]; done) | (simp (disch := first | (simp [go_sem]; done) | (simp [go_sem]; omega)) [go_sem]; done)))))
  have sz : (((w.alloc (c20 f)).alloc z32).exts bs1).heap.size = w.heap.size + 1 + 1 + bs1.length := by simp [go_sem]
  have xb : ∀ i, i < 20 → 0 ≤ x i ∧ x i < 4294967296 := fun i hi => ⟨hx1 i hi, by
    by_cases e : i = 19
    · subst e; omega
    · have := hx2 i (by omega); omega⟩
  go_loopw [5] (fun i wr => ∃ (k n : Nat) (b : Nat → Int), k ≤ 255 ∧ i = .int .i64 k ∧ FilledB x k b ∧ wr = (((((w.alloc (c20 f)).alloc z32).exts bs1).alloc (c20 x)).alloc (c32 b)).dr n) (fun i _ => 255 - (intOf i).toNat)
  case atStart => exact ⟨0, _, _, by omega, rfl, FilledB.start x, rfl⟩
  case round =>
    obtain ⟨k, n, b, hk, rfl, hx, rfl⟩ := hrel
    by_cases hlt : k < 255
    · have c1 : (k : Int) < 255 := by omega
      have c2 : k / 13 < 20 := by omega
      have c3 : (k : Int) / 13 < 20 := by omega
      have c4 : k / 8 < 32 := by omega
      have c5 : (k : Int) / 8 < 32 := by omega
      have xk := xb (k / 13) c2
      have sk := shr_bd (k % 13) xk.1 xk.2
      have HB : bits .and .u32 (x (k / 13) / 2 ^ (k % 13)) 1 = lbit x k := by rw [bits_and_1 _ sk.1 sk.2]; rfl
      have b1 := lbit_01 x k
      clear xb hx1 hx2 sz
      go_wp2
      go_roundw
      case rel => exact ⟨k + 1, _, _, by omega, by go_num, hx.step hlt, by rw [bit_pow8 _ b1 (by omega), or_bit8 _ _ _ (hx.nn _ c4) hx.at_ b1 (by omega)]⟩
      case measure => simp [intOf]; omega
    · have hk' : k = 255 := by omega
      subst hk'
      have D := hx.done
      go_wp2_with (first | (refine wpl_load rt107 rfl _ rfl _ rfl (tab .u8 32 b) ?_ (tab_size _ _ _) ?_; (focus (first | (simp [go_sem]; done) | (simp (disch := first | (simp [go_sem]; done) | (simp [go_sem]; omega)) [go_sem]; done)))) | (refine wpl_store rt107 rfl _ _ rfl _ rfl (tab .u8 32 b) rfl ?_ (tab_size _ _ _) (tab_all _ _ _) ((((((w.alloc (c20 f)).alloc (c32 b)).exts bs1).alloc (c20 x)).alloc (c32 b)).dr n) ?_ ?_; (focus (first | (simp [go_sem]; done) | (simp (disch := first | (simp [go_sem]; done) | (simp [go_sem]; omega)) [go_sem]; done))); (focus (first | (simp [go_sem]; done) | (simp (disch := first | (simp [go_sem]; done) | (simp [go_sem]; omega)) [go_sem]; done)))))
      refine bodyPost_ret (v := .agg (tab .u8 32 b)) (by rw [results_row rt107 Try.results84 _ _ (w.heap.size + 1) rfl (by first | (simp [go_sem]; done) | (simp (disch := first | (simp [go_sem]; done) | (simp [go_sem]; omega)) [go_sem]; done))]; first | (simp [go_sem]; done) | (simp (disch := first | (simp [go_sem]; done) | (simp [go_sem]; omega)) [go_sem]; done)) rfl ⟨b, rfl, D.1, by rw [D.2, lsum_255 x hx1 hx2 hx3, hx4], ?_⟩
      exact below_dr (((below_exts' (((Below.refl _ _).alloc (Nat.le_refl _) _).alloc (by simp) _) (by simp; omega) _).alloc (by simp [go_sem]; omega) _).alloc (by simp [go_sem]; omega) _) _
end Go.Proofs.Ytogkchcclcbobaa
