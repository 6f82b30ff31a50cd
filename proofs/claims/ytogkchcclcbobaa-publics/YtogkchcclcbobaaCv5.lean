/- The walks of package curve: narrowed, times, square. -/
import Derived.Test.YtogkchcclcbobaaCv4
namespace Go.Proofs.Ytogkchcclcbobaa
open Go.RowKit Go.Msg

theorem rt130 : RowTy Try.prog 130 40 := ⟨by decide, by kernel_rfl, _, Try.underlying130, rfl⟩
abbrev c40 (f : Nat → Int) : Obj := .cells (tab .u32 40 f) 130
@[go_sem] theorem zero40 : #[Value.int IntKind.u32 0, Value.int IntKind.u32 0, Value.int IntKind.u32 0, Value.int IntKind.u32 0, Value.int IntKind.u32 0, Value.int IntKind.u32 0, Value.int IntKind.u32 0, Value.int IntKind.u32 0, Value.int IntKind.u32 0, Value.int IntKind.u32 0, Value.int IntKind.u32 0, Value.int IntKind.u32 0, Value.int IntKind.u32 0, Value.int IntKind.u32 0, Value.int IntKind.u32 0, Value.int IntKind.u32 0, Value.int IntKind.u32 0, Value.int IntKind.u32 0, Value.int IntKind.u32 0, Value.int IntKind.u32 0, Value.int IntKind.u32 0, Value.int IntKind.u32 0, Value.int IntKind.u32 0, Value.int IntKind.u32 0, Value.int IntKind.u32 0, Value.int IntKind.u32 0, Value.int IntKind.u32 0, Value.int IntKind.u32 0, Value.int IntKind.u32 0, Value.int IntKind.u32 0, Value.int IntKind.u32 0, Value.int IntKind.u32 0, Value.int IntKind.u32 0, Value.int IntKind.u32 0, Value.int IntKind.u32 0, Value.int IntKind.u32 0, Value.int IntKind.u32 0, Value.int IntKind.u32 0, Value.int IntKind.u32 0, Value.int IntKind.u32 0] = tab .u32 40 (fun _ => 0) := by rw [tab_eq]; rfl

set_option maxHeartbeats 800000 in
theorem narrowed_any (f : Nat → Int) (hf : ∀ i, i < 40 → 0 ≤ f i ∧ f i ≤ 4294443008) (hz : f 39 = 0) (w : World) :
    Calls Try.prog 95 #[.agg (tab .u32 40 f)] w fun e w' => ∃ x, e = .returned (.agg (tab .u32 20 x)) ∧ Tidy x ∧ lval 20 x % P25519 = lval 40 f % P25519 ∧ Below w.heap.size w w' := by
  go_enter Try.func95, Try.ntmps95
  go_wp2
  go_loopw [3] (fun i wr => ∃ (k n : Nat) (x : Nat → Int), k ≤ 39 ∧ i = .int .i64 k ∧ Carried 40 f k x ∧ wr = ((w.alloc (c40 x)).alloc z20).dr n) (fun i _ => 39 - (intOf i).toNat)
  case atStart => exact ⟨0, _, f, by omega, rfl, Carried.start 40 f (hf 0 (by omega)).1, (World.dr_self _).symm⟩
  case round =>
    obtain ⟨k, n, x, hk, rfl, hc, rfl⟩ := hrel
    by_cases hlt : k < 39
    · have c0 : (0:Int) ≤ k := by omega
      have c1 : (k:Int) + 1 < 40 := by omega
      have c2 : k + 1 < 40 := by omega
      have c3 : k < 40 := by omega
      obtain ⟨b1, b2, b3, b4⟩ : 0 ≤ x k ∧ x k < 4294967296 ∧ 0 ≤ x (k + 1) ∧ x (k + 1) ≤ 4294443008 := by
        have h1 := hc.at_; have h2 := hc.high (k + 1) (by omega); have h3 := hf k c3; have h4 := hf (k + 1) c2
        rw [h2]; omega
      go_wp2
      go_region
      go_wp2
      go_roundw
      case rel => exact ⟨k + 1, _, carry1 x k, by omega, by go_num, hc.step c2 hf, by rw [bits_and_8191 _ b1 b2]; rfl⟩
      case measure => simp [intOf]; omega
    · have hk' : k = 39 := by omega
      subst hk'
      have xb : ∀ i, i < 40 → 0 ≤ x i ∧ x i ≤ 524287 := fun i hi => by
        by_cases e : i = 39
        · subst e; have := hc.at_; omega
        · have := hc.low i (by omega); omega
      clear hf
      go_wp2
      go_loopw [5] (fun i wr => ∃ (k n : Nat), k ≤ 20 ∧ i = .int .i64 k ∧ wr = (((w.alloc (c40 x)).alloc z20).alloc (c20 (fold20 x k))).dr n) (fun i _ => 20 - (intOf i).toNat)
      case atStart => exact ⟨0, _, by omega, rfl, by rw [fold20_zero]⟩
      case round =>
        obtain ⟨k, n, hk, rfl, rfl⟩ := hrel
        by_cases hlt : k < 20
        · have c0 : (0:Int) ≤ k := by omega
          have c1 : (k:Int) < 20 := by omega
          have c2 : 20 + k < 40 := by omega
          have c3 : k < 40 := by omega
          obtain ⟨b1, b2⟩ := xb k c3
          obtain ⟨b3, b4⟩ := xb (20 + k) c2
          go_wp2
          go_region
          go_wp2
          go_roundw
          case rel => exact ⟨k + 1, _, by omega, by go_num, by rw [fold20_step]⟩
          case measure => simp [intOf]; omega
        · have hk' : k = 20 := by omega
          subst hk'
          have hb : ∀ i, i < 20 → 0 ≤ fold20 x 20 i ∧ fold20 x 20 i ≤ 4294443008 := fun i hi => by
            have := xb i (by omega); have := xb (20 + i) (by omega)
            simp only [fold20, hi, if_true]; omega
          go_wp2_with (first | (refine wpl_load rt117 rfl _ rfl _ rfl (tab .u32 20 (fold20 x 20)) ?_ (tab_size _ _ _) ?_; (focus (first | (simp [go_sem]; done) | (simp (disch := first | (simp [go_sem]; done) | (simp [go_sem]; omega)) [go_sem]; done)))) | (go_at_call 97; refine (tidy_any _ ?_ _).mono ?_; (focus (with_reducible exact hb)); rintro e w' ⟨y, rfl, hy, hv, hb1⟩; obtain ⟨bs1, n1, rfl⟩ := below_form hb1) | (refine wpl_store rt117 rfl _ _ rfl _ rfl (tab .u32 20 y) rfl ?_ (tab_size _ _ _) (tab_all _ _ _) (((((w.alloc (c40 x)).alloc (c20 y)).alloc (c20 (fold20 x 20))).exts bs1).dr n1) ?_ ?_; (focus (first | (simp [go_sem]; done) | (simp (disch := first | (simp [go_sem]; done) | (simp [go_sem]; omega)) [go_sem]; done))); (focus (first | (simp [go_sem]; done) | (simp (disch := first | (simp [go_sem]; done) | (simp [go_sem]; omega)) [go_sem]; done)))))
          exact bodyPost_ret (v := .agg (tab .u32 20 y)) (by rw [results_row rt117 Try.results95 _ _ (w.heap.size + 1) rfl (by first | (simp [go_sem]; done) | (simp (disch := first | (simp [go_sem]; done) | (simp [go_sem]; omega)) [go_sem]; done))]; first | (simp [go_sem]; done) | (simp (disch := first | (simp [go_sem]; done) | (simp [go_sem]; omega)) [go_sem]; done)) rfl ⟨y, rfl, hy, by rw [hv, fold20_lval, hc.vl], below3e _ _ _ _ _ _⟩

set_option maxHeartbeats 800000 in
theorem times_any (f g : Nat → Int) (hf : Tidy f) (hg : Tidy g) (w : World) :
    Calls Try.prog 83 #[.agg (tab .u32 20 f), .agg (tab .u32 20 g)] w fun e w' => ∃ x, e = .returned (.agg (tab .u32 20 x)) ∧ Tidy x ∧ lval 20 x % P25519 = (lval 20 f * lval 20 g) % P25519 ∧ Below w.heap.size w w' := by
  go_enter Try.func83, Try.ntmps83
  go_wp2
  go_loopw [6] (fun i wr => ∃ (k n : Nat) (W : Nat → Int), k ≤ 20 ∧ i = .int .i64 k ∧ Cols f g k 0 W ∧ wr = ((((w.alloc (c20 f)).alloc (c20 g)).alloc z20).alloc (c40 W)).dr n) (fun i _ => 20 - (intOf i).toNat)
  case atStart => exact ⟨0, _, _, by omega, rfl, Cols.start f g, (World.dr_self _).symm⟩
  case round =>
    obtain ⟨k, n, W, hk, rfl, hc, rfl⟩ := hrel
    by_cases hlt : k < 20
    · go_wp2
      go_loopw [7] (fun j wr => ∃ (m n : Nat) (W : Nat → Int), m ≤ 20 ∧ j = .int .i64 m ∧ Cols f g k m W ∧ wr = ((((w.alloc (c20 f)).alloc (c20 g)).alloc z20).alloc (c40 W)).dr n) (fun i _ => 20 - (intOf i).toNat)
      case atStart => exact ⟨0, _, _, by omega, rfl, hc, rfl⟩
      case round =>
        clear hc
        obtain ⟨m, n, W, hm, rfl, hc, rfl⟩ := hrel
        by_cases hlt2 : m < 20
        · have c0 : (0:Int) ≤ k := by omega
          have c1 : (k:Int) < 20 := by omega
          have c2 : (m:Int) < 20 := by omega
          have c3 : (0:Int) ≤ m := by omega
          have c4 : k + m < 40 := by omega
          have b1 := hf.le' k hlt
          have b2 := hg.le' m hlt2
          have b3 := mul_bd b1.1 b1.2 b2.1 b2.2
          have b4 := hc.bd hlt (k + m) c4
          go_wp2
          go_region
          go_wp2
          go_roundw
          case rel => exact ⟨m + 1, _, _, by omega, by go_num, hc.step hlt hlt2 hf hg, rfl⟩
          case measure => simp [intOf]; omega
        · have hk' : m = 20 := by omega
          subst hk'
          go_wp2
          go_roundw
          case rel => exact ⟨k + 1, _, _, by omega, by go_num, hc.row, rfl⟩
          case measure => simp [intOf]; omega
    · have hk' : k = 20 := by omega
      subst hk'
      have hb : ∀ i, i < 40 → 0 ≤ W i ∧ W i ≤ 4294443008 := fun i hi => by
        have := hc.nn i hi; have := hc.all i hi; omega
      have hz := hc.z
      go_wp2_with (first | (refine wpl_load rt130 rfl _ rfl _ rfl (tab .u32 40 W) ?_ (tab_size _ _ _) ?_; (focus (first | (simp [go_sem]; done) | (simp (disch := first | (simp [go_sem]; done) | (simp [go_sem]; omega)) [go_sem]; done)))) | (go_at_call 95; refine (narrowed_any _ ?_ hz _).mono ?_; (focus (with_reducible exact hb)); rintro e w' ⟨y, rfl, hy, hv, hb1⟩; obtain ⟨bs1, n1, rfl⟩ := below_form hb1) | (refine wpl_store rt117 rfl _ _ rfl _ rfl (tab .u32 20 y) rfl ?_ (tab_size _ _ _) (tab_all _ _ _) ((((((w.alloc (c20 f)).alloc (c20 g)).alloc (c20 y)).alloc (c40 W)).exts bs1).dr n1) ?_ ?_; (focus (first | (simp [go_sem]; done) | (simp (disch := first | (simp [go_sem]; done) | (simp [go_sem]; omega)) [go_sem]; done))); (focus (first | (simp [go_sem]; done) | (simp (disch := first | (simp [go_sem]; done) | (simp [go_sem]; omega)) [go_sem]; done)))))
      exact bodyPost_ret (v := .agg (tab .u32 20 y)) (by rw [results_row rt117 Try.results83 _ _ (w.heap.size + 1 + 1) rfl (by first | (simp [go_sem]; done) | (simp (disch := first | (simp [go_sem]; done) | (simp [go_sem]; omega)) [go_sem]; done))]; first | (simp [go_sem]; done) | (simp (disch := first | (simp [go_sem]; done) | (simp [go_sem]; omega)) [go_sem]; done)) rfl ⟨y, rfl, hy, by rw [hv, hc.vl]; simp [lval], below4e _ _ _ _ _ _ _⟩

set_option maxHeartbeats 400000 in
theorem square_any (f : Nat → Int) (hf : Tidy f) (w : World) :
    Calls Try.prog 93 #[.agg (tab .u32 20 f)] w fun e w' => ∃ x, e = .returned (.agg (tab .u32 20 x)) ∧ Tidy x ∧ lval 20 x % P25519 = (lval 20 f * lval 20 f) % P25519 ∧ Below w.heap.size w w' := by
  go_enter Try.func93, Try.ntmps93
  go_wp2_with (first | (refine wpl_load rt117 rfl _ rfl _ rfl (tab .u32 20 f) ?_ (tab_size _ _ _) ?_; (focus (first | (simp [go_sem]; done) | (simp (disch := first | (simp [go_sem]; done) | (simp [go_sem]; omega)) [go_sem]; done)))) | (go_at_call 83; refine (times_any _ _ hf hf _).mono ?_; rintro e w' ⟨y, rfl, hy, hv, hb1⟩; obtain ⟨bs1, n1, rfl⟩ := below_form hb1) | (refine wpl_store rt117 rfl _ _ rfl _ rfl (tab .u32 20 y) rfl ?_ (tab_size _ _ _) (tab_all _ _ _) ((((w.alloc (c20 f)).alloc (c20 y)).exts bs1).dr n1) ?_ ?_; (focus (first | (simp [go_sem]; done) | (simp (disch := first | (simp [go_sem]; done) | (simp [go_sem]; omega)) [go_sem]; done))); (focus (first | (simp [go_sem]; done) | (simp (disch := first | (simp [go_sem]; done) | (simp [go_sem]; omega)) [go_sem]; done)))))
  exact bodyPost_ret (v := .agg (tab .u32 20 y)) (by rw [results_row rt117 Try.results93 _ _ (w.heap.size + 1) rfl (by first | (simp [go_sem]; done) | (simp (disch := first | (simp [go_sem]; done) | (simp [go_sem]; omega)) [go_sem]; done))]; first | (simp [go_sem]; done) | (simp (disch := first | (simp [go_sem]; done) | (simp [go_sem]; omega)) [go_sem]; done)) rfl ⟨y, rfl, hy, hv, below2e _ _ _ _ _⟩
end Go.Proofs.Ytogkchcclcbobaa
