/- The walks of package curve: numbers in limbs. -/
import Derived.Test.YtogkchcclcbobaaProg
import Derived.Test.YtogkchcclcbobaaBase
import Derived.Test.YtogkchcclcbobaaVal
namespace Go.Proofs.Ytogkchcclcbobaa
open Go.RowKit Go.Msg

theorem rt117 : RowTy Try.prog 117 20 := ⟨by decide, by kernel_rfl, _, Try.underlying117, rfl⟩
abbrev c20 (f : Nat → Int) : Obj := .cells (tab .u32 20 f) 117
abbrev z20 : Obj := .cells (tab .u32 20 (fun _ => 0)) 117
@[go_sem] theorem zero20 : #[Value.int IntKind.u32 0, Value.int IntKind.u32 0, Value.int IntKind.u32 0, Value.int IntKind.u32 0, Value.int IntKind.u32 0, Value.int IntKind.u32 0, Value.int IntKind.u32 0, Value.int IntKind.u32 0, Value.int IntKind.u32 0, Value.int IntKind.u32 0, Value.int IntKind.u32 0, Value.int IntKind.u32 0, Value.int IntKind.u32 0, Value.int IntKind.u32 0, Value.int IntKind.u32 0, Value.int IntKind.u32 0, Value.int IntKind.u32 0, Value.int IntKind.u32 0, Value.int IntKind.u32 0, Value.int IntKind.u32 0] = tab .u32 20 (fun _ => 0) := by rw [tab_eq]; rfl
theorem below2 (w : World) (A B : Obj) (n : Nat) : Below w.heap.size w (((w.alloc A).alloc B).dr n) :=
  below_dr (((Below.refl _ _).alloc (Nat.le_refl _) _).alloc (by simp) _) n

set_option maxHeartbeats 400000 in
theorem carried_any (f : Nat → Int) (hf : ∀ i, i < 20 → 0 ≤ f i ∧ f i ≤ 4294443008) (w : World) :
    Calls Try.prog 98 #[.agg (tab .u32 20 f)] w fun e w' => ∃ x, e = .returned (.agg (tab .u32 20 x)) ∧ Carried 20 f 19 x ∧ Below w.heap.size w w' := by
  go_enter Try.func98, Try.ntmps98
  go_wp2
  go_loopw [3] (fun i wr => ∃ (k n : Nat) (x : Nat → Int), k ≤ 19 ∧ i = .int .i64 k ∧ Carried 20 f k x ∧ wr = ((w.alloc (.cells (tab .u32 20 x) 117)).alloc (.cells (tab .u32 20 (fun _ => 0)) 117)).dr n) (fun i _ => 19 - (intOf i).toNat)
  case atStart => exact ⟨0, _, f, by omega, rfl, Carried.start 20 f (hf 0 (by omega)).1, (World.dr_self _).symm⟩
  case round =>
    obtain ⟨k, n, x, hk, rfl, hc, rfl⟩ := hrel
    by_cases hlt : k < 19
    · have c0 : (0:Int) ≤ k := by omega
      have c1 : (k:Int) + 1 < 20 := by omega
      have c2 : k + 1 < 20 := by omega
      have c3 : k < 20 := by omega
      obtain ⟨b1, b2, b3, b4⟩ : 0 ≤ x k ∧ x k < 4294967296 ∧ 0 ≤ x (k + 1) ∧ x (k + 1) ≤ 4294443008 := by
        have h1 := hc.at_; have h2 := hc.high (k + 1) (by omega); have h3 := hf k c3; have h4 := hf (k + 1) c2
        rw [h2]; omega
      go_wp2
      go_region
      go_wp2
      go_roundw
      case rel => exact ⟨k + 1, _, carry1 x k, by omega, by go_num, hc.step c2 hf, by rw [bits_and_8191 _ b1 b2]; rfl⟩
      case measure => simp [intOf]; omega
    · have hk' : k = 19 := by omega
      subst hk'
      go_wp2_with (first | (refine wpl_load rt117 rfl _ rfl _ rfl (tab .u32 20 x) (by simp [go_sem]) (tab_size _ _ _) ?_) | (refine wpl_store rt117 rfl _ _ rfl _ rfl (tab .u32 20 x) rfl (by simp [go_sem]) (tab_size _ _ _) (tab_all _ _ _) (((w.alloc (.cells (tab .u32 20 x) 117)).alloc (.cells (tab .u32 20 x) 117)).dr n) (by simp [go_sem]) ?_))
      exact bodyPost_ret (v := .agg (tab .u32 20 x)) (by rw [results_row rt117 Try.results98 _ _ (w.heap.size + 1) rfl (by simp [go_sem])]; simp [go_sem]) rfl ⟨x, rfl, hc, below2 _ _ _ _⟩
end Go.Proofs.Ytogkchcclcbobaa
