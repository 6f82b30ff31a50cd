/- The walks of package curve: least, plus, minus, small, timesFactor. -/
import Derived.Test.YtogkchcclcbobaaCv2
namespace Go.Proofs.Ytogkchcclcbobaa
open Go.RowKit Go.Msg

theorem below2e (w : World) (A B : Obj) (bs : List Obj) (n : Nat) : Below w.heap.size w ((((w.alloc A).alloc B).exts bs).dr n) :=
  below_dr (below_exts' (((Below.refl _ _).alloc (Nat.le_refl _) _).alloc (by simp) _) (by simp; omega) _) _
theorem below3e (w : World) (A B C : Obj) (bs : List Obj) (n : Nat) : Below w.heap.size w (((((w.alloc A).alloc B).alloc C).exts bs).dr n) :=
  below_dr (below_exts' ((((Below.refl _ _).alloc (Nat.le_refl _) _).alloc (by simp) _).alloc (by simp; omega) _) (by simp; omega) _) _
theorem below4e (w : World) (A B C D : Obj) (bs : List Obj) (n : Nat) : Below w.heap.size w ((((((w.alloc A).alloc B).alloc C).alloc D).exts bs).dr n) :=
  below_dr (below_exts' (((((Below.refl _ _).alloc (Nat.le_refl _) _).alloc (by simp) _).alloc (by simp; omega) _).alloc (by simp; omega) _) (by simp; omega) _) _

set_option maxHeartbeats 800000 in
theorem least_any (f : Nat → Int) (hf : Tidy f) (w : World) :
    Calls Try.prog 96 #[.agg (tab .u32 20 f)] w fun e w' => ∃ y, e = .returned (.agg (tab .u32 20 y)) ∧ (∀ i, i < 20 → 0 ≤ y i) ∧ (∀ i, i < 19 → y i ≤ 8191) ∧ y 19 ≤ 255 ∧ lval 20 y = lval 20 f % P25519 ∧ Below w.heap.size w w' := by
  have b0 : 0 ≤ f 0 := hf.nn 0 (by omega)
  have b1 : f 0 ≤ 8210 := hf.le0
  have hg : ∀ i, i < 20 → 0 ≤ upd f 0 (f 0 + 19) i ∧ upd f 0 (f 0 + 19) i ≤ 4294443008 := fun i hi => by
    have := hf.le' i hi
    by_cases e : i = 0
    · subst e; simp [upd]; omega
    · simp [upd, e]; omega
  have hg2 : ∀ q, 0 ≤ q → q ≤ 20000 → ∀ i, i < 20 → 0 ≤ upd f 0 (f 0 + 19 * q) i ∧ upd f 0 (f 0 + 19 * q) i ≤ 4294443008 := fun q h1 h2 i hi => by
    have := hf.le' i hi
    by_cases e : i = 0
    · subst e; simp [upd]; omega
    · simp [upd, e]; omega
  have f19 : upd f 0 (f 0 + 19) 19 = f 19 := by simp [upd]
  have t19 := hf.top
  go_enter Try.func96, Try.ntmps96
  go_wp2_with (first
    | (refine wpl_load rt117 rfl _ rfl _ rfl (tab .u32 20 f) ?_ (tab_size _ _ _) ?_; (focus (first | (simp [go_sem]; done) | (simp (disch := first | (simp [go_sem]; done) | (simp [go_sem]; omega)) [go_sem]; done))))
    | (refine wpl_store rt117 rfl _ _ rfl _ rfl (tab .u32 20 f) rfl ?_ (tab_size _ _ _) (tab_all _ _ _) (((w.alloc (c20 f)).alloc z20).alloc (c20 f)) ?_ ?_; (focus (first | (simp [go_sem]; done) | (simp (disch := first | (simp [go_sem]; done) | (simp [go_sem]; omega)) [go_sem]; done))); (focus (first | (simp [go_sem]; done) | (simp (disch := first | (simp [go_sem]; done) | (simp [go_sem]; omega)) [go_sem]; done))))
    | (refine wpl_load rt117 rfl _ rfl _ rfl (tab .u32 20 (upd f 0 (f 0 + 19))) ?_ (tab_size _ _ _) ?_; (focus (first | (simp [go_sem]; done) | (simp (disch := first | (simp [go_sem]; done) | (simp [go_sem]; omega)) [go_sem]; done))))
    | (go_at_call 98; refine (carried_any _ ?_ _).mono ?_; (focus (with_reducible exact hg)); rintro e w' ⟨x, rfl, hx, hb⟩; obtain ⟨bs, n, rfl⟩ := below_form hb; obtain ⟨hx1, hx2⟩ := hx.at_; rw [f19] at hx2)
    | (refine wpl_store rt117 rfl _ _ rfl _ rfl (tab .u32 20 x) rfl ?_ (tab_size _ _ _) (tab_all _ _ _) (((((w.alloc (c20 f)).alloc z20).alloc (c20 x)).exts bs).dr n) ?_ ?_; (focus (first | (simp [go_sem]; done) | (simp (disch := first | (simp [go_sem]; done) | (simp [go_sem]; omega)) [go_sem]; done))); (focus (first | (simp [go_sem]; done) | (simp (disch := first | (simp [go_sem]; done) | (simp [go_sem]; omega)) [go_sem]; done))))
    | (refine wpl_load rt117 rfl _ rfl _ rfl (tab .u32 20 (upd f 0 (f 0 + 19 * (x 19 / 256)))) ?_ (tab_size _ _ _) ?_; (focus (first | (simp [go_sem]; done) | (simp (disch := first | (simp [go_sem]; done) | (simp [go_sem]; omega)) [go_sem]; done))))
    | (go_at_call 98; refine (carried_any _ ?_ _).mono ?_; (focus (with_reducible exact hg2 _ (by omega) (by omega))); rintro e w' ⟨y, rfl, hy, hb⟩; obtain ⟨bs2, n2, rfl⟩ := below_form2 hb; obtain ⟨hy1, hy2⟩ := hy.at_)
    | (refine wpl_store rt117 rfl _ _ rfl _ rfl (tab .u32 20 y) rfl ?_ (tab_size _ _ _) (tab_all _ _ _) (((((w.alloc (c20 y)).alloc z20).alloc (c20 x)).exts bs2).dr n2) ?_ ?_; (focus (first | (simp [go_sem]; done) | (simp (disch := first | (simp [go_sem]; done) | (simp [go_sem]; omega)) [go_sem]; done))); (focus (first | (simp [go_sem]; done) | (simp (disch := first | (simp [go_sem]; done) | (simp [go_sem]; omega)) [go_sem]; done))))
    | (refine wpl_load rt117 rfl _ rfl _ rfl (tab .u32 20 (upd y 19 (bits .and .u32 (y 19) 255))) ?_ (tab_size _ _ _) ?_; (focus (first | (simp [go_sem]; done) | (simp (disch := first | (simp [go_sem]; done) | (simp [go_sem]; omega)) [go_sem]; done))))
    | (refine wpl_store rt117 rfl _ _ rfl _ rfl (tab .u32 20 (upd y 19 (bits .and .u32 (y 19) 255))) rfl ?_ (tab_size _ _ _) (tab_all _ _ _) (((((w.alloc (c20 (upd y 19 (bits .and .u32 (y 19) 255)))).alloc (c20 (upd y 19 (bits .and .u32 (y 19) 255)))).alloc (c20 x)).exts bs2).dr n2) ?_ ?_; (focus (first | (simp [go_sem]; done) | (simp (disch := first | (simp [go_sem]; done) | (simp [go_sem]; omega)) [go_sem]; done))); (focus (first | (simp [go_sem]; done) | (simp (disch := first | (simp [go_sem]; done) | (simp [go_sem]; omega)) [go_sem]; done)))))
  have hy19 : y 19 < 4294967296 := by have : upd f 0 (f 0 + 19 * (x 19 / 256)) 19 = f 19 := by simp [upd]
                                      omega
  have L := least_math hf rfl hx hy
  rw [bits_and_255 _ hy1 hy19]
  exact bodyPost_ret (v := .agg (tab .u32 20 (upd y 19 (y 19 % 256)))) (by rw [results_row rt117 Try.results96 _ _ (w.heap.size + 1) rfl (by first | (simp [go_sem]; done) | (simp (disch := first | (simp [go_sem]; done) | (simp [go_sem]; omega)) [go_sem]; done))]; first | (simp [go_sem]; done) | (simp (disch := first | (simp [go_sem]; done) | (simp [go_sem]; omega)) [go_sem]; done)) rfl ⟨_, rfl, L.1, L.2.1, L.2.2.1, L.2.2.2, below3e _ _ _ _ _ _⟩
end Go.Proofs.Ytogkchcclcbobaa
