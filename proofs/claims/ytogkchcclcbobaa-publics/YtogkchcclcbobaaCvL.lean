/- The walk of package curve: the ladder. -/
import Derived.Test.YtogkchcclcbobaaCvS
import Derived.Test.YtogkchcclcbobaaInv
namespace Go.Proofs.Ytogkchcclcbobaa
open Go.RowKit Go.Msg

theorem fold_tab (k : IntKind) (N : Nat) (F x : Nat → Int) (off : Nat) : ∀ n, off + n ≤ N →
    (((List.range n).map fun i => Value.int k (x i)).zipIdx).foldl (fun cs (p : Value × Nat) => cs.setIfInBounds (off + p.2) p.1) (tab k N F) = tab k N (splice F off n x) := by
  intro n
  induction n with
  | zero => intro _; simp only [List.range_zero, List.map_nil, List.zipIdx_nil, List.foldl_nil]; exact tab_congr fun j _ => by simp [splice]; omega
  | succ n ih =>
    intro h
    rw [List.range_succ, List.map_append, List.zipIdx_append, List.foldl_append, ih (by omega)]
    simp only [List.map_cons, List.map_nil, List.length_map, List.length_range, Nat.zero_add, List.zipIdx_cons, List.zipIdx_nil, List.foldl_cons, List.foldl_nil]
    rw [tab_set]
    refine tab_congr fun j _ => ?_
    unfold upd splice
    by_cases e : j = off + n
    · subst e; rw [if_pos rfl, if_pos (by omega)]; congr 1; omega
    · rw [if_neg e]
      by_cases e2 : off ≤ j ∧ j < off + n
      · rw [if_pos e2, if_pos (by omega)]
      · rw [if_neg e2, if_neg (by omega)]
theorem fill_tab (place : Nat → Option (Nat × Nat)) (k : IntKind) (N n off i : Nat) (F x : Nat → Int) (rest : List (Nat × Value)) (hp : place i = some (off, n)) (h : off + n ≤ N) :
    Instr.fill place (tab k N F) ((i, .agg (tab k n x)) :: rest) = Instr.fill place (tab k N (splice F off n x)) rest := by
  have hf : (tab k n x).zipIdx.foldl (fun cs (p : Value × Nat) => cs.setIfInBounds (off + p.2) p.1) (tab k N F) = tab k N (splice F off n x) := by
    rw [← fold_tab k N F x off n h, tab_eq k n x]
    simp
  rw [Instr.fill, hp]
  simp only [Value.cells, tab_size]
  rw [if_neg (by simp; omega)]
  rw [← hf]
theorem info121 : (Try.prog.info? 121).map (·.zero) = some (some (.agg Try.zeroCells121)) := by kernel_rfl
theorem places121 : ∃ fields, Try.prog.underlying 121 = some (.struct fields) ∧ fields.toList.mapM (fun f => (Try.prog.info? f.type).map fun i => (f.offset, i.size)) = some [(0, 20), (20, 20), (40, 20), (60, 20)] := ⟨_, Try.underlying121, by kernel_rfl⟩
/-- The ladder's four numbers in one row. -/
def four (x0 x1 x2 x3 : Nat → Int) : Nat → Int := splice (splice (splice (splice (fun _ => 0) 0 20 x0) 20 20 x1) 40 20 x2) 60 20 x3
theorem built121 (x0 x1 x2 x3 : Nat → Int) : Try.prog.built 121 [(0, .agg (tab .u32 20 x0)), (1, .agg (tab .u32 20 x1)), (2, .agg (tab .u32 20 x2)), (3, .agg (tab .u32 20 x3))] = some (tab .u32 80 (four x0 x1 x2 x3)) := by
  have h1 := info121
  obtain ⟨fields, h2, h3⟩ := places121
  cases hi : Try.prog.info? 121 with
  | none => rw [hi] at h1; cases h1
  | some it =>
    rw [hi] at h1
    have hz : it.zero = some (.agg Try.zeroCells121) := by simpa using h1
    clear h1
    generalize Try.prog = P at *
    unfold Program.built
    simp only [hi, h2, hz, h3]
    simp only [Value.cells, zero80]
    rw [fill_tab _ _ 80 20 0 0 _ _ _ rfl (by omega), fill_tab _ _ 80 20 20 1 _ _ _ rfl (by omega), fill_tab _ _ 80 20 40 2 _ _ _ rfl (by omega), fill_tab _ _ 80 20 60 3 _ _ _ rfl (by omega)]
    rfl

abbrev one20 : Nat → Int := upd (fun _ => 0) 0 1
abbrev nil20 : Nat → Int := upd (fun _ => 0) 0 0
/-- The frame when these operations have come up. -/
def lfr (l : Array Bool) (U : Nat → Int) (g : Nat) (a0 : Act) : Act :=
  pt (l.getD 0 false) 13 (.agg (tab .u32 20 one20)) (pt (l.getD 1 false) 14 (.agg (tab .u32 20 nil20)) (pt (l.getD 2 false) 15 (.agg (tab .u32 20 U)) (pt (l.getD 3 false) 16 (.agg (tab .u32 20 one20))
    (pt (l.getD 4 false) 17 (.agg (tab .u32 80 (four one20 nil20 U one20))) (pt (l.getD 5 false) 6 (.pointer (some ⟨g, 0, none⟩)) a0)))))
def linv (V : World) (U : Nat → Int) (a0 : Act) (l : Array Bool) (a : Act) (w : World) : Prop :=
  (l.getD 5 false = false → l.getD 6 false = false) ∧ ∃ g, a = lfr l U g a0 ∧ Below V.heap.size V w ∧ (l.getD 5 false = true → V.heap.size ≤ g ∧ w.rowOf g = tab .u32 80 (if l.getD 6 false then four one20 nil20 U one20 else fun _ => 0))
theorem getD_set_self {l : Array Bool} {i : Nat} (h : i < l.size) : (l.setIfInBounds i true).getD i false = true := by simp [h]
theorem listed_of {l : Array Bool} {i : Nat} (h : i < l.size) : l.getD i true = l.getD i false := by simp [h]
set_option maxRecDepth 8000 in
set_option linter.unusedSimpArgs false in
theorem ladder_region {Q : Exit → Act → World → Prop} {id : Nat} {a0 : Act} {V : World} {y0 y1 y2 y3 y4 y5 y6 : TypeId} {p0 p1 p2 p3 p4 p5 p6 : String}
    (hsz : 17 < a0.tmps.size) (U : Nat → Int) (gU : Nat) (h5 : a0.eval (.tmp 5) = .pointer (some ⟨gU, 0, none⟩)) (hU : V.rowOf gU = tab .u32 20 U)
    (h : ∀ g V', Below V.heap.size V V' → V.heap.size ≤ g → V'.rowOf g = tab .u32 80 (four one20 nil20 U one20) →
      Q .normal ((((((a0.put (some 6) (.pointer (some ⟨g, 0, none⟩))).put (some 17) (.agg (tab .u32 80 (four one20 nil20 U one20)))).put (some 16) (.agg (tab .u32 20 one20))).put (some 15) (.agg (tab .u32 20 U))).put (some 14) (.agg (tab .u32 20 nil20))).put (some 13) (.agg (tab .u32 20 one20))) V') :
    (Code.region id #[⟨some 13, .call { callee := .value (.func 78), args := #[.const (.int .u32 1)], argTypes := #[115] }, y0, p0, #[], none⟩,
      ⟨some 14, .call { callee := .value (.func 78), args := #[.const (.int .u32 0)], argTypes := #[115] }, y1, p1, #[⟨0, .chain⟩], none⟩,
      ⟨some 15, .load 117 (.tmp 5), y2, p2, #[], none⟩,
      ⟨some 16, .call { callee := .value (.func 78), args := #[.const (.int .u32 1)], argTypes := #[115] }, y3, p3, #[⟨1, .chain⟩], none⟩,
      ⟨some 17, .build 121 #[(0, .tmp 13), (1, .tmp 14), (2, .tmp 15), (3, .tmp 16)], y4, p4, #[⟨0, .data⟩, ⟨1, .data⟩, ⟨2, .data⟩, ⟨3, .data⟩], none⟩,
      ⟨some 6, .alloc 121, y5, p5, #[], none⟩,
      ⟨none, .store 121 (.tmp 6) (.tmp 17), y6, p6, #[⟨5, .data⟩, ⟨4, .data⟩, ⟨3, .chain⟩, ⟨0, .phase⟩, ⟨1, .phase⟩, ⟨2, .phase⟩, ⟨3, .phase⟩, ⟨4, .phase⟩, ⟨5, .phase⟩], none⟩] true).wp Try.prog Q a0 V := by
  refine wp_region_inv mixed_any (linv V U a0) ⟨fun _ => by simp, 0, by simp [lfr, pt], (Below.refl _ _).drew, by simp⟩ ?_ ?_
  · intro l a w' i hl hI hi
    obtain ⟨hun, o, ho, hdep⟩ := mem_ready.1 hi
    obtain ⟨h65, g, rfl, hB, hg⟩ := hI
    have hl7 : l.size = 7 := hl
    have hrow : w'.rowOf gU = tab .u32 20 U := by rw [below_row hB (by rw [hU, tab_size]; omega), hU]
    have hi7 : i = 0 ∨ i = 1 ∨ i = 2 ∨ i = 3 ∨ i = 4 ∨ i = 5 ∨ i = 6 := by
      have := (Array.getElem?_eq_some_iff.1 ho).1; simp at this; omega
    have ek : ∀ i j, j ≠ i → (l.setIfInBounds i true).getD j false = l.getD j false := fun i j hj => getD_set_ne false (Ne.symm hj)
    have keep : ∀ i w2, Below w'.heap.size w' w2 → i ≠ 5 → i ≠ 6 → (l.setIfInBounds i true).getD 5 false = true → V.heap.size ≤ g ∧ w2.rowOf g = tab .u32 80 (if (l.setIfInBounds i true).getD 6 false then four one20 nil20 U one20 else fun _ => 0) := by
      intro i w2 hb h5' h6' hl5
      rw [ek i 5 (Ne.symm h5')] at hl5
      rw [ek i 6 (Ne.symm h6')]
      obtain ⟨k1, k2⟩ := hg hl5
      exact ⟨k1, by rw [below_row hb (by rw [k2, tab_size]; omega), k2]⟩
    have k65 : ∀ i, i ≠ 5 → i ≠ 6 → (l.setIfInBounds i true).getD 5 false = false → (l.setIfInBounds i true).getD 6 false = false := fun i h5' h6' e => by
      rw [ek i 5 (Ne.symm h5')] at e; rw [ek i 6 (Ne.symm h6')]; exact h65 e
    rcases hi7 with rfl | rfl | rfl | rfl | rfl | rfl | rfl
    · refine wpOp_here (o := ⟨some 13, .call { callee := .value (.func 78), args := #[.const (.int .u32 1)], argTypes := #[115] }, y0, p0, #[], none⟩) rfl rfl (wp_call_here 78 #[.int .u32 1] (by simp [go_sem]) _ (small_any 1 (by omega) (by omega) w') ?_)
      rintro e w2 ⟨rfl, hb⟩
      rw [listed_of (by omega)] at hun
      refine ⟨_, rfl, k65 0 (by omega) (by omega), g, ?_, hB.trans (hb.mono hB.size), keep 0 w2 hb (by omega) (by omega)⟩
      simp only [lfr, hun, getD_set_self (show 0 < l.size by omega), ek 0 1 (by omega), ek 0 2 (by omega), ek 0 3 (by omega), ek 0 4 (by omega), ek 0 5 (by omega), ek 0 6 (by omega)]
      simp [pt_put]; simp [pt]
    · refine wpOp_here (o := ⟨some 14, .call { callee := .value (.func 78), args := #[.const (.int .u32 0)], argTypes := #[115] }, y1, p1, #[⟨0, .chain⟩], none⟩) rfl rfl (wp_call_here 78 #[.int .u32 0] (by simp [go_sem]) _ (small_any 0 (by omega) (by omega) w') ?_)
      rintro e w2 ⟨rfl, hb⟩
      rw [listed_of (by omega)] at hun
      refine ⟨_, rfl, k65 1 (by omega) (by omega), g, ?_, hB.trans (hb.mono hB.size), keep 1 w2 hb (by omega) (by omega)⟩
      simp only [lfr, hun, getD_set_self (show 1 < l.size by omega), ek 1 0 (by omega), ek 1 2 (by omega), ek 1 3 (by omega), ek 1 4 (by omega), ek 1 5 (by omega), ek 1 6 (by omega)]
      simp [pt_put]; simp [pt]
    · have hx : (lfr l U g a0).eval (.tmp 5) = .pointer (some ⟨gU, 0, none⟩) := by
        unfold lfr
        rw [pt_eval _ _ _ _ _ (by omega), pt_eval _ _ _ _ _ (by omega), pt_eval _ _ _ _ _ (by omega), pt_eval _ _ _ _ _ (by omega), pt_eval _ _ _ _ _ (by omega), pt_eval _ _ _ _ _ (by omega)]; exact h5
      have hrun := run_load_row rt117 w' gU (by rw [hrow, tab_size])
      rw [hrow] at hrun
      refine wpOp_here (o := ⟨some 15, .load 117 (.tmp 5), y2, p2, #[], none⟩) rfl rfl (wp_value_here (.agg (tab .u32 20 U)) (w' := w') (by unfold execOp; simp only [hx]; rw [Sem.run_bind, hrun]; rfl) ?_)
      rw [listed_of (by omega)] at hun
      refine ⟨k65 2 (by omega) (by omega), g, ?_, hB, keep 2 w' (Below.refl _ _) (by omega) (by omega)⟩
      simp only [lfr, hun, getD_set_self (show 2 < l.size by omega), ek 2 0 (by omega), ek 2 1 (by omega), ek 2 3 (by omega), ek 2 4 (by omega), ek 2 5 (by omega), ek 2 6 (by omega)]
      simp [pt_put]; simp [pt]
    · refine wpOp_here (o := ⟨some 16, .call { callee := .value (.func 78), args := #[.const (.int .u32 1)], argTypes := #[115] }, y3, p3, #[⟨1, .chain⟩], none⟩) rfl rfl (wp_call_here 78 #[.int .u32 1] (by simp [go_sem]) _ (small_any 1 (by omega) (by omega) w') ?_)
      rintro e w2 ⟨rfl, hb⟩
      rw [listed_of (by omega)] at hun
      refine ⟨_, rfl, k65 3 (by omega) (by omega), g, ?_, hB.trans (hb.mono hB.size), keep 3 w2 hb (by omega) (by omega)⟩
      simp only [lfr, hun, getD_set_self (show 3 < l.size by omega), ek 3 0 (by omega), ek 3 1 (by omega), ek 3 2 (by omega), ek 3 4 (by omega), ek 3 5 (by omega), ek 3 6 (by omega)]
      simp [pt_put]; simp [pt]
    · have ho' : ⟨some 17, .build 121 #[(0, .tmp 13), (1, .tmp 14), (2, .tmp 15), (3, .tmp 16)], y4, p4, #[⟨0, .data⟩, ⟨1, .data⟩, ⟨2, .data⟩, ⟨3, .data⟩], none⟩ = o := by simpa using ho
      subst ho'
      have b0 : l.getD 0 false = true := hdep ⟨0, .data⟩ (by simp) rfl
      have b1 : l.getD 1 false = true := hdep ⟨1, .data⟩ (by simp) rfl
      have b2 : l.getD 2 false = true := hdep ⟨2, .data⟩ (by simp) rfl
      have b3 : l.getD 3 false = true := hdep ⟨3, .data⟩ (by simp) rfl
      have x0 : (lfr l U g a0).eval (.tmp 13) = .agg (tab .u32 20 one20) := by
        unfold lfr; rw [b0]; exact pt_eval_same _ _ _ (by simp only [pt_size]; omega)
      have x1 : (lfr l U g a0).eval (.tmp 14) = .agg (tab .u32 20 nil20) := by
        unfold lfr; rw [pt_eval _ _ _ _ _ (by omega), b1]; exact pt_eval_same _ _ _ (by simp only [pt_size]; omega)
      have x2 : (lfr l U g a0).eval (.tmp 15) = .agg (tab .u32 20 U) := by
        unfold lfr; rw [pt_eval _ _ _ _ _ (by omega), pt_eval _ _ _ _ _ (by omega), b2]; exact pt_eval_same _ _ _ (by simp only [pt_size]; omega)
      have x3 : (lfr l U g a0).eval (.tmp 16) = .agg (tab .u32 20 one20) := by
        unfold lfr; rw [pt_eval _ _ _ _ _ (by omega), pt_eval _ _ _ _ _ (by omega), pt_eval _ _ _ _ _ (by omega), b3]; exact pt_eval_same _ _ _ (by simp only [pt_size]; omega)
      refine wpOp_here (o := ⟨some 17, .build 121 #[(0, .tmp 13), (1, .tmp 14), (2, .tmp 15), (3, .tmp 16)], y4, p4, #[⟨0, .data⟩, ⟨1, .data⟩, ⟨2, .data⟩, ⟨3, .data⟩], none⟩) rfl rfl (wp_value_here (.agg (tab .u32 80 (four one20 nil20 U one20))) (w' := w') ?_ ?_)
      · have hb := run_build (P := Try.prog) w' 121 #[(0, .agg (tab .u32 20 one20)), (1, .agg (tab .u32 20 nil20)), (2, .agg (tab .u32 20 U)), (3, .agg (tab .u32 20 one20))] _ (built121 one20 nil20 U one20)
        unfold execOp
        simp only [List.map_toArray, List.map_cons, List.map_nil, x0, x1, x2, x3]
        rw [Sem.run_bind, hb]; rfl
      rw [listed_of (by omega)] at hun
      refine ⟨k65 4 (by omega) (by omega), g, ?_, hB, keep 4 w' (Below.refl _ _) (by omega) (by omega)⟩
      simp only [lfr, hun, getD_set_self (show 4 < l.size by omega), ek 4 0 (by omega), ek 4 1 (by omega), ek 4 2 (by omega), ek 4 3 (by omega), ek 4 5 (by omega), ek 4 6 (by omega)]
      simp [pt_put]; simp [pt]
    · have hrun : (execOp (lfr l U g a0).eval ⟨some 6, .alloc 121, y5, p5, #[], none⟩).run Try.prog w' = .ok (.value (.pointer (some ⟨w'.heap.size, 0, none⟩))) (w'.alloc z80) := by simp [go_sem]
      refine wpOp_here (o := ⟨some 6, .alloc 121, y5, p5, #[], none⟩) rfl rfl (wp_value_here _ hrun ?_)
      rw [listed_of (by omega)] at hun
      refine ⟨fun e => by rw [getD_set_self (by omega)] at e; (cases e), w'.heap.size, ?_, hB.alloc hB.size _, fun _ => ⟨hB.size, by rw [ek 5 6 (by omega), h65 hun]; simp [go_sem]⟩⟩
      simp only [lfr, hun, getD_set_self (show 5 < l.size by omega), ek 5 0 (by omega), ek 5 1 (by omega), ek 5 2 (by omega), ek 5 3 (by omega), ek 5 4 (by omega), ek 5 6 (by omega)]
      simp [pt_put]; simp [pt]
    · have ho' : ⟨none, .store 121 (.tmp 6) (.tmp 17), y6, p6, #[⟨5, .data⟩, ⟨4, .data⟩, ⟨3, .chain⟩, ⟨0, .phase⟩, ⟨1, .phase⟩, ⟨2, .phase⟩, ⟨3, .phase⟩, ⟨4, .phase⟩, ⟨5, .phase⟩], none⟩ = o := by simpa using ho
      subst ho'
      have b4 : l.getD 4 false = true := hdep ⟨4, .data⟩ (by simp) rfl
      have b5 : l.getD 5 false = true := hdep ⟨5, .data⟩ (by simp) rfl
      obtain ⟨k1, k2⟩ := hg b5
      rw [listed_of (by omega)] at hun
      rw [hun] at k2
      simp only [Bool.false_eq_true, if_false] at k2
      have x6 : (lfr l U g a0).eval (.tmp 6) = .pointer (some ⟨g, 0, none⟩) := by
        unfold lfr; rw [pt_eval _ _ _ _ _ (by omega), pt_eval _ _ _ _ _ (by omega), pt_eval _ _ _ _ _ (by omega), pt_eval _ _ _ _ _ (by omega), pt_eval _ _ _ _ _ (by omega), b5]; exact pt_eval_same _ _ _ (by omega)
      have x17 : (lfr l U g a0).eval (.tmp 17) = .agg (tab .u32 80 (four one20 nil20 U one20)) := by
        unfold lfr; rw [pt_eval _ _ _ _ _ (by omega), pt_eval _ _ _ _ _ (by omega), pt_eval _ _ _ _ _ (by omega), pt_eval _ _ _ _ _ (by omega), b4]; exact pt_eval_same _ _ _ (by simp only [pt_size]; omega)
      have hrun := run_store_row rt121 w' g (tab .u32 80 (four one20 nil20 U one20)) (by rw [k2, tab_size]) (tab_size _ _ _) (tab_all _ _ _)
      refine wpOp_here (o := ⟨none, .store 121 (.tmp 6) (.tmp 17), y6, p6, #[⟨5, .data⟩, ⟨4, .data⟩, ⟨3, .chain⟩, ⟨0, .phase⟩, ⟨1, .phase⟩, ⟨2, .phase⟩, ⟨3, .phase⟩, ⟨4, .phase⟩, ⟨5, .phase⟩], none⟩) rfl rfl (wp_skip_here (w' := w'.setRow g (tab .u32 80 (four one20 nil20 U one20))) (by unfold execOp; simp only [x6, x17]; rw [Sem.run_bind, hrun]; rfl) ?_)
      refine ⟨fun e => by rw [ek 6 5 (by omega), b5] at e; (cases e), g, ?_, below_setRow hB k1 _, fun _ => ⟨k1, by rw [getD_set_self (by omega), rowOf_setRow_same (by rw [k2, tab_size]; omega)]; simp⟩⟩
      simp only [lfr, Act.put, ek 6 0 (by omega), ek 6 1 (by omega), ek 6 2 (by omega), ek 6 3 (by omega), ek 6 4 (by omega), ek 6 5 (by omega)]
  · intro l a w' hl hI hr
    obtain ⟨h65, g, rfl, hB, hg⟩ := hI
    have hl7 : l.size = 7 := hl
    have nr : ∀ i o, i < 7 → (#[⟨some 13, .call { callee := .value (.func 78), args := #[.const (.int .u32 1)], argTypes := #[115] }, y0, p0, #[], none⟩, ⟨some 14, .call { callee := .value (.func 78), args := #[.const (.int .u32 0)], argTypes := #[115] }, y1, p1, #[⟨0, .chain⟩], none⟩, ⟨some 15, .load 117 (.tmp 5), y2, p2, #[], none⟩, ⟨some 16, .call { callee := .value (.func 78), args := #[.const (.int .u32 1)], argTypes := #[115] }, y3, p3, #[⟨1, .chain⟩], none⟩, ⟨some 17, .build 121 #[(0, .tmp 13), (1, .tmp 14), (2, .tmp 15), (3, .tmp 16)], y4, p4, #[⟨0, .data⟩, ⟨1, .data⟩, ⟨2, .data⟩, ⟨3, .data⟩], none⟩, ⟨some 6, .alloc 121, y5, p5, #[], none⟩, ⟨none, .store 121 (.tmp 6) (.tmp 17), y6, p6, #[⟨5, .data⟩, ⟨4, .data⟩, ⟨3, .chain⟩, ⟨0, .phase⟩, ⟨1, .phase⟩, ⟨2, .phase⟩, ⟨3, .phase⟩, ⟨4, .phase⟩, ⟨5, .phase⟩], none⟩] : Array Oper)[i]? = some o → (∀ e ∈ o.after, l.getD e.on false = true) → l.getD i false = true := by
      intro i o hi ho hall
      cases hc : l.getD i false with
      | true => rfl
      | false =>
        have : i ∈ Region.ready .any #[⟨some 13, .call { callee := .value (.func 78), args := #[.const (.int .u32 1)], argTypes := #[115] }, y0, p0, #[], none⟩, ⟨some 14, .call { callee := .value (.func 78), args := #[.const (.int .u32 0)], argTypes := #[115] }, y1, p1, #[⟨0, .chain⟩], none⟩, ⟨some 15, .load 117 (.tmp 5), y2, p2, #[], none⟩, ⟨some 16, .call { callee := .value (.func 78), args := #[.const (.int .u32 1)], argTypes := #[115] }, y3, p3, #[⟨1, .chain⟩], none⟩, ⟨some 17, .build 121 #[(0, .tmp 13), (1, .tmp 14), (2, .tmp 15), (3, .tmp 16)], y4, p4, #[⟨0, .data⟩, ⟨1, .data⟩, ⟨2, .data⟩, ⟨3, .data⟩], none⟩, ⟨some 6, .alloc 121, y5, p5, #[], none⟩, ⟨none, .store 121 (.tmp 6) (.tmp 17), y6, p6, #[⟨5, .data⟩, ⟨4, .data⟩, ⟨3, .chain⟩, ⟨0, .phase⟩, ⟨1, .phase⟩, ⟨2, .phase⟩, ⟨3, .phase⟩, ⟨4, .phase⟩, ⟨5, .phase⟩], none⟩] l := mem_ready.2 ⟨by rw [listed_of (by omega)]; exact hc, o, ho, fun e he _ => hall e he⟩
        rw [hr] at this; cases this
    have b0 := nr 0 _ (by omega) rfl (by simp)
    have b1 := nr 1 _ (by omega) rfl (by intro e he; simp at he; subst he; exact b0)
    have b2 := nr 2 _ (by omega) rfl (by simp)
    have b3 := nr 3 _ (by omega) rfl (by intro e he; simp at he; subst he; exact b1)
    have b4 := nr 4 _ (by omega) rfl (by intro e he; simp at he; rcases he with rfl | rfl | rfl | rfl <;> assumption)
    have b5 := nr 5 _ (by omega) rfl (by simp)
    have b6 := nr 6 _ (by omega) rfl (by intro e he; simp at he; rcases he with rfl | rfl | rfl | rfl | rfl | rfl | rfl | rfl | rfl <;> assumption)
    obtain ⟨k1, k2⟩ := hg b5
    rw [b6] at k2
    simp only [if_true] at k2
    have := h g w' hB k1 k2
    unfold lfr
    rw [b0, b1, b2, b3, b4, b5]
    exact this
end Go.Proofs.Ytogkchcclcbobaa
