import Derived.Test.YteghoooelgcpkaaGreatDoorM00
import Derived.Test.YteghoooelgcpkaaGreatDoorM03
import Derived.Test.YteghoooelgcpkaaGreatDoorM04
namespace Go.Proofs.YteghoooelgcpkaaGreatDoor
open Go.RowKit Go.Msg

theorem fold_tab (k : IntKind) (N : Nat) (F x : Nat → Int) (off : Nat) : ∀ n, off + n ≤ N →
    (((List.range n).map fun i => Value.int k (x i)).zipIdx).foldl (fun cs (p : Value × Nat) => cs.setIfInBounds (off + p.2) p.1) (tab k N F) = tab k N (splice F off n x) := by
  intro n
  induction n with
  | zero => intro _; simp only [List.range_zero, List.map_nil, List.zipIdx_nil, List.foldl_nil]; exact tab_congr fun j _ => by simp [splice]; omega
  | succ n ih =>
    intro h
    rw [List.range_succ, List.map_append, List.zipIdx_append, List.foldl_append, ih (by omega)]
    simp only [List.map_cons, List.map_nil, List.length_map, List.length_range, Nat.zero_add, List.zipIdx_cons, List.zipIdx_nil, List.foldl_cons, List.foldl_nil]
    rw [tab_set]
    refine tab_congr fun j _ => ?_
    unfold upd splice
    by_cases e : j = off + n
    · subst e; rw [if_pos rfl, if_pos (by omega)]; congr 1; omega
    · rw [if_neg e]
      by_cases e2 : off ≤ j ∧ j < off + n
      · rw [if_pos e2, if_pos (by omega)]
      · rw [if_neg e2, if_neg (by omega)]
theorem fill_tab (place : Nat → Option (Nat × Nat)) (k : IntKind) (N n off i : Nat) (F x : Nat → Int) (rest : List (Nat × Value)) (hp : place i = some (off, n)) (h : off + n ≤ N) :
    Instr.fill place (tab k N F) ((i, .agg (tab k n x)) :: rest) = Instr.fill place (tab k N (splice F off n x)) rest := by
  have hf : (tab k n x).zipIdx.foldl (fun cs (p : Value × Nat) => cs.setIfInBounds (off + p.2) p.1) (tab k N F) = tab k N (splice F off n x) := by
    rw [← fold_tab k N F x off n h, tab_eq k n x]
    simp
  rw [Instr.fill, hp]
  simp only [Value.cells, tab_size]
  rw [if_neg (by simp; omega)]
  rw [← hf]
theorem info121 : (Tryz.prog.info? 193).map (·.zero) = some (some (.agg Tryz.zeroCells193)) := by kernel_rfl
theorem places121 : ∃ fields, Tryz.prog.underlying 193 = some (.struct fields) ∧ fields.toList.mapM (fun f => (Tryz.prog.info? f.type).map fun i => (f.offset, i.size)) = some [(0, 20), (20, 20), (40, 20), (60, 20)] := ⟨_, Tryz.underlying193, by kernel_rfl⟩
def four (x0 x1 x2 x3 : Nat → Int) : Nat → Int := splice (splice (splice (splice (fun _ => 0) 0 20 x0) 20 20 x1) 40 20 x2) 60 20 x3
theorem built121 (x0 x1 x2 x3 : Nat → Int) : Tryz.prog.built 193 [(0, .agg (tab .u32 20 x0)), (1, .agg (tab .u32 20 x1)), (2, .agg (tab .u32 20 x2)), (3, .agg (tab .u32 20 x3))] = some (tab .u32 80 (four x0 x1 x2 x3)) := by
  have h1 := info121
  obtain ⟨fields, h2, h3⟩ := places121
  cases hi : Tryz.prog.info? 193 with
  | none => rw [hi] at h1; cases h1
  | some it =>
    rw [hi] at h1
    have hz : it.zero = some (.agg Tryz.zeroCells193) := by simpa using h1
    clear h1
    generalize Tryz.prog = P at *
    unfold Program.built
    simp only [hi, h2, hz, h3]
    simp only [Value.cells, zero80]
    rw [fill_tab _ _ 80 20 0 0 _ _ _ rfl (by omega), fill_tab _ _ 80 20 20 1 _ _ _ rfl (by omega), fill_tab _ _ 80 20 40 2 _ _ _ rfl (by omega), fill_tab _ _ 80 20 60 3 _ _ _ rfl (by omega)]
    rfl

abbrev one20 : Nat → Int := upd (fun _ => 0) 0 1
abbrev nil20 : Nat → Int := upd (fun _ => 0) 0 0
def lfr (l : Array Bool) (U : Nat → Int) (g : Nat) (a0 : Act) : Act :=
  pt (l.getD 0 false) 13 (.agg (tab .u32 20 one20)) (pt (l.getD 1 false) 14 (.agg (tab .u32 20 nil20)) (pt (l.getD 2 false) 15 (.agg (tab .u32 20 U)) (pt (l.getD 3 false) 16 (.agg (tab .u32 20 one20))
    (pt (l.getD 4 false) 17 (.agg (tab .u32 80 (four one20 nil20 U one20))) (pt (l.getD 5 false) 6 (.pointer (some ⟨g, 0, none⟩)) a0)))))
def linv (V : World) (U : Nat → Int) (a0 : Act) (l : Array Bool) (a : Act) (w : World) : Prop :=
  (l.getD 5 false = false → l.getD 6 false = false) ∧ ∃ g, a = lfr l U g a0 ∧ Below V.heap.size V w ∧ (l.getD 5 false = true → V.heap.size ≤ g ∧ w.rowOf g = tab .u32 80 (if l.getD 6 false then four one20 nil20 U one20 else fun _ => 0))
theorem getD_set_self {l : Array Bool} {i : Nat} (h : i < l.size) : (l.setIfInBounds i true).getD i false = true := by simp [h]
theorem listed_of {l : Array Bool} {i : Nat} (h : i < l.size) : l.getD i true = l.getD i false := by simp [h]
set_option maxRecDepth 8000 in
set_option linter.unusedSimpArgs false in
theorem ladder_region {Q : Exit → Act → World → Prop} {id : Nat} {a0 : Act} {V : World} {y0 y1 y2 y3 y4 y5 y6 : TypeId} {p0 p1 p2 p3 p4 p5 p6 : String}
    (hsz : 17 < a0.tmps.size) (U : Nat → Int) (gU : Nat) (h5 : a0.eval (.tmp 5) = .pointer (some ⟨gU, 0, none⟩)) (hU : V.rowOf gU = tab .u32 20 U)
    (h : ∀ g V', Below V.heap.size V V' → V.heap.size ≤ g → V'.rowOf g = tab .u32 80 (four one20 nil20 U one20) →
      Q .normal ((((((a0.put (some 6) (.pointer (some ⟨g, 0, none⟩))).put (some 17) (.agg (tab .u32 80 (four one20 nil20 U one20)))).put (some 16) (.agg (tab .u32 20 one20))).put (some 15) (.agg (tab .u32 20 U))).put (some 14) (.agg (tab .u32 20 nil20))).put (some 13) (.agg (tab .u32 20 one20))) V') :
    (Code.region id #[⟨some 13, .call { callee := .value (.func 162), args := #[.const (.int .u32 1)], argTypes := #[138] }, y0, p0, #[], none⟩,
      ⟨some 14, .call { callee := .value (.func 162), args := #[.const (.int .u32 0)], argTypes := #[138] }, y1, p1, #[⟨0, .chain⟩], none⟩,
      ⟨some 15, .load 189 (.tmp 5), y2, p2, #[], none⟩,
      ⟨some 16, .call { callee := .value (.func 162), args := #[.const (.int .u32 1)], argTypes := #[138] }, y3, p3, #[⟨1, .chain⟩], none⟩,
      ⟨some 17, .build 193 #[(0, .tmp 13), (1, .tmp 14), (2, .tmp 15), (3, .tmp 16)], y4, p4, #[⟨0, .data⟩, ⟨1, .data⟩, ⟨2, .data⟩, ⟨3, .data⟩], none⟩,
      ⟨some 6, .alloc 193, y5, p5, #[], none⟩,
      ⟨none, .store 193 (.tmp 6) (.tmp 17), y6, p6, #[⟨5, .data⟩, ⟨4, .data⟩, ⟨3, .chain⟩, ⟨0, .phase⟩, ⟨1, .phase⟩, ⟨2, .phase⟩, ⟨3, .phase⟩, ⟨4, .phase⟩, ⟨5, .phase⟩], none⟩] true).wp Tryz.prog Q a0 V := by
  refine wp_region_inv mixed_any (linv V U a0) ⟨fun _ => by simp, 0, by simp [lfr, pt], (Below.refl _ _).drew, by simp⟩ ?_ ?_
  · intro l a w' i hl hI hi
    obtain ⟨hun, o, ho, hdep⟩ := mem_ready.1 hi
    obtain ⟨h65, g, rfl, hB, hg⟩ := hI
    have hl7 : l.size = 7 := hl
    have hrow : w'.rowOf gU = tab .u32 20 U := by rw [below_row hB (by rw [hU, tab_size]; omega), hU]
    have hi7 : i = 0 ∨ i = 1 ∨ i = 2 ∨ i = 3 ∨ i = 4 ∨ i = 5 ∨ i = 6 := by
      have := (Array.getElem?_eq_some_iff.1 ho).1; simp at this; omega
    have ek : ∀ i j, j ≠ i → (l.setIfInBounds i true).getD j false = l.getD j false := fun i j hj => getD_set_ne false (Ne.symm hj)
    have keep : ∀ i w2, Below w'.heap.size w' w2 → i ≠ 5 → i ≠ 6 → (l.setIfInBounds i true).getD 5 false = true → V.heap.size ≤ g ∧ w2.rowOf g = tab .u32 80 (if (l.setIfInBounds i true).getD 6 false then four one20 nil20 U one20 else fun _ => 0) := by
      intro i w2 hb h5' h6' hl5
      rw [ek i 5 (Ne.symm h5')] at hl5
      rw [ek i 6 (Ne.symm h6')]
      obtain ⟨k1, k2⟩ := hg hl5
      exact ⟨k1, by rw [below_row hb (by rw [k2, tab_size]; omega), k2]⟩
    have k65 : ∀ i, i ≠ 5 → i ≠ 6 → (l.setIfInBounds i true).getD 5 false = false → (l.setIfInBounds i true).getD 6 false = false := fun i h5' h6' e => by
      rw [ek i 5 (Ne.symm h5')] at e; rw [ek i 6 (Ne.symm h6')]; exact h65 e
    rcases hi7 with rfl | rfl | rfl | rfl | rfl | rfl | rfl
    · refine wpOp_here (o := ⟨some 13, .call { callee := .value (.func 162), args := #[.const (.int .u32 1)], argTypes := #[138] }, y0, p0, #[], none⟩) rfl rfl (wp_call_here 162 #[.int .u32 1] (by simp [go_sem]) _ (small_any 1 (by omega) (by omega) w') ?_)
      rintro e w2 ⟨rfl, hb⟩
      rw [listed_of (by omega)] at hun
      refine ⟨_, rfl, k65 0 (by omega) (by omega), g, ?_, hB.trans (hb.mono hB.size), keep 0 w2 hb (by omega) (by omega)⟩
      simp only [lfr, hun, getD_set_self (show 0 < l.size by omega), ek 0 1 (by omega), ek 0 2 (by omega), ek 0 3 (by omega), ek 0 4 (by omega), ek 0 5 (by omega), ek 0 6 (by omega)]
      simp [pt_put]; simp [pt]
    · refine wpOp_here (o := ⟨some 14, .call { callee := .value (.func 162), args := #[.const (.int .u32 0)], argTypes := #[138] }, y1, p1, #[⟨0, .chain⟩], none⟩) rfl rfl (wp_call_here 162 #[.int .u32 0] (by simp [go_sem]) _ (small_any 0 (by omega) (by omega) w') ?_)
      rintro e w2 ⟨rfl, hb⟩
      rw [listed_of (by omega)] at hun
      refine ⟨_, rfl, k65 1 (by omega) (by omega), g, ?_, hB.trans (hb.mono hB.size), keep 1 w2 hb (by omega) (by omega)⟩
      simp only [lfr, hun, getD_set_self (show 1 < l.size by omega), ek 1 0 (by omega), ek 1 2 (by omega), ek 1 3 (by omega), ek 1 4 (by omega), ek 1 5 (by omega), ek 1 6 (by omega)]
      simp [pt_put]; simp [pt]
    · have hx : (lfr l U g a0).eval (.tmp 5) = .pointer (some ⟨gU, 0, none⟩) := by
        unfold lfr
        rw [pt_eval _ _ _ _ _ (by omega), pt_eval _ _ _ _ _ (by omega), pt_eval _ _ _ _ _ (by omega), pt_eval _ _ _ _ _ (by omega), pt_eval _ _ _ _ _ (by omega), pt_eval _ _ _ _ _ (by omega)]; exact h5
      have hrun := run_load_row rt117 w' gU (by rw [hrow, tab_size])
      rw [hrow] at hrun
      refine wpOp_here (o := ⟨some 15, .load 189 (.tmp 5), y2, p2, #[], none⟩) rfl rfl (wp_value_here (.agg (tab .u32 20 U)) (w' := w') (by unfold execOp; simp only [hx]; rw [Sem.run_bind, hrun]; rfl) ?_)
      rw [listed_of (by omega)] at hun
      refine ⟨k65 2 (by omega) (by omega), g, ?_, hB, keep 2 w' (Below.refl _ _) (by omega) (by omega)⟩
      simp only [lfr, hun, getD_set_self (show 2 < l.size by omega), ek 2 0 (by omega), ek 2 1 (by omega), ek 2 3 (by omega), ek 2 4 (by omega), ek 2 5 (by omega), ek 2 6 (by omega)]
      simp [pt_put]; simp [pt]
    · refine wpOp_here (o := ⟨some 16, .call { callee := .value (.func 162), args := #[.const (.int .u32 1)], argTypes := #[138] }, y3, p3, #[⟨1, .chain⟩], none⟩) rfl rfl (wp_call_here 162 #[.int .u32 1] (by simp [go_sem]) _ (small_any 1 (by omega) (by omega) w') ?_)
      rintro e w2 ⟨rfl, hb⟩
      rw [listed_of (by omega)] at hun
      refine ⟨_, rfl, k65 3 (by omega) (by omega), g, ?_, hB.trans (hb.mono hB.size), keep 3 w2 hb (by omega) (by omega)⟩
      simp only [lfr, hun, getD_set_self (show 3 < l.size by omega), ek 3 0 (by omega), ek 3 1 (by omega), ek 3 2 (by omega), ek 3 4 (by omega), ek 3 5 (by omega), ek 3 6 (by omega)]
      simp [pt_put]; simp [pt]
    · have ho' : ⟨some 17, .build 193 #[(0, .tmp 13), (1, .tmp 14), (2, .tmp 15), (3, .tmp 16)], y4, p4, #[⟨0, .data⟩, ⟨1, .data⟩, ⟨2, .data⟩, ⟨3, .data⟩], none⟩ = o := by simpa using ho
      subst ho'
      have b0 : l.getD 0 false = true := hdep ⟨0, .data⟩ (by simp) rfl
      have b1 : l.getD 1 false = true := hdep ⟨1, .data⟩ (by simp) rfl
      have b2 : l.getD 2 false = true := hdep ⟨2, .data⟩ (by simp) rfl
      have b3 : l.getD 3 false = true := hdep ⟨3, .data⟩ (by simp) rfl
      have x0 : (lfr l U g a0).eval (.tmp 13) = .agg (tab .u32 20 one20) := by
        unfold lfr; rw [b0]; exact pt_eval_same _ _ _ (by simp only [pt_size]; omega)
      have x1 : (lfr l U g a0).eval (.tmp 14) = .agg (tab .u32 20 nil20) := by
        unfold lfr; rw [pt_eval _ _ _ _ _ (by omega), b1]; exact pt_eval_same _ _ _ (by simp only [pt_size]; omega)
      have x2 : (lfr l U g a0).eval (.tmp 15) = .agg (tab .u32 20 U) := by
        unfold lfr; rw [pt_eval _ _ _ _ _ (by omega), pt_eval _ _ _ _ _ (by omega), b2]; exact pt_eval_same _ _ _ (by simp only [pt_size]; omega)
      have x3 : (lfr l U g a0).eval (.tmp 16) = .agg (tab .u32 20 one20) := by
        unfold lfr; rw [pt_eval _ _ _ _ _ (by omega), pt_eval _ _ _ _ _ (by omega), pt_eval _ _ _ _ _ (by omega), b3]; exact pt_eval_same _ _ _ (by simp only [pt_size]; omega)
      refine wpOp_here (o := ⟨some 17, .build 193 #[(0, .tmp 13), (1, .tmp 14), (2, .tmp 15), (3, .tmp 16)], y4, p4, #[⟨0, .data⟩, ⟨1, .data⟩, ⟨2, .data⟩, ⟨3, .data⟩], none⟩) rfl rfl (wp_value_here (.agg (tab .u32 80 (four one20 nil20 U one20))) (w' := w') ?_ ?_)
      · have hb := run_build (P := Tryz.prog) w' 193 #[(0, .agg (tab .u32 20 one20)), (1, .agg (tab .u32 20 nil20)), (2, .agg (tab .u32 20 U)), (3, .agg (tab .u32 20 one20))] _ (built121 one20 nil20 U one20)
        unfold execOp
        simp only [List.map_toArray, List.map_cons, List.map_nil, x0, x1, x2, x3]
        rw [Sem.run_bind, hb]; rfl
      rw [listed_of (by omega)] at hun
      refine ⟨k65 4 (by omega) (by omega), g, ?_, hB, keep 4 w' (Below.refl _ _) (by omega) (by omega)⟩
      simp only [lfr, hun, getD_set_self (show 4 < l.size by omega), ek 4 0 (by omega), ek 4 1 (by omega), ek 4 2 (by omega), ek 4 3 (by omega), ek 4 5 (by omega), ek 4 6 (by omega)]
      simp [pt_put]; simp [pt]
    · have hrun : (execOp (lfr l U g a0).eval ⟨some 6, .alloc 193, y5, p5, #[], none⟩).run Tryz.prog w' = .ok (.value (.pointer (some ⟨w'.heap.size, 0, none⟩))) (w'.alloc z80) := by simp [go_sem]
      refine wpOp_here (o := ⟨some 6, .alloc 193, y5, p5, #[], none⟩) rfl rfl (wp_value_here _ hrun ?_)
      rw [listed_of (by omega)] at hun
      refine ⟨fun e => by rw [getD_set_self (by omega)] at e; (cases e), w'.heap.size, ?_, hB.alloc hB.size _, fun _ => ⟨hB.size, by rw [ek 5 6 (by omega), h65 hun]; simp [go_sem]⟩⟩
      simp only [lfr, hun, getD_set_self (show 5 < l.size by omega), ek 5 0 (by omega), ek 5 1 (by omega), ek 5 2 (by omega), ek 5 3 (by omega), ek 5 4 (by omega), ek 5 6 (by omega)]
      simp [pt_put]; simp [pt]
    · have ho' : ⟨none, .store 193 (.tmp 6) (.tmp 17), y6, p6, #[⟨5, .data⟩, ⟨4, .data⟩, ⟨3, .chain⟩, ⟨0, .phase⟩, ⟨1, .phase⟩, ⟨2, .phase⟩, ⟨3, .phase⟩, ⟨4, .phase⟩, ⟨5, .phase⟩], none⟩ = o := by simpa using ho
      subst ho'
      have b4 : l.getD 4 false = true := hdep ⟨4, .data⟩ (by simp) rfl
      have b5 : l.getD 5 false = true := hdep ⟨5, .data⟩ (by simp) rfl
      obtain ⟨k1, k2⟩ := hg b5
      rw [listed_of (by omega)] at hun
      rw [hun] at k2
      simp only [Bool.false_eq_true, if_false] at k2
      have x6 : (lfr l U g a0).eval (.tmp 6) = .pointer (some ⟨g, 0, none⟩) := by
        unfold lfr; rw [pt_eval _ _ _ _ _ (by omega), pt_eval _ _ _ _ _ (by omega), pt_eval _ _ _ _ _ (by omega), pt_eval _ _ _ _ _ (by omega), pt_eval _ _ _ _ _ (by omega), b5]; exact pt_eval_same _ _ _ (by omega)
      have x17 : (lfr l U g a0).eval (.tmp 17) = .agg (tab .u32 80 (four one20 nil20 U one20)) := by
        unfold lfr; rw [pt_eval _ _ _ _ _ (by omega), pt_eval _ _ _ _ _ (by omega), pt_eval _ _ _ _ _ (by omega), pt_eval _ _ _ _ _ (by omega), b4]; exact pt_eval_same _ _ _ (by simp only [pt_size]; omega)
      have hrun := run_store_row rt121 w' g (tab .u32 80 (four one20 nil20 U one20)) (by rw [k2, tab_size]) (tab_size _ _ _) (tab_all _ _ _)
      refine wpOp_here (o := ⟨none, .store 193 (.tmp 6) (.tmp 17), y6, p6, #[⟨5, .data⟩, ⟨4, .data⟩, ⟨3, .chain⟩, ⟨0, .phase⟩, ⟨1, .phase⟩, ⟨2, .phase⟩, ⟨3, .phase⟩, ⟨4, .phase⟩, ⟨5, .phase⟩], none⟩) rfl rfl (wp_skip_here (w' := w'.setRow g (tab .u32 80 (four one20 nil20 U one20))) (by unfold execOp; simp only [x6, x17]; rw [Sem.run_bind, hrun]; rfl) ?_)
      refine ⟨fun e => by rw [ek 6 5 (by omega), b5] at e; (cases e), g, ?_, below_setRow hB k1 _, fun _ => ⟨k1, by rw [getD_set_self (by omega), rowOf_setRow_same (by rw [k2, tab_size]; omega)]; simp⟩⟩
      simp only [lfr, Act.put, ek 6 0 (by omega), ek 6 1 (by omega), ek 6 2 (by omega), ek 6 3 (by omega), ek 6 4 (by omega), ek 6 5 (by omega)]
  · intro l a w' hl hI hr
    obtain ⟨h65, g, rfl, hB, hg⟩ := hI
    have hl7 : l.size = 7 := hl
    have nr : ∀ i o, i < 7 → (#[⟨some 13, .call { callee := .value (.func 162), args := #[.const (.int .u32 1)], argTypes := #[138] }, y0, p0, #[], none⟩, ⟨some 14, .call { callee := .value (.func 162), args := #[.const (.int .u32 0)], argTypes := #[138] }, y1, p1, #[⟨0, .chain⟩], none⟩, ⟨some 15, .load 189 (.tmp 5), y2, p2, #[], none⟩, ⟨some 16, .call { callee := .value (.func 162), args := #[.const (.int .u32 1)], argTypes := #[138] }, y3, p3, #[⟨1, .chain⟩], none⟩, ⟨some 17, .build 193 #[(0, .tmp 13), (1, .tmp 14), (2, .tmp 15), (3, .tmp 16)], y4, p4, #[⟨0, .data⟩, ⟨1, .data⟩, ⟨2, .data⟩, ⟨3, .data⟩], none⟩, ⟨some 6, .alloc 193, y5, p5, #[], none⟩, ⟨none, .store 193 (.tmp 6) (.tmp 17), y6, p6, #[⟨5, .data⟩, ⟨4, .data⟩, ⟨3, .chain⟩, ⟨0, .phase⟩, ⟨1, .phase⟩, ⟨2, .phase⟩, ⟨3, .phase⟩, ⟨4, .phase⟩, ⟨5, .phase⟩], none⟩] : Array Oper)[i]? = some o → (∀ e ∈ o.after, l.getD e.on false = true) → l.getD i false = true := by
      intro i o hi ho hall
      cases hc : l.getD i false with
      | true => rfl
      | false =>
        have : i ∈ Region.ready .any #[⟨some 13, .call { callee := .value (.func 162), args := #[.const (.int .u32 1)], argTypes := #[138] }, y0, p0, #[], none⟩, ⟨some 14, .call { callee := .value (.func 162), args := #[.const (.int .u32 0)], argTypes := #[138] }, y1, p1, #[⟨0, .chain⟩], none⟩, ⟨some 15, .load 189 (.tmp 5), y2, p2, #[], none⟩, ⟨some 16, .call { callee := .value (.func 162), args := #[.const (.int .u32 1)], argTypes := #[138] }, y3, p3, #[⟨1, .chain⟩], none⟩, ⟨some 17, .build 193 #[(0, .tmp 13), (1, .tmp 14), (2, .tmp 15), (3, .tmp 16)], y4, p4, #[⟨0, .data⟩, ⟨1, .data⟩, ⟨2, .data⟩, ⟨3, .data⟩], none⟩, ⟨some 6, .alloc 193, y5, p5, #[], none⟩, ⟨none, .store 193 (.tmp 6) (.tmp 17), y6, p6, #[⟨5, .data⟩, ⟨4, .data⟩, ⟨3, .chain⟩, ⟨0, .phase⟩, ⟨1, .phase⟩, ⟨2, .phase⟩, ⟨3, .phase⟩, ⟨4, .phase⟩, ⟨5, .phase⟩], none⟩] l := mem_ready.2 ⟨by rw [listed_of (by omega)]; exact hc, o, ho, fun e he _ => hall e he⟩
        rw [hr] at this; cases this
    have b0 := nr 0 _ (by omega) rfl (by simp)
    have b1 := nr 1 _ (by omega) rfl (by intro e he; simp at he; subst he; exact b0)
    have b2 := nr 2 _ (by omega) rfl (by simp)
    have b3 := nr 3 _ (by omega) rfl (by intro e he; simp at he; subst he; exact b1)
    have b4 := nr 4 _ (by omega) rfl (by intro e he; simp at he; rcases he with rfl | rfl | rfl | rfl <;> assumption)
    have b5 := nr 5 _ (by omega) rfl (by simp)
    have b6 := nr 6 _ (by omega) rfl (by intro e he; simp at he; rcases he with rfl | rfl | rfl | rfl | rfl | rfl | rfl | rfl | rfl <;> assumption)
    obtain ⟨k1, k2⟩ := hg b5
    rw [b6] at k2
    simp only [if_true] at k2
    have := h g w' hB k1 k2
    unfold lfr
    rw [b0, b1, b2, b3, b4, b5]
    exact this
end Go.Proofs.YteghoooelgcpkaaGreatDoor
namespace Go.Proofs.YteghoooelgcpkaaGreatDoor
open Go.RowKit Go.Msg

theorem Tidy_congr {f g : Nat → Int} (h : Tidy f) (e : ∀ i, i < 20 → g i = f i) : Tidy g :=
  ⟨fun i hi => by rw [e i hi]; exact h.nn i hi, fun i hi h1 => by rw [e i (by omega)]; exact h.le i hi h1, by rw [e 0 (by omega)]; exact h.le0, by rw [e 19 (by omega)]; exact h.top⟩
structure Tid4 (G : Nat → Int) : Prop where
  a : Tidy G
  b : Tidy (fun i => G (20 + i))
  c : Tidy (fun i => G (40 + i))
  d : Tidy (fun i => G (60 + i))
theorem Tid4.bd {G : Nat → Int} (h : Tid4 G) : ∀ i, i < 80 → 0 ≤ G i ∧ G i < 4294967296 := fun i hi => by
  by_cases h1 : i < 20
  · have := h.a.le' i h1; omega
  · by_cases h2 : i < 40
    · have := h.b.le' (i - 20) (by omega); rw [show 20 + (i - 20) = i by omega] at this; omega
    · by_cases h3 : i < 60
      · have := h.c.le' (i - 40) (by omega); rw [show 40 + (i - 40) = i by omega] at this; omega
      · have := h.d.le' (i - 60) (by omega); rw [show 60 + (i - 60) = i by omega] at this; omega
theorem Tid4.swap {G : Nat → Int} (h : Tid4 G) : Tid4 (fun j => G ((j + 40) % 80)) :=
  ⟨Tidy_congr h.c fun i hi => by congr 1; omega, Tidy_congr h.d fun i hi => by congr 1; omega, Tidy_congr h.a fun i hi => by congr 1; omega, Tidy_congr h.b fun i hi => by congr 1; omega⟩
theorem lval_swap (G : Nat → Int) : lval 20 (fun j => G ((j + 40) % 80)) = lval 20 (fun i => G (40 + i)) ∧ lval 20 (fun i => G ((20 + i + 40) % 80)) = lval 20 (fun i => G (60 + i)) ∧ lval 20 (fun i => G ((40 + i + 40) % 80)) = lval 20 G ∧ lval 20 (fun i => G ((60 + i + 40) % 80)) = lval 20 (fun i => G (20 + i)) :=
  ⟨val_congr fun i hi => by congr 1; omega, val_congr fun i hi => by congr 1; omega, val_congr fun i hi => by congr 1; omega, val_congr fun i hi => by congr 1; omega⟩
structure Vals (G : Nat → Int) (x2 z2 x3 z3 : Int) : Prop where
  a : Eqv (lval 20 G) x2
  b : Eqv (lval 20 (fun i => G (20 + i))) z2
  c : Eqv (lval 20 (fun i => G (40 + i))) x3
  d : Eqv (lval 20 (fun i => G (60 + i))) z3
theorem step_any (F U : Nat → Int) (t : Tid4 F) (tU : Tidy U) (w : World) :
    Calls Tryz.prog 165 #[.agg (tab .u32 80 F), .agg (tab .u32 20 U)] w fun e w' => ∃ G : Nat → Int, e = .returned (.agg (tab .u32 80 G)) ∧ Tid4 G ∧
      Vals G (tw1 (lval 20 F) (lval 20 fun i => F (20 + i))) (tw2 (lval 20 F) (lval 20 fun i => F (20 + i))) (4 * bt1 (lval 20 F) (lval 20 fun i => F (20 + i)) (lval 20 fun i => F (40 + i)) (lval 20 fun i => F (60 + i))) (4 * bt2 (lval 20 U) (lval 20 F) (lval 20 fun i => F (20 + i)) (lval 20 fun i => F (40 + i)) (lval 20 fun i => F (60 + i))) ∧
      Below w.heap.size w w' := by
  refine (step_walk F U t.a t.b t.c t.d tU w).mono ?_
  rintro e w' ⟨a, b, c, d, aa, bb, ee, da, cb, sum, df, df2, inn, in2, nx3, nz3, nx2, nz2, rfl, ⟨tx2, tz2, tx3, tz3⟩, ⟨va, vb, vc, vd, vaa, vbb, vee, vda, vcb, vsum, vdf, vdf2, vinn, vin2, vx3, vz3, vx2, vz2⟩, hb⟩
  obtain ⟨m1, m2, m3, m4⟩ := step_math va vb vc vd vaa vbb vee vda vcb vsum vdf vdf2 vinn vin2 vx3 vz3 vx2 vz2
  have g0 : ∀ i, i < 20 → (splice (splice (splice (splice F 40 20 nx3) 60 20 nz3) 0 20 nx2) 20 20 nz2) i = nx2 i := fun i hi => by simp [splice]; rw [if_neg (by omega), if_pos (by omega)]
  have g1 : ∀ i, i < 20 → (splice (splice (splice (splice F 40 20 nx3) 60 20 nz3) 0 20 nx2) 20 20 nz2) (20 + i) = nz2 i := fun i hi => by simp only [splice]; rw [if_pos (by omega)]; congr 1; omega
  have g2 : ∀ i, i < 20 → (splice (splice (splice (splice F 40 20 nx3) 60 20 nz3) 0 20 nx2) 20 20 nz2) (40 + i) = nx3 i := fun i hi => by simp only [splice]; rw [if_neg (by omega), if_neg (by omega), if_neg (by omega), if_pos (by omega)]; congr 1; omega
  have g3 : ∀ i, i < 20 → (splice (splice (splice (splice F 40 20 nx3) 60 20 nz3) 0 20 nx2) 20 20 nz2) (60 + i) = nz3 i := fun i hi => by simp only [splice]; rw [if_neg (by omega), if_neg (by omega), if_pos (by omega)]; congr 1; omega
  refine ⟨_, rfl, ⟨Tidy_congr tx2 g0, Tidy_congr tz2 g1, Tidy_congr tx3 g2, Tidy_congr tz3 g3⟩, ⟨?_, ?_, ?_, ?_⟩, hb⟩
  · rw [val_congr g0]; exact m1
  · rw [val_congr g1]; exact m2
  · rw [val_congr g2]; exact m3
  · rw [val_congr g3]; exact m4
theorem Vals.scaled0 {G G2 U : Nat → Int} {s : Pair} {u b : Int} (hs : Scaled s (lval 20 G) (lval 20 fun i => G (20 + i)) (lval 20 fun i => G (40 + i)) (lval 20 fun i => G (60 + i))) (hu : Eqv (lval 20 U) u) (hb : ¬ b = 1)
    (h : Vals G2 (tw1 (lval 20 G) (lval 20 fun i => G (20 + i))) (tw2 (lval 20 G) (lval 20 fun i => G (20 + i))) (4 * bt1 (lval 20 G) (lval 20 fun i => G (20 + i)) (lval 20 fun i => G (40 + i)) (lval 20 fun i => G (60 + i))) (4 * bt2 (lval 20 U) (lval 20 G) (lval 20 fun i => G (20 + i)) (lval 20 fun i => G (40 + i)) (lval 20 fun i => G (60 + i)))) :
    Scaled (lstep u b s) (lval 20 G2) (lval 20 fun i => G2 (20 + i)) (lval 20 fun i => G2 (40 + i)) (lval 20 fun i => G2 (60 + i)) := hs.zero hu hb h.a h.b h.c h.d
theorem Vals.scaled1 {G G2 U : Nat → Int} {s : Pair} {u : Int} (hs : Scaled s (lval 20 G) (lval 20 fun i => G (20 + i)) (lval 20 fun i => G (40 + i)) (lval 20 fun i => G (60 + i))) (hu : Eqv (lval 20 U) u)
    (h : Vals G2 (tw1 (lval 20 fun j => G ((j + 40) % 80)) (lval 20 fun i => G ((20 + i + 40) % 80))) (tw2 (lval 20 fun j => G ((j + 40) % 80)) (lval 20 fun i => G ((20 + i + 40) % 80))) (4 * bt1 (lval 20 fun j => G ((j + 40) % 80)) (lval 20 fun i => G ((20 + i + 40) % 80)) (lval 20 fun i => G ((40 + i + 40) % 80)) (lval 20 fun i => G ((60 + i + 40) % 80))) (4 * bt2 (lval 20 U) (lval 20 fun j => G ((j + 40) % 80)) (lval 20 fun i => G ((20 + i + 40) % 80)) (lval 20 fun i => G ((40 + i + 40) % 80)) (lval 20 fun i => G ((60 + i + 40) % 80)))) :
    Scaled (lstep u 1 s) (lval 20 fun j => G2 ((j + 40) % 80)) (lval 20 fun i => G2 ((20 + i + 40) % 80)) (lval 20 fun i => G2 ((40 + i + 40) % 80)) (lval 20 fun i => G2 ((60 + i + 40) % 80)) := by
  obtain ⟨e0, e1, e2, e3⟩ := lval_swap G
  obtain ⟨f0, f1, f2, f3⟩ := lval_swap G2
  rw [f0, f1, f2, f3]
  rw [e0, e1, e2, e3] at h
  exact hs.one' hu h.a h.b h.c h.d

theorem bitOf_int (b : Nat → Int) (hb : ∀ i, i < 32 → 0 ≤ b i ∧ b i ≤ 255) (i : Int) (h0 : 0 ≤ i) (hi : i < 256) (w : World) :
    Calls Tryz.prog 163 #[.agg (tab .u8 32 b), .int .i64 i] w fun e w' => e = .returned (.int .u32 (bitAt b i.toNat)) ∧ Below w.heap.size w w' := by
  have := bitOf_any b hb i.toNat (by omega) w
  rw [show ((i.toNat : Nat) : Int) = i by omega] at this
  exact this

theorem tid4_four (U : Nat → Int) (h : Tidy U) : Tid4 (four one20 nil20 U one20) ∧ lval 20 (four one20 nil20 U one20) = 1 ∧ lval 20 (fun i => four one20 nil20 U one20 (20 + i)) = 0 ∧ lval 20 (fun i => four one20 nil20 U one20 (40 + i)) = lval 20 U ∧ lval 20 (fun i => four one20 nil20 U one20 (60 + i)) = 1 := by
  have t1 : Tidy one20 := ⟨fun i _ => by simp only [upd]; split <;> omega, fun i _ _ => by simp only [upd]; split <;> omega, by decide, by decide⟩
  have t0 : Tidy nil20 := ⟨fun i _ => by simp only [upd]; split <;> omega, fun i _ _ => by simp only [upd]; split <;> omega, by decide, by decide⟩
  have g0 : ∀ i, i < 20 → four one20 nil20 U one20 i = one20 i := fun i hi => by simp only [four, splice]; rw [if_neg (by omega), if_neg (by omega), if_neg (by omega), if_pos (by omega)]; congr 1
  have g1 : ∀ i, i < 20 → four one20 nil20 U one20 (20 + i) = nil20 i := fun i hi => by simp only [four, splice]; rw [if_neg (by omega), if_neg (by omega), if_pos (by omega)]; congr 1; omega
  have g2 : ∀ i, i < 20 → four one20 nil20 U one20 (40 + i) = U i := fun i hi => by simp only [four, splice]; rw [if_neg (by omega), if_pos (by omega)]; congr 1; omega
  have g3 : ∀ i, i < 20 → four one20 nil20 U one20 (60 + i) = one20 i := fun i hi => by simp only [four, splice]; rw [if_pos (by omega)]; congr 1; omega
  exact ⟨⟨Tidy_congr t1 g0, Tidy_congr t0 g1, Tidy_congr h g2, Tidy_congr t1 g3⟩, by rw [val_congr g0]; decide, by rw [val_congr g1]; decide, val_congr g2, by rw [val_congr g3]; decide⟩

set_option maxRecDepth 4000 in
set_option maxHeartbeats 8000000 in
theorem ladder_any (k p : Nat → Int) (hk : ∀ i, i < 32 → 0 ≤ k i ∧ k i ≤ 255) (hp : ∀ i, i < 32 → 0 ≤ p i ∧ p i ≤ 255) (w : World) :
    Calls Tryz.prog 136 #[.agg (tab .u8 32 k), .agg (tab .u8 32 p)] w fun e w' => ∃ b : Nat → Int, e = .returned (.agg (tab .u8 32 b)) ∧ (∀ i, i < 32 → 0 ≤ b i ∧ b i ≤ 255) ∧ bval 32 b = lout (bitAt k) (bsum p 255 % P25519) ∧ Below w.heap.size w w' := by
  have S0 : (((w.alloc (c32 k)).alloc (c32 p)).alloc z32).heap.size = w.heap.size + 1 + 1 + 1 := by simp
  have R0 : Rowz (((w.alloc (c32 k)).alloc (c32 p)).alloc z32) [(w.heap.size, tab .u8 32 k), (w.heap.size + 1, tab .u8 32 p), (w.heap.size + 1 + 1, tab .u8 32 (fun _ => 0))] := Rowz.cons (by simp [go_sem]) (by simp [tab_size]) (Rowz.cons (by simp [go_sem]) (by simp [tab_size]) (Rowz.cons (by simp [go_sem]) (by simp [tab_size]) (Rowz.nil _)))
  have W0 : Below w.heap.size w (((w.alloc (c32 k)).alloc (c32 p)).alloc z32) := (((Below.refl _ _).alloc (Nat.le_refl _) _).alloc (by simp) _).alloc (by simp; omega) _
  go_enter Tryz.func136, Tryz.ntmps136
  go_wp2_with (first
    | (refine wpl_load rt107 rfl _ rfl (w.heap.size + 1) rfl (tab .u8 32 p) ?_ (tab_size _ _ _) ?_; (focus (exact (R0 (w.heap.size + 1, tab .u8 32 p) (by simp)).1)))
    | (go_at_call 161; refine (fromBytes_any _ hp _).mono ?_; rintro e A1 ⟨U, rfl, tU, vU, hb1⟩; have hs1 := hb1.size; simp only [World.size_alloc] at hs1)
    | (refine wpl_store rt117 rfl _ _ rfl (A1.heap.size) rfl (tab .u32 20 U) rfl ?_ (tab_size _ _ _) (tab_all _ _ _) (A1.alloc (c20 U)) ?_ ?_; (focus (simp [go_sem]; done)); (focus (simp [go_sem]; done)); obtain ⟨VU, hV⟩ : ∃ V, V = A1.alloc (c20 U) := ⟨_, rfl⟩; have S1 : VU.heap.size = A1.heap.size + 1 := (by rw [hV]; simp); have R1 : Rowz VU [(A1.heap.size, tab .u32 20 U), (w.heap.size, tab .u8 32 k), (w.heap.size + 1 + 1, tab .u8 32 (fun _ => 0))] := (by rw [hV]; exact ((R0.below hb1).sub (m := [(w.heap.size, tab .u8 32 k), (w.heap.size + 1 + 1, tab .u8 32 (fun _ => 0))]) (by simp)).alloc _ _ (by simp [tab_size])); have W1 : Below w.heap.size w VU := (by rw [hV]; exact (below_lift W0 (by first | omega | (simp; omega)) hb1).alloc (by omega) _); rw [← hV]; clear hV))
  refine ladder_region ?_ U A1.heap.size rfl (R1 (A1.heap.size, tab .u32 20 U) (by simp)).1 ?_
  · simp [Act.put]
  intro gl V2 hb2 hgl hrow
  simp only [Act.put, List.setIfInBounds_toArray, List.set_cons_succ, List.set_cons_zero]
  have hu : Eqv (lval 20 U) (bsum p 255 % P25519) := by rw [vU]; exact (Eqv.mod _).symm
  have tf := tid4_four U tU
  have R2 : Rowz V2 [(gl, tab .u32 80 (four one20 nil20 U one20)), (w.heap.size, tab .u8 32 k), (w.heap.size + 1 + 1, tab .u8 32 (fun _ => 0)), (A1.heap.size, tab .u32 20 U)] := Rowz.cons hrow (by simp [tab_size]) ((R1.below hb2).sub (by simp))
  have W2 : Below w.heap.size w V2 := below_lift W1 (by omega) hb2
  have hs2 := hb2.size
  obtain ⟨gU, hgU⟩ : ∃ gU, gU = A1.heap.size := ⟨_, rfl⟩
  rw [← hgU] at R2 hs1 S1 ⊢
  clear hgU R1 W1 hb1 hb2 R0 W0 S0 hrow
  go_wp2
  go_loopw [7] (fun i wr => ∃ (j : Nat) (G : Nat → Int), j ≤ 256 ∧ i = .int .i64 (255 - (j : Int)) ∧ Tid4 G ∧ Scaled (lrun (bitAt k) (bsum p 255 % P25519) j) (lval 20 G) (lval 20 fun i => G (20 + i)) (lval 20 fun i => G (40 + i)) (lval 20 fun i => G (60 + i)) ∧ Rowz wr [(gl, tab .u32 80 G), (w.heap.size, tab .u8 32 k), (w.heap.size + 1 + 1, tab .u8 32 (fun _ => 0)), (gU, tab .u32 20 U)] ∧ Below w.heap.size w wr ∧ VU.heap.size ≤ wr.heap.size) (fun i _ => (intOf i + 1).toNat)
  case atStart => exact ⟨0, _, by omega, by simp, tf.1, ⟨⟨0, Eqv.of_eq (by rw [tf.2.1]; rfl), Eqv.of_eq (by rw [tf.2.2.1]; rfl)⟩, ⟨0, by rw [tf.2.2.2.1]; simp only [lrun]; exact hu.trans (Eqv.of_eq (by omega)), Eqv.of_eq (by rw [tf.2.2.2.2]; rfl)⟩⟩, R2, W2, hs2⟩
  case round =>
    clear tf R2 W2 hs2
    obtain ⟨j, G, hj, rfl, T0, SC, R0, Wr, Sr⟩ := hrel
    have bd0 := T0.bd
    by_cases hlt : j < 256
    · have c1 : (0:Int) ≤ 255 - j := by omega
      have ej : (255 - (j : Int)).toNat = 255 - j := by omega
      have HJ : Hid ((255 - (j : Int)).toNat = 255 - j) := ej
      clear ej
      by_cases hbit : bitAt k (255 - (j : Int)).toNat = 1
      · have T1 := T0.swap
        go_wp2_with (first
          | (refine wpl_load rt107 rfl _ rfl (w.heap.size) rfl (tab .u8 32 k) ?_ (tab_size _ _ _) ?_; (focus (exact (R0 (w.heap.size, tab .u8 32 k) (by simp)).1)))
          | (go_at_call 163; refine (bitOf_int _ hk _ (by omega) (by omega) _).mono ?_; rintro e A0 ⟨rfl, hb0⟩; have hs0 := hb0.size; have Q0 := R0.below hb0; have W0 := below_lift Wr (by omega) hb0; rw [hbit])
          | (refine wpl_load rt121 rfl _ rfl gl rfl (tab .u32 80 G) ?_ (tab_size _ _ _) ?_; (focus (exact (Q0 (gl, tab .u32 80 G) (by simp)).1)))
          | (go_at_call 164; refine (exchanged_yes _ ?_ _).mono ?_; (focus (with_reducible exact bd0)); rintro e A1 ⟨rfl, hb1⟩; have hs1 := hb1.size)
          | (refine wpl_store rt121 rfl _ _ rfl gl rfl (tab .u32 80 (fun j => G ((j + 40) % 80))) rfl ?_ (tab_size _ _ _) (tab_all _ _ _) (A1.setRow gl (tab .u32 80 (fun j => G ((j + 40) % 80)))) rfl ?_; (focus (rw [((Q0.below hb1) (gl, tab .u32 80 G) (by simp)).1]; exact tab_size _ _ _)); obtain ⟨V1, hV⟩ : ∃ V, V = A1.setRow gl (tab .u32 80 (fun j => G ((j + 40) % 80))) := ⟨_, rfl⟩; have S1 : V1.heap.size = A1.heap.size := (by rw [hV]; simp); have Q1 : Rowz V1 [(gl, tab .u32 80 (fun j => G ((j + 40) % 80))), (w.heap.size, tab .u8 32 k), (w.heap.size + 1 + 1, tab .u8 32 (fun _ => 0)), (gU, tab .u32 20 U)] := (by rw [hV]; exact ((Q0.below hb1).sub (m := [(w.heap.size, tab .u8 32 k), (w.heap.size + 1 + 1, tab .u8 32 (fun _ => 0)), (gU, tab .u32 20 U)]) (by simp)).setRow _ _ (tab .u32 80 G) (by simp [tab_size]) ((Q0.below hb1) (gl, tab .u32 80 G) (by simp)).1 (by simp [tab_size]) (by intro p hp; simp only [List.mem_cons, List.not_mem_nil, or_false] at hp; rcases hp with rfl | rfl | rfl <;> simp only <;> omega)); have W1 : Below w.heap.size w V1 := (by rw [hV]; exact below_setRow (below_lift W0 (by omega) hb1) (by omega) _); rw [← hV]; clear hV)
          | (refine wpl_load rt121 rfl _ rfl gl rfl (tab .u32 80 (fun j => G ((j + 40) % 80))) ?_ (tab_size _ _ _) ?_; (focus (exact (Q1 (gl, tab .u32 80 (fun j => G ((j + 40) % 80))) (by simp)).1)))
          | (refine wpl_load rt117 rfl _ rfl gU rfl (tab .u32 20 U) ?_ (tab_size _ _ _) ?_; (focus (exact (Q1 (gU, tab .u32 20 U) (by simp)).1)))
          | (go_at_call 165; refine (step_any _ _ ?_ tU _).mono ?_; (focus (with_reducible exact T1)); rintro e A2 ⟨G2, rfl, T2, E2', hb2⟩; have hs2 := hb2.size)
          | (refine wpl_store rt121 rfl _ _ rfl gl rfl (tab .u32 80 G2) rfl ?_ (tab_size _ _ _) (tab_all _ _ _) (A2.setRow gl (tab .u32 80 G2)) rfl ?_; (focus (rw [((Q1.below hb2) (gl, tab .u32 80 (fun j => G ((j + 40) % 80))) (by simp)).1]; exact tab_size _ _ _)); obtain ⟨V2, hV⟩ : ∃ V, V = A2.setRow gl (tab .u32 80 G2) := ⟨_, rfl⟩; have S2 : V2.heap.size = A2.heap.size := (by rw [hV]; simp); have Q2 : Rowz V2 [(gl, tab .u32 80 G2), (w.heap.size, tab .u8 32 k), (w.heap.size + 1 + 1, tab .u8 32 (fun _ => 0)), (gU, tab .u32 20 U)] := (by rw [hV]; exact ((Q1.below hb2).sub (m := [(w.heap.size, tab .u8 32 k), (w.heap.size + 1 + 1, tab .u8 32 (fun _ => 0)), (gU, tab .u32 20 U)]) (by simp)).setRow _ _ (tab .u32 80 (fun j => G ((j + 40) % 80))) (by simp [tab_size]) ((Q1.below hb2) (gl, tab .u32 80 (fun j => G ((j + 40) % 80))) (by simp)).1 (by simp [tab_size]) (by intro p hp; simp only [List.mem_cons, List.not_mem_nil, or_false] at hp; rcases hp with rfl | rfl | rfl <;> simp only <;> omega)); have W2 : Below w.heap.size w V2 := (by rw [hV]; exact below_setRow (below_lift W1 (by omega) hb2) (by omega) _); rw [← hV]; clear hV)
          | (refine wpl_load rt121 rfl _ rfl gl rfl (tab .u32 80 G2) ?_ (tab_size _ _ _) ?_; (focus (exact (Q2 (gl, tab .u32 80 G2) (by simp)).1)))
          | (go_at_call 164; refine (exchanged_yes _ ?_ _).mono ?_; (focus (with_reducible exact T2.bd)); rintro e A3 ⟨rfl, hb3⟩; have hs3 := hb3.size)
          | (refine wpl_store rt121 rfl _ _ rfl gl rfl (tab .u32 80 (fun j => G2 ((j + 40) % 80))) rfl ?_ (tab_size _ _ _) (tab_all _ _ _) (A3.setRow gl (tab .u32 80 (fun j => G2 ((j + 40) % 80)))) rfl ?_; (focus (rw [((Q2.below hb3) (gl, tab .u32 80 G2) (by simp)).1]; exact tab_size _ _ _)); obtain ⟨V3, hV⟩ : ∃ V, V = A3.setRow gl (tab .u32 80 (fun j => G2 ((j + 40) % 80))) := ⟨_, rfl⟩; have S3 : V3.heap.size = A3.heap.size := (by rw [hV]; simp); have Q3 : Rowz V3 [(gl, tab .u32 80 (fun j => G2 ((j + 40) % 80))), (w.heap.size, tab .u8 32 k), (w.heap.size + 1 + 1, tab .u8 32 (fun _ => 0)), (gU, tab .u32 20 U)] := (by rw [hV]; exact ((Q2.below hb3).sub (m := [(w.heap.size, tab .u8 32 k), (w.heap.size + 1 + 1, tab .u8 32 (fun _ => 0)), (gU, tab .u32 20 U)]) (by simp)).setRow _ _ (tab .u32 80 G2) (by simp [tab_size]) ((Q2.below hb3) (gl, tab .u32 80 G2) (by simp)).1 (by simp [tab_size]) (by intro p hp; simp only [List.mem_cons, List.not_mem_nil, or_false] at hp; rcases hp with rfl | rfl | rfl <;> simp only <;> omega)); have W3 : Below w.heap.size w V3 := (by rw [hV]; exact below_setRow (below_lift W2 (by omega) hb3) (by omega) _); rw [← hV]; clear hV))
        go_roundw
        case rel => exact ⟨j + 1, _, by omega, by go_num, T2.swap, by simp only [lrun]; rw [← HJ.out, hbit]; exact E2'.scaled1 SC hu, Q3, W3, by omega⟩
        case measure => simp [intOf]; omega
      · have h0 : bitAt k (255 - (j : Int)).toNat = 0 := by have := bitAt_01 k (255 - (j : Int)).toNat; omega
        have HN : Hid (¬ bitAt k (255 - (j : Int)).toNat = 1) := hbit
        clear hbit
        have hbit := h0
        clear h0
        have T1 := T0
        go_wp2_with (first
          | (refine wpl_load rt107 rfl _ rfl (w.heap.size) rfl (tab .u8 32 k) ?_ (tab_size _ _ _) ?_; (focus (exact (R0 (w.heap.size, tab .u8 32 k) (by simp)).1)))
          | (go_at_call 163; refine (bitOf_int _ hk _ (by omega) (by omega) _).mono ?_; rintro e A0 ⟨rfl, hb0⟩; have hs0 := hb0.size; have Q0 := R0.below hb0; have W0 := below_lift Wr (by omega) hb0; rw [hbit])
          | (refine wpl_load rt121 rfl _ rfl gl rfl (tab .u32 80 G) ?_ (tab_size _ _ _) ?_; (focus (exact (Q0 (gl, tab .u32 80 G) (by simp)).1)))
          | (go_at_call 164; refine (exchanged_no _ ?_ _).mono ?_; (focus (with_reducible exact bd0)); rintro e A1 ⟨rfl, hb1⟩; have hs1 := hb1.size)
          | (refine wpl_store rt121 rfl _ _ rfl gl rfl (tab .u32 80 G) rfl ?_ (tab_size _ _ _) (tab_all _ _ _) (A1.setRow gl (tab .u32 80 G)) rfl ?_; (focus (rw [((Q0.below hb1) (gl, tab .u32 80 G) (by simp)).1]; exact tab_size _ _ _)); obtain ⟨V1, hV⟩ : ∃ V, V = A1.setRow gl (tab .u32 80 G) := ⟨_, rfl⟩; have S1 : V1.heap.size = A1.heap.size := (by rw [hV]; simp); have Q1 : Rowz V1 [(gl, tab .u32 80 G), (w.heap.size, tab .u8 32 k), (w.heap.size + 1 + 1, tab .u8 32 (fun _ => 0)), (gU, tab .u32 20 U)] := (by rw [hV]; exact ((Q0.below hb1).sub (m := [(w.heap.size, tab .u8 32 k), (w.heap.size + 1 + 1, tab .u8 32 (fun _ => 0)), (gU, tab .u32 20 U)]) (by simp)).setRow _ _ (tab .u32 80 G) (by simp [tab_size]) ((Q0.below hb1) (gl, tab .u32 80 G) (by simp)).1 (by simp [tab_size]) (by intro p hp; simp only [List.mem_cons, List.not_mem_nil, or_false] at hp; rcases hp with rfl | rfl | rfl <;> simp only <;> omega)); have W1 : Below w.heap.size w V1 := (by rw [hV]; exact below_setRow (below_lift W0 (by omega) hb1) (by omega) _); rw [← hV]; clear hV)
          | (refine wpl_load rt121 rfl _ rfl gl rfl (tab .u32 80 G) ?_ (tab_size _ _ _) ?_; (focus (exact (Q1 (gl, tab .u32 80 G) (by simp)).1)))
          | (refine wpl_load rt117 rfl _ rfl gU rfl (tab .u32 20 U) ?_ (tab_size _ _ _) ?_; (focus (exact (Q1 (gU, tab .u32 20 U) (by simp)).1)))
          | (go_at_call 165; refine (step_any _ _ ?_ tU _).mono ?_; (focus (with_reducible exact T1)); rintro e A2 ⟨G2, rfl, T2, E2', hb2⟩; have hs2 := hb2.size)
          | (refine wpl_store rt121 rfl _ _ rfl gl rfl (tab .u32 80 G2) rfl ?_ (tab_size _ _ _) (tab_all _ _ _) (A2.setRow gl (tab .u32 80 G2)) rfl ?_; (focus (rw [((Q1.below hb2) (gl, tab .u32 80 G) (by simp)).1]; exact tab_size _ _ _)); obtain ⟨V2, hV⟩ : ∃ V, V = A2.setRow gl (tab .u32 80 G2) := ⟨_, rfl⟩; have S2 : V2.heap.size = A2.heap.size := (by rw [hV]; simp); have Q2 : Rowz V2 [(gl, tab .u32 80 G2), (w.heap.size, tab .u8 32 k), (w.heap.size + 1 + 1, tab .u8 32 (fun _ => 0)), (gU, tab .u32 20 U)] := (by rw [hV]; exact ((Q1.below hb2).sub (m := [(w.heap.size, tab .u8 32 k), (w.heap.size + 1 + 1, tab .u8 32 (fun _ => 0)), (gU, tab .u32 20 U)]) (by simp)).setRow _ _ (tab .u32 80 G) (by simp [tab_size]) ((Q1.below hb2) (gl, tab .u32 80 G) (by simp)).1 (by simp [tab_size]) (by intro p hp; simp only [List.mem_cons, List.not_mem_nil, or_false] at hp; rcases hp with rfl | rfl | rfl <;> simp only <;> omega)); have W2 : Below w.heap.size w V2 := (by rw [hV]; exact below_setRow (below_lift W1 (by omega) hb2) (by omega) _); rw [← hV]; clear hV)
          | (refine wpl_load rt121 rfl _ rfl gl rfl (tab .u32 80 G2) ?_ (tab_size _ _ _) ?_; (focus (exact (Q2 (gl, tab .u32 80 G2) (by simp)).1)))
          | (go_at_call 164; refine (exchanged_no _ ?_ _).mono ?_; (focus (with_reducible exact T2.bd)); rintro e A3 ⟨rfl, hb3⟩; have hs3 := hb3.size)
          | (refine wpl_store rt121 rfl _ _ rfl gl rfl (tab .u32 80 G2) rfl ?_ (tab_size _ _ _) (tab_all _ _ _) (A3.setRow gl (tab .u32 80 G2)) rfl ?_; (focus (rw [((Q2.below hb3) (gl, tab .u32 80 G2) (by simp)).1]; exact tab_size _ _ _)); obtain ⟨V3, hV⟩ : ∃ V, V = A3.setRow gl (tab .u32 80 G2) := ⟨_, rfl⟩; have S3 : V3.heap.size = A3.heap.size := (by rw [hV]; simp); have Q3 : Rowz V3 [(gl, tab .u32 80 G2), (w.heap.size, tab .u8 32 k), (w.heap.size + 1 + 1, tab .u8 32 (fun _ => 0)), (gU, tab .u32 20 U)] := (by rw [hV]; exact ((Q2.below hb3).sub (m := [(w.heap.size, tab .u8 32 k), (w.heap.size + 1 + 1, tab .u8 32 (fun _ => 0)), (gU, tab .u32 20 U)]) (by simp)).setRow _ _ (tab .u32 80 G2) (by simp [tab_size]) ((Q2.below hb3) (gl, tab .u32 80 G2) (by simp)).1 (by simp [tab_size]) (by intro p hp; simp only [List.mem_cons, List.not_mem_nil, or_false] at hp; rcases hp with rfl | rfl | rfl <;> simp only <;> omega)); have W3 : Below w.heap.size w V3 := (by rw [hV]; exact below_setRow (below_lift W2 (by omega) hb3) (by omega) _); rw [← hV]; clear hV))
        go_roundw
        case rel => exact ⟨j + 1, _, by omega, by go_num, T2, by simp only [lrun]; exact E2'.scaled0 SC hu (by rw [← HJ.out]; exact HN.out), Q3, W3, by omega⟩
        case measure => simp [intOf]; omega
    · have hj' : j = 256 := by omega
      subst hj'
      go_wp2_with (first
        | (refine wpl_load_seg rt117 rfl _ rfl gl 20 rfl .u32 80 G ?_ (by decide) ?_; (focus (exact (R0 (gl, tab .u32 80 G) (by simp)).1)))
        | (go_at_call 166; refine (inverse_any _ T0.b _).mono ?_; rintro e A2 ⟨inv, rfl, tinv, vinv, hb2⟩; have hs2 := hb2.size)
        | (refine wpl_store rt117 rfl _ _ rfl (A2.heap.size) rfl (tab .u32 20 inv) rfl ?_ (tab_size _ _ _) (tab_all _ _ _) (A2.alloc (c20 inv)) ?_ ?_; (focus (simp [go_sem]; done)); (focus (simp [go_sem]; done)); obtain ⟨V2, hV⟩ : ∃ V, V = A2.alloc (c20 inv) := ⟨_, rfl⟩; have S2 : V2.heap.size = A2.heap.size + 1 := (by rw [hV]; simp); have R2 : Rowz V2 [(A2.heap.size, tab .u32 20 inv), (gl, tab .u32 80 G), (w.heap.size + 1 + 1, tab .u8 32 (fun _ => 0))] := (by rw [hV]; exact ((R0.below hb2).sub (m := [(gl, tab .u32 80 G), (w.heap.size + 1 + 1, tab .u8 32 (fun _ => 0))]) (by simp)).alloc _ _ (by simp [tab_size])); have W2 : Below w.heap.size w V2 := (by rw [hV]; exact (below_lift Wr (by omega) hb2).alloc (by omega) _); rw [← hV]; clear hV)
        | (refine wpl_load_seg rt117 rfl _ rfl gl 0 rfl .u32 80 G ?_ (by decide) ?_; (focus (exact (R2 (gl, tab .u32 80 G) (by simp)).1)))
        | (refine wpl_load rt117 rfl _ rfl (A2.heap.size) rfl (tab .u32 20 inv) ?_ (tab_size _ _ _) ?_; (focus (exact (R2 (A2.heap.size, tab .u32 20 inv) (by simp)).1)))
        | (go_at_call 167; refine (times_any _ _ T0.a tinv _).mono ?_; rintro e A3 ⟨xx, rfl, txx, vxx, hb3⟩; have hs3 := hb3.size)
        | (refine wpl_store rt117 rfl _ _ rfl (A3.heap.size) rfl (tab .u32 20 xx) rfl ?_ (tab_size _ _ _) (tab_all _ _ _) (A3.alloc (c20 xx)) ?_ ?_; (focus (simp [go_sem]; done)); (focus (simp [go_sem]; done)); obtain ⟨V3, hV⟩ : ∃ V, V = A3.alloc (c20 xx) := ⟨_, rfl⟩; have S3 : V3.heap.size = A3.heap.size + 1 := (by rw [hV]; simp); have R3 : Rowz V3 [(A3.heap.size, tab .u32 20 xx), (w.heap.size + 1 + 1, tab .u8 32 (fun _ => 0))] := (by rw [hV]; exact ((R2.below hb3).sub (m := [(w.heap.size + 1 + 1, tab .u8 32 (fun _ => 0))]) (by simp)).alloc _ _ (by simp [tab_size])); have W3 : Below w.heap.size w V3 := (by rw [hV]; exact (below_lift W2 (by omega) hb3).alloc (by omega) _); rw [← hV]; clear hV)
        | (refine wpl_load rt117 rfl _ rfl (A3.heap.size) rfl (tab .u32 20 xx) ?_ (tab_size _ _ _) ?_; (focus (exact (R3 (A3.heap.size, tab .u32 20 xx) (by simp)).1)))
        | (go_at_call 168; refine (bytes_any _ txx _).mono ?_; rintro e A4 ⟨b, rfl, bb, vb, hb4⟩; have hs4 := hb4.size)
        | (refine wpl_store rt107 rfl _ _ rfl (w.heap.size + 1 + 1) rfl (tab .u8 32 b) rfl ?_ (tab_size _ _ _) (tab_all _ _ _) (A4.setRow (w.heap.size + 1 + 1) (tab .u8 32 b)) rfl ?_; (focus (rw [((R3.below hb4) (w.heap.size + 1 + 1, tab .u8 32 (fun _ => 0)) (by simp)).1]; exact tab_size _ _ _))))
      have hr4 := ((R3.below hb4) (w.heap.size + 1 + 1, tab .u8 32 (fun _ => 0)) (by simp)).1
      have hr5 : 0 < (A4.rowOf (w.heap.size + 1 + 1)).size := by rw [hr4, tab_size]; omega
      refine bodyPost_ret (v := .agg (tab .u8 32 b)) (by rw [results_row rt107 Tryz.results136 _ _ (w.heap.size + 1 + 1) rfl (by rw [rowOf_setRow_same hr5]; exact tab_size _ _ _), rowOf_setRow_same hr5]) rfl ⟨b, rfl, bb, ?_, below_setRow (below_lift W3 (by omega) hb4) (by omega) _⟩
      rw [vb]
      have v1 : Eqv (lval 20 xx) (lval 20 G * lval 20 inv) := vxx
      have v2 : Eqv (lval 20 inv) ((lval 20 fun i => G (20 + i)) ^ E2) := vinv
      exact (v1.trans ((Eqv.refl _).mul v2)).trans SC.out
end Go.Proofs.YteghoooelgcpkaaGreatDoor
namespace Go.Proofs.YteghoooelgcpkaaGreatDoor
open Go.RowKit Go.Msg

def sharedF (k p : ByteArray) (b : Nat → Int) : Prop := (∀ i, i < 32 → 0 ≤ b i ∧ b i ≤ 255) ∧ bval 32 b = lout (bitAt (clampF (sb k))) (bsum (sb p) 255 % P25519)
theorem clampF_bd (k : ByteArray) : ∀ i, i < 32 → 0 ≤ clampF (sb k) i ∧ clampF (sb k) i ≤ 255 := fun i _ => by
  have h0 := sb_bd k 0; have h31 := sb_bd k 31; have hi := sb_bd k i
  unfold clampF upd
  by_cases e : i = 31
  · simp [e]; omega
  · by_cases e2 : i = 0
    · simp [e2]; omega
    · simp [e, e2]; exact hi
set_option maxHeartbeats 2000000 in
theorem cshared_any (k p : ByteArray) (hk : k.size ≤ 9223372036854775807) (hp : p.size ≤ 9223372036854775807) (w : World) :
    Calls Tryz.prog 101 #[.string k, .string p] w fun e w' => ∃ b, e = .returned (.string (bstr 32 b)) ∧ sharedF k p b ∧ Below w.heap.size w w' := by
  go_enter Tryz.func101, Tryz.ntmps101
  go_wp2_with (first
    | (go_at_call 134; refine (bytesOf_any _ ?_ _).mono ?_; (focus (with_reducible exact hk)); rintro e A1 ⟨rfl, hb1⟩; have hs1 := hb1.size)
    | (refine wpl_store rt107 rfl _ _ rfl (A1.heap.size) rfl (tab .u8 32 (sb k)) rfl ?_ (tab_size _ _ _) (tab_all _ _ _) (A1.alloc (c32 (sb k))) ?_ ?_; (focus (simp [go_sem]; done)); (focus (simp [go_sem]; done)); obtain ⟨V1, hV⟩ : ∃ V, V = A1.alloc (c32 (sb k)) := ⟨_, rfl⟩; have S1 : V1.heap.size = A1.heap.size + 1 := (by rw [hV]; simp); have R1 : Rowz V1 [(A1.heap.size, tab .u8 32 (sb k))] := (by rw [hV]; exact (Rowz.nil A1).alloc _ _ (by simp [tab_size])); have W1 : Below w.heap.size w V1 := (by rw [hV]; exact (below_lift (Below.refl _ _) (by omega) hb1).alloc (by omega) _); rw [← hV]; clear hV)
    | (refine wpl_load rt107 rfl _ rfl (A1.heap.size) rfl (tab .u8 32 (sb k)) ?_ (tab_size _ _ _) ?_; (focus (exact (R1 (A1.heap.size, tab .u8 32 (sb k)) (by simp)).1)))
    | (go_at_call 135; refine (clamp_any _ (fun i _ => sb_bd k i) _).mono ?_; rintro e A2 ⟨rfl, hb2⟩; have hs2 := hb2.size)
    | (refine wpl_store rt107 rfl _ _ rfl (A1.heap.size) rfl (tab .u8 32 (clampF (sb k))) rfl ?_ (tab_size _ _ _) (tab_all _ _ _) (A2.setRow A1.heap.size (tab .u8 32 (clampF (sb k)))) rfl ?_; (focus (rw [((R1.below hb2) (A1.heap.size, tab .u8 32 (sb k)) (by simp)).1]; exact tab_size _ _ _)); obtain ⟨V2, hV⟩ : ∃ V, V = A2.setRow A1.heap.size (tab .u8 32 (clampF (sb k))) := ⟨_, rfl⟩; have S2 : V2.heap.size = A2.heap.size := (by rw [hV]; simp); have R2 : Rowz V2 [(A1.heap.size, tab .u8 32 (clampF (sb k)))] := (by rw [hV]; exact (Rowz.nil A2).setRow _ _ (tab .u8 32 (sb k)) (by simp [tab_size]) ((R1.below hb2) (A1.heap.size, tab .u8 32 (sb k)) (by simp)).1 (by simp [tab_size]) (by intro p hp; cases hp)); have W2 : Below w.heap.size w V2 := (by rw [hV]; exact below_setRow (below_lift W1 (by omega) hb2) (by omega) _); rw [← hV]; clear hV)
    | (go_at_call 134; refine (bytesOf_any _ ?_ _).mono ?_; (focus (with_reducible exact hp)); rintro e A3 ⟨rfl, hb3⟩; have hs3 := hb3.size)
    | (refine wpl_store rt107 rfl _ _ rfl (A3.heap.size) rfl (tab .u8 32 (sb p)) rfl ?_ (tab_size _ _ _) (tab_all _ _ _) (A3.alloc (c32 (sb p))) ?_ ?_; (focus (simp [go_sem]; done)); (focus (simp [go_sem]; done)); obtain ⟨V3, hV⟩ : ∃ V, V = A3.alloc (c32 (sb p)) := ⟨_, rfl⟩; have S3 : V3.heap.size = A3.heap.size + 1 := (by rw [hV]; simp); have R3 : Rowz V3 [(A3.heap.size, tab .u8 32 (sb p)), (A1.heap.size, tab .u8 32 (clampF (sb k)))] := (by rw [hV]; exact (R2.below hb3).alloc _ _ (by simp [tab_size])); have W3 : Below w.heap.size w V3 := (by rw [hV]; exact (below_lift W2 (by omega) hb3).alloc (by omega) _); rw [← hV]; clear hV)
    | (refine wpl_load rt107 rfl _ rfl (A1.heap.size) rfl (tab .u8 32 (clampF (sb k))) ?_ (tab_size _ _ _) ?_; (focus (exact (R3 (A1.heap.size, tab .u8 32 (clampF (sb k))) (by simp)).1)))
    | (refine wpl_load rt107 rfl _ rfl (A3.heap.size) rfl (tab .u8 32 (sb p)) ?_ (tab_size _ _ _) ?_; (focus (exact (R3 (A3.heap.size, tab .u8 32 (sb p)) (by simp)).1)))
    | (go_at_call 136; refine (ladder_any _ _ (clampF_bd k) (fun i _ => sb_bd p i) _).mono ?_; rintro e A4 ⟨b, rfl, bb, vb, hb4⟩; have hs4 := hb4.size)
    | (refine wpl_store rt107 rfl _ _ rfl (A4.heap.size) rfl (tab .u8 32 b) rfl ?_ (tab_size _ _ _) (tab_all _ _ _) (A4.alloc (c32 b)) ?_ ?_; (focus (simp [go_sem]; done)); (focus (simp [go_sem]; done)); obtain ⟨V4, hV⟩ : ∃ V, V = A4.alloc (c32 b) := ⟨_, rfl⟩; have R4 : V4.rowOf A4.heap.size = tab .u8 32 b := (by rw [hV]; simp [go_sem]); have W4 : Below w.heap.size w V4 := (by rw [hV]; exact (below_lift W3 (by omega) hb4).alloc (by omega) _); rw [← hV]; clear hV)
    | (refine wpl_convert rfl 112 9 5 _ rfl Tryz.underlying112 Tryz.underlying5 Tryz.underlying9 A4.heap.size 0 32 32 rfl 32 b ?_ (by decide) ?_; (focus (exact R4))))
  go_ret
  exact ⟨b, rfl, ⟨bb, vb⟩, W4⟩

set_option maxHeartbeats 400000 in
theorem point_any (k : ByteArray) (hk : k.size ≤ 9223372036854775807) (w : World) :
    Calls Tryz.prog 68 #[.string k] w fun e w' => ∃ b, e = .returned (.string (bstr 32 b)) ∧ sharedF k ⟨#[9]⟩ b ∧ Below w.heap.size w w' := by
  go_enter Tryz.func68, Tryz.ntmps68
  go_wp2_with (go_at_call 101; refine (cshared_any k ⟨#[9]⟩ hk (by decide) _).mono ?_; rintro e A1 ⟨b, rfl, hs, hb⟩)
  go_ret
  exact ⟨b, rfl, hs, hb⟩

set_option maxHeartbeats 400000 in
theorem spublic_any (k : ByteArray) (hk : k.size = 32) (w : World) :
    Calls Tryz.prog 77 #[.string k] w fun e w' => ∃ b, e = .returned (.tuple #[.string (bstr 32 b), .int .i64 0]) ∧ sharedF k ⟨#[9]⟩ b ∧ Below w.heap.size w w' := by
  have hk1 : (k.size : Int) = 32 := by omega
  have hk2 : k.size ≤ 9223372036854775807 := by omega
  go_enter Tryz.func77, Tryz.ntmps77
  go_wp2_with (go_at_call 68; refine (point_any k hk2 _).mono ?_; rintro e A1 ⟨b, rfl, hs, hb⟩)
  go_ret2
  exact ⟨b, rfl, hs, hb⟩

set_option maxHeartbeats 400000 in
theorem spublic_bad (k : ByteArray) (hk : k.size ≠ 32) (w : World) :
    Calls Tryz.prog 77 #[.string k] w fun e w' => e = .returned (.tuple #[.string ⟨#[]⟩, .int .i64 1]) ∧ w' = w := by
  have hk1 : ((k.size : Int) != 32) = true := by simp; omega
  go_enter Tryz.func77, Tryz.ntmps77
  go_wp2
  go_ret2
  exact ⟨rfl, rfl⟩
end Go.Proofs.YteghoooelgcpkaaGreatDoor
