import Derived.Test.YteghoooelgcpkabGreatDoorM00
import Derived.Test.YteghoooelgcpkabGreatDoorM02
namespace Go.Proofs.YteghoooelgcpkabGreatDoor
open Go.RowKit Go.Msg
theorem fold_tab (k : IntKind) (N : Nat) (F x : Nat → Int) (off : Nat) : ∀ n, off + n ≤ N →
    (((List.range n).map fun i => Value.int k (x i)).zipIdx).foldl (fun cs (p : Value × Nat) => cs.setIfInBounds (off + p.2) p.1) (tab k N F) = tab k N (splice F off n x) := by
  intro n
  induction n with
  | zero => intro _; simp only [List.range_zero, List.map_nil, List.zipIdx_nil, List.foldl_nil]; exact tab_congr fun j _ => by simp [splice]; omega
  | succ n ih =>
    intro h
    rw [List.range_succ, List.map_append, List.zipIdx_append, List.foldl_append, ih (by omega)]
    simp only [List.map_cons, List.map_nil, List.length_map, List.length_range, Nat.zero_add, List.zipIdx_cons, List.zipIdx_nil, List.foldl_cons, List.foldl_nil]
    rw [tab_set]
    refine tab_congr fun j _ => ?_
    unfold upd splice
    by_cases e : j = off + n
    · subst e; rw [if_pos rfl, if_pos (by omega)]; congr 1; omega
    · rw [if_neg e]
      by_cases e2 : off ≤ j ∧ j < off + n
      · rw [if_pos e2, if_pos (by omega)]
      · rw [if_neg e2, if_neg (by omega)]
theorem fill_tab (place : Nat → Option (Nat × Nat)) (k : IntKind) (N n off i : Nat) (F x : Nat → Int) (rest : List (Nat × Value)) (hp : place i = some (off, n)) (h : off + n ≤ N) :
    Instr.fill place (tab k N F) ((i, .agg (tab k n x)) :: rest) = Instr.fill place (tab k N (splice F off n x)) rest := by
  have hf : (tab k n x).zipIdx.foldl (fun cs (p : Value × Nat) => cs.setIfInBounds (off + p.2) p.1) (tab k N F) = tab k N (splice F off n x) := by
    rw [← fold_tab k N F x off n h, tab_eq k n x]
    simp
  rw [Instr.fill, hp]
  simp only [Value.cells, tab_size]
  rw [if_neg (by simp; omega)]
  rw [← hf]
theorem info121 : (Tryz.prog.info? 171).map (·.zero) = some (some (.agg Tryz.zeroCells171)) := by kernel_rfl
theorem places121 : ∃ fields, Tryz.prog.underlying 171 = some (.struct fields) ∧ fields.toList.mapM (fun f => (Tryz.prog.info? f.type).map fun i => (f.offset, i.size)) = some [(0, 20), (20, 20), (40, 20), (60, 20)] := ⟨_, Tryz.underlying171, by kernel_rfl⟩
def four (x0 x1 x2 x3 : Nat → Int) : Nat → Int := splice (splice (splice (splice (fun _ => 0) 0 20 x0) 20 20 x1) 40 20 x2) 60 20 x3
theorem built121 (x0 x1 x2 x3 : Nat → Int) : Tryz.prog.built 171 [(0, .agg (tab .u32 20 x0)), (1, .agg (tab .u32 20 x1)), (2, .agg (tab .u32 20 x2)), (3, .agg (tab .u32 20 x3))] = some (tab .u32 80 (four x0 x1 x2 x3)) := by
  have h1 := info121
  obtain ⟨fields, h2, h3⟩ := places121
  cases hi : Tryz.prog.info? 171 with
  | none => rw [hi] at h1; cases h1
  | some it =>
    rw [hi] at h1
    have hz : it.zero = some (.agg Tryz.zeroCells171) := by simpa using h1
    clear h1
    generalize Tryz.prog = P at *
    unfold Program.built
    simp only [hi, h2, hz, h3]
    simp only [Value.cells, zero80]
    rw [fill_tab _ _ 80 20 0 0 _ _ _ rfl (by omega), fill_tab _ _ 80 20 20 1 _ _ _ rfl (by omega), fill_tab _ _ 80 20 40 2 _ _ _ rfl (by omega), fill_tab _ _ 80 20 60 3 _ _ _ rfl (by omega)]
    rfl
abbrev one20 : Nat → Int := upd (fun _ => 0) 0 1
abbrev nil20 : Nat → Int := upd (fun _ => 0) 0 0
def lfr (l : Array Bool) (U : Nat → Int) (g : Nat) (a0 : Act) : Act :=
  pt (l.getD 0 false) 13 (.agg (tab .u32 20 one20)) (pt (l.getD 1 false) 14 (.agg (tab .u32 20 nil20)) (pt (l.getD 2 false) 15 (.agg (tab .u32 20 U)) (pt (l.getD 3 false) 16 (.agg (tab .u32 20 one20))
    (pt (l.getD 4 false) 17 (.agg (tab .u32 80 (four one20 nil20 U one20))) (pt (l.getD 5 false) 6 (.pointer (some ⟨g, 0, none⟩)) a0)))))
def linv (V : World) (U : Nat → Int) (a0 : Act) (l : Array Bool) (a : Act) (w : World) : Prop :=
  (l.getD 5 false = false → l.getD 6 false = false) ∧ ∃ g, a = lfr l U g a0 ∧ Below V.heap.size V w ∧ (l.getD 5 false = true → V.heap.size ≤ g ∧ w.rowOf g = tab .u32 80 (if l.getD 6 false then four one20 nil20 U one20 else fun _ => 0))
theorem getD_set_self {l : Array Bool} {i : Nat} (h : i < l.size) : (l.setIfInBounds i true).getD i false = true := by simp [h]
theorem listed_of {l : Array Bool} {i : Nat} (h : i < l.size) : l.getD i true = l.getD i false := by simp [h]
set_option maxRecDepth 8000 in
set_option linter.unusedSimpArgs false in
theorem ladder_region {Q : Exit → Act → World → Prop} {id : Nat} {a0 : Act} {V : World} {y0 y1 y2 y3 y4 y5 y6 : TypeId} {p0 p1 p2 p3 p4 p5 p6 : String}
    (hsz : 17 < a0.tmps.size) (U : Nat → Int) (gU : Nat) (h5 : a0.eval (.tmp 5) = .pointer (some ⟨gU, 0, none⟩)) (hU : V.rowOf gU = tab .u32 20 U)
    (h : ∀ g V', Below V.heap.size V V' → V.heap.size ≤ g → V'.rowOf g = tab .u32 80 (four one20 nil20 U one20) →
      Q .normal ((((((a0.put (some 6) (.pointer (some ⟨g, 0, none⟩))).put (some 17) (.agg (tab .u32 80 (four one20 nil20 U one20)))).put (some 16) (.agg (tab .u32 20 one20))).put (some 15) (.agg (tab .u32 20 U))).put (some 14) (.agg (tab .u32 20 nil20))).put (some 13) (.agg (tab .u32 20 one20))) V') :
    (Code.region id #[⟨some 13, .call { callee := .value (.func 123), args := #[.const (.int .u32 1)], argTypes := #[144] }, y0, p0, #[], none⟩,
      ⟨some 14, .call { callee := .value (.func 123), args := #[.const (.int .u32 0)], argTypes := #[144] }, y1, p1, #[⟨0, .chain⟩], none⟩,
      ⟨some 15, .load 167 (.tmp 5), y2, p2, #[], none⟩,
      ⟨some 16, .call { callee := .value (.func 123), args := #[.const (.int .u32 1)], argTypes := #[144] }, y3, p3, #[⟨1, .chain⟩], none⟩,
      ⟨some 17, .build 171 #[(0, .tmp 13), (1, .tmp 14), (2, .tmp 15), (3, .tmp 16)], y4, p4, #[⟨0, .data⟩, ⟨1, .data⟩, ⟨2, .data⟩, ⟨3, .data⟩], none⟩,
      ⟨some 6, .alloc 171, y5, p5, #[], none⟩,
      ⟨none, .store 171 (.tmp 6) (.tmp 17), y6, p6, #[⟨5, .data⟩, ⟨4, .data⟩, ⟨3, .chain⟩, ⟨0, .phase⟩, ⟨1, .phase⟩, ⟨2, .phase⟩, ⟨3, .phase⟩, ⟨4, .phase⟩, ⟨5, .phase⟩], none⟩] true).wp Tryz.prog Q a0 V := by
  refine wp_region_inv mixed_any (linv V U a0) ⟨fun _ => by simp, 0, by simp [lfr, pt], (Below.refl _ _).drew, by simp⟩ ?_ ?_
  · intro l a w' i hl hI hi
    obtain ⟨hun, o, ho, hdep⟩ := mem_ready.1 hi
    obtain ⟨h65, g, rfl, hB, hg⟩ := hI
    have hl7 : l.size = 7 := hl
    have hrow : w'.rowOf gU = tab .u32 20 U := by rw [below_row hB (by rw [hU, tab_size]; omega), hU]
    have hi7 : i = 0 ∨ i = 1 ∨ i = 2 ∨ i = 3 ∨ i = 4 ∨ i = 5 ∨ i = 6 := by
      have := (Array.getElem?_eq_some_iff.1 ho).1; simp at this; omega
    have ek : ∀ i j, j ≠ i → (l.setIfInBounds i true).getD j false = l.getD j false := fun i j hj => getD_set_ne false (Ne.symm hj)
    have keep : ∀ i w2, Below w'.heap.size w' w2 → i ≠ 5 → i ≠ 6 → (l.setIfInBounds i true).getD 5 false = true → V.heap.size ≤ g ∧ w2.rowOf g = tab .u32 80 (if (l.setIfInBounds i true).getD 6 false then four one20 nil20 U one20 else fun _ => 0) := by
      intro i w2 hb h5' h6' hl5
      rw [ek i 5 (Ne.symm h5')] at hl5
      rw [ek i 6 (Ne.symm h6')]
      obtain ⟨k1, k2⟩ := hg hl5
      exact ⟨k1, by rw [below_row hb (by rw [k2, tab_size]; omega), k2]⟩
    have k65 : ∀ i, i ≠ 5 → i ≠ 6 → (l.setIfInBounds i true).getD 5 false = false → (l.setIfInBounds i true).getD 6 false = false := fun i h5' h6' e => by
      rw [ek i 5 (Ne.symm h5')] at e; rw [ek i 6 (Ne.symm h6')]; exact h65 e
    rcases hi7 with rfl | rfl | rfl | rfl | rfl | rfl | rfl
    · refine wpOp_here (o := ⟨some 13, .call { callee := .value (.func 123), args := #[.const (.int .u32 1)], argTypes := #[144] }, y0, p0, #[], none⟩) rfl rfl (wp_call_here 123 #[.int .u32 1] (by simp [go_sem]) _ (small_any 1 (by omega) (by omega) w') ?_)
      rintro e w2 ⟨rfl, hb⟩
      rw [listed_of (by omega)] at hun
      refine ⟨_, rfl, k65 0 (by omega) (by omega), g, ?_, hB.trans (hb.mono hB.size), keep 0 w2 hb (by omega) (by omega)⟩
      simp only [lfr, hun, getD_set_self (show 0 < l.size by omega), ek 0 1 (by omega), ek 0 2 (by omega), ek 0 3 (by omega), ek 0 4 (by omega), ek 0 5 (by omega), ek 0 6 (by omega)]
      simp [pt_put]; simp [pt]
    · refine wpOp_here (o := ⟨some 14, .call { callee := .value (.func 123), args := #[.const (.int .u32 0)], argTypes := #[144] }, y1, p1, #[⟨0, .chain⟩], none⟩) rfl rfl (wp_call_here 123 #[.int .u32 0] (by simp [go_sem]) _ (small_any 0 (by omega) (by omega) w') ?_)
      rintro e w2 ⟨rfl, hb⟩
      rw [listed_of (by omega)] at hun
      refine ⟨_, rfl, k65 1 (by omega) (by omega), g, ?_, hB.trans (hb.mono hB.size), keep 1 w2 hb (by omega) (by omega)⟩
      simp only [lfr, hun, getD_set_self (show 1 < l.size by omega), ek 1 0 (by omega), ek 1 2 (by omega), ek 1 3 (by omega), ek 1 4 (by omega), ek 1 5 (by omega), ek 1 6 (by omega)]
      simp [pt_put]; simp [pt]
    · have hx : (lfr l U g a0).eval (.tmp 5) = .pointer (some ⟨gU, 0, none⟩) := by
        unfold lfr
        rw [pt_eval _ _ _ _ _ (by omega), pt_eval _ _ _ _ _ (by omega), pt_eval _ _ _ _ _ (by omega), pt_eval _ _ _ _ _ (by omega), pt_eval _ _ _ _ _ (by omega), pt_eval _ _ _ _ _ (by omega)]; exact h5
      have hrun := run_load_row rt117 w' gU (by rw [hrow, tab_size])
      rw [hrow] at hrun
      refine wpOp_here (o := ⟨some 15, .load 167 (.tmp 5), y2, p2, #[], none⟩) rfl rfl (wp_value_here (.agg (tab .u32 20 U)) (w' := w') (by unfold execOp; simp only [hx]; rw [Sem.run_bind, hrun]; rfl) ?_)
      rw [listed_of (by omega)] at hun
      refine ⟨k65 2 (by omega) (by omega), g, ?_, hB, keep 2 w' (Below.refl _ _) (by omega) (by omega)⟩
      simp only [lfr, hun, getD_set_self (show 2 < l.size by omega), ek 2 0 (by omega), ek 2 1 (by omega), ek 2 3 (by omega), ek 2 4 (by omega), ek 2 5 (by omega), ek 2 6 (by omega)]
      simp [pt_put]; simp [pt]
    · refine wpOp_here (o := ⟨some 16, .call { callee := .value (.func 123), args := #[.const (.int .u32 1)], argTypes := #[144] }, y3, p3, #[⟨1, .chain⟩], none⟩) rfl rfl (wp_call_here 123 #[.int .u32 1] (by simp [go_sem]) _ (small_any 1 (by omega) (by omega) w') ?_)
      rintro e w2 ⟨rfl, hb⟩
      rw [listed_of (by omega)] at hun
      refine ⟨_, rfl, k65 3 (by omega) (by omega), g, ?_, hB.trans (hb.mono hB.size), keep 3 w2 hb (by omega) (by omega)⟩
      simp only [lfr, hun, getD_set_self (show 3 < l.size by omega), ek 3 0 (by omega), ek 3 1 (by omega), ek 3 2 (by omega), ek 3 4 (by omega), ek 3 5 (by omega), ek 3 6 (by omega)]
      simp [pt_put]; simp [pt]
    · have ho' : ⟨some 17, .build 171 #[(0, .tmp 13), (1, .tmp 14), (2, .tmp 15), (3, .tmp 16)], y4, p4, #[⟨0, .data⟩, ⟨1, .data⟩, ⟨2, .data⟩, ⟨3, .data⟩], none⟩ = o := by simpa using ho
      subst ho'
      have b0 : l.getD 0 false = true := hdep ⟨0, .data⟩ (by simp) rfl
      have b1 : l.getD 1 false = true := hdep ⟨1, .data⟩ (by simp) rfl
      have b2 : l.getD 2 false = true := hdep ⟨2, .data⟩ (by simp) rfl
      have b3 : l.getD 3 false = true := hdep ⟨3, .data⟩ (by simp) rfl
      have x0 : (lfr l U g a0).eval (.tmp 13) = .agg (tab .u32 20 one20) := by
        unfold lfr; rw [b0]; exact pt_eval_same _ _ _ (by simp only [pt_size]; omega)
      have x1 : (lfr l U g a0).eval (.tmp 14) = .agg (tab .u32 20 nil20) := by
        unfold lfr; rw [pt_eval _ _ _ _ _ (by omega), b1]; exact pt_eval_same _ _ _ (by simp only [pt_size]; omega)
      have x2 : (lfr l U g a0).eval (.tmp 15) = .agg (tab .u32 20 U) := by
        unfold lfr; rw [pt_eval _ _ _ _ _ (by omega), pt_eval _ _ _ _ _ (by omega), b2]; exact pt_eval_same _ _ _ (by simp only [pt_size]; omega)
      have x3 : (lfr l U g a0).eval (.tmp 16) = .agg (tab .u32 20 one20) := by
        unfold lfr; rw [pt_eval _ _ _ _ _ (by omega), pt_eval _ _ _ _ _ (by omega), pt_eval _ _ _ _ _ (by omega), b3]; exact pt_eval_same _ _ _ (by simp only [pt_size]; omega)
      refine wpOp_here (o := ⟨some 17, .build 171 #[(0, .tmp 13), (1, .tmp 14), (2, .tmp 15), (3, .tmp 16)], y4, p4, #[⟨0, .data⟩, ⟨1, .data⟩, ⟨2, .data⟩, ⟨3, .data⟩], none⟩) rfl rfl (wp_value_here (.agg (tab .u32 80 (four one20 nil20 U one20))) (w' := w') ?_ ?_)
      · have hb := run_build (P := Tryz.prog) w' 171 #[(0, .agg (tab .u32 20 one20)), (1, .agg (tab .u32 20 nil20)), (2, .agg (tab .u32 20 U)), (3, .agg (tab .u32 20 one20))] _ (built121 one20 nil20 U one20)
        unfold execOp
        simp only [List.map_toArray, List.map_cons, List.map_nil, x0, x1, x2, x3]
        rw [Sem.run_bind, hb]; rfl
      rw [listed_of (by omega)] at hun
      refine ⟨k65 4 (by omega) (by omega), g, ?_, hB, keep 4 w' (Below.refl _ _) (by omega) (by omega)⟩
      simp only [lfr, hun, getD_set_self (show 4 < l.size by omega), ek 4 0 (by omega), ek 4 1 (by omega), ek 4 2 (by omega), ek 4 3 (by omega), ek 4 5 (by omega), ek 4 6 (by omega)]
      simp [pt_put]; simp [pt]
    · have hrun : (execOp (lfr l U g a0).eval ⟨some 6, .alloc 171, y5, p5, #[], none⟩).run Tryz.prog w' = .ok (.value (.pointer (some ⟨w'.heap.size, 0, none⟩))) (w'.alloc z80) := by simp [go_sem]
      refine wpOp_here (o := ⟨some 6, .alloc 171, y5, p5, #[], none⟩) rfl rfl (wp_value_here _ hrun ?_)
      rw [listed_of (by omega)] at hun
      refine ⟨fun e => by rw [getD_set_self (by omega)] at e; (cases e), w'.heap.size, ?_, hB.alloc hB.size _, fun _ => ⟨hB.size, by rw [ek 5 6 (by omega), h65 hun]; simp [go_sem]⟩⟩
      simp only [lfr, hun, getD_set_self (show 5 < l.size by omega), ek 5 0 (by omega), ek 5 1 (by omega), ek 5 2 (by omega), ek 5 3 (by omega), ek 5 4 (by omega), ek 5 6 (by omega)]
      simp [pt_put]; simp [pt]
    · have ho' : ⟨none, .store 171 (.tmp 6) (.tmp 17), y6, p6, #[⟨5, .data⟩, ⟨4, .data⟩, ⟨3, .chain⟩, ⟨0, .phase⟩, ⟨1, .phase⟩, ⟨2, .phase⟩, ⟨3, .phase⟩, ⟨4, .phase⟩, ⟨5, .phase⟩], none⟩ = o := by simpa using ho
      subst ho'
      have b4 : l.getD 4 false = true := hdep ⟨4, .data⟩ (by simp) rfl
      have b5 : l.getD 5 false = true := hdep ⟨5, .data⟩ (by simp) rfl
      obtain ⟨k1, k2⟩ := hg b5
      rw [listed_of (by omega)] at hun
      rw [hun] at k2
      simp only [Bool.false_eq_true, if_false] at k2
      have x6 : (lfr l U g a0).eval (.tmp 6) = .pointer (some ⟨g, 0, none⟩) := by
        unfold lfr; rw [pt_eval _ _ _ _ _ (by omega), pt_eval _ _ _ _ _ (by omega), pt_eval _ _ _ _ _ (by omega), pt_eval _ _ _ _ _ (by omega), pt_eval _ _ _ _ _ (by omega), b5]; exact pt_eval_same _ _ _ (by omega)
      have x17 : (lfr l U g a0).eval (.tmp 17) = .agg (tab .u32 80 (four one20 nil20 U one20)) := by
        unfold lfr; rw [pt_eval _ _ _ _ _ (by omega), pt_eval _ _ _ _ _ (by omega), pt_eval _ _ _ _ _ (by omega), pt_eval _ _ _ _ _ (by omega), b4]; exact pt_eval_same _ _ _ (by simp only [pt_size]; omega)
      have hrun := run_store_row rt121 w' g (tab .u32 80 (four one20 nil20 U one20)) (by rw [k2, tab_size]) (tab_size _ _ _) (tab_all _ _ _)
      refine wpOp_here (o := ⟨none, .store 171 (.tmp 6) (.tmp 17), y6, p6, #[⟨5, .data⟩, ⟨4, .data⟩, ⟨3, .chain⟩, ⟨0, .phase⟩, ⟨1, .phase⟩, ⟨2, .phase⟩, ⟨3, .phase⟩, ⟨4, .phase⟩, ⟨5, .phase⟩], none⟩) rfl rfl (wp_skip_here (w' := w'.setRow g (tab .u32 80 (four one20 nil20 U one20))) (by unfold execOp; simp only [x6, x17]; rw [Sem.run_bind, hrun]; rfl) ?_)
      refine ⟨fun e => by rw [ek 6 5 (by omega), b5] at e; (cases e), g, ?_, below_setRow hB k1 _, fun _ => ⟨k1, by rw [getD_set_self (by omega), rowOf_setRow_same (by rw [k2, tab_size]; omega)]; simp⟩⟩
      simp only [lfr, Act.put, ek 6 0 (by omega), ek 6 1 (by omega), ek 6 2 (by omega), ek 6 3 (by omega), ek 6 4 (by omega), ek 6 5 (by omega)]
  · intro l a w' hl hI hr
    obtain ⟨h65, g, rfl, hB, hg⟩ := hI
    have hl7 : l.size = 7 := hl
    have nr : ∀ i o, i < 7 → (#[⟨some 13, .call { callee := .value (.func 123), args := #[.const (.int .u32 1)], argTypes := #[144] }, y0, p0, #[], none⟩, ⟨some 14, .call { callee := .value (.func 123), args := #[.const (.int .u32 0)], argTypes := #[144] }, y1, p1, #[⟨0, .chain⟩], none⟩, ⟨some 15, .load 167 (.tmp 5), y2, p2, #[], none⟩, ⟨some 16, .call { callee := .value (.func 123), args := #[.const (.int .u32 1)], argTypes := #[144] }, y3, p3, #[⟨1, .chain⟩], none⟩, ⟨some 17, .build 171 #[(0, .tmp 13), (1, .tmp 14), (2, .tmp 15), (3, .tmp 16)], y4, p4, #[⟨0, .data⟩, ⟨1, .data⟩, ⟨2, .data⟩, ⟨3, .data⟩], none⟩, ⟨some 6, .alloc 171, y5, p5, #[], none⟩, ⟨none, .store 171 (.tmp 6) (.tmp 17), y6, p6, #[⟨5, .data⟩, ⟨4, .data⟩, ⟨3, .chain⟩, ⟨0, .phase⟩, ⟨1, .phase⟩, ⟨2, .phase⟩, ⟨3, .phase⟩, ⟨4, .phase⟩, ⟨5, .phase⟩], none⟩] : Array Oper)[i]? = some o → (∀ e ∈ o.after, l.getD e.on false = true) → l.getD i false = true := by
      intro i o hi ho hall
      cases hc : l.getD i false with
      | true => rfl
      | false =>
        have : i ∈ Region.ready .any #[⟨some 13, .call { callee := .value (.func 123), args := #[.const (.int .u32 1)], argTypes := #[144] }, y0, p0, #[], none⟩, ⟨some 14, .call { callee := .value (.func 123), args := #[.const (.int .u32 0)], argTypes := #[144] }, y1, p1, #[⟨0, .chain⟩], none⟩, ⟨some 15, .load 167 (.tmp 5), y2, p2, #[], none⟩, ⟨some 16, .call { callee := .value (.func 123), args := #[.const (.int .u32 1)], argTypes := #[144] }, y3, p3, #[⟨1, .chain⟩], none⟩, ⟨some 17, .build 171 #[(0, .tmp 13), (1, .tmp 14), (2, .tmp 15), (3, .tmp 16)], y4, p4, #[⟨0, .data⟩, ⟨1, .data⟩, ⟨2, .data⟩, ⟨3, .data⟩], none⟩, ⟨some 6, .alloc 171, y5, p5, #[], none⟩, ⟨none, .store 171 (.tmp 6) (.tmp 17), y6, p6, #[⟨5, .data⟩, ⟨4, .data⟩, ⟨3, .chain⟩, ⟨0, .phase⟩, ⟨1, .phase⟩, ⟨2, .phase⟩, ⟨3, .phase⟩, ⟨4, .phase⟩, ⟨5, .phase⟩], none⟩] l := mem_ready.2 ⟨by rw [listed_of (by omega)]; exact hc, o, ho, fun e he _ => hall e he⟩
        rw [hr] at this; cases this
    have b0 := nr 0 _ (by omega) rfl (by simp)
    have b1 := nr 1 _ (by omega) rfl (by intro e he; simp at he; subst he; exact b0)
    have b2 := nr 2 _ (by omega) rfl (by simp)
    have b3 := nr 3 _ (by omega) rfl (by intro e he; simp at he; subst he; exact b1)
    have b4 := nr 4 _ (by omega) rfl (by intro e he; simp at he; rcases he with rfl | rfl | rfl | rfl <;> assumption)
    have b5 := nr 5 _ (by omega) rfl (by simp)
    have b6 := nr 6 _ (by omega) rfl (by intro e he; simp at he; rcases he with rfl | rfl | rfl | rfl | rfl | rfl | rfl | rfl | rfl <;> assumption)
    obtain ⟨k1, k2⟩ := hg b5
    rw [b6] at k2
    simp only [if_true] at k2
    have := h g w' hB k1 k2
    unfold lfr
    rw [b0, b1, b2, b3, b4, b5]
    exact this
end Go.Proofs.YteghoooelgcpkabGreatDoor
namespace Go.Proofs.YteghoooelgcpkabGreatDoor
open Go.RowKit Go.Msg
theorem Tidy_congr {f g : Nat → Int} (h : Tidy f) (e : ∀ i, i < 20 → g i = f i) : Tidy g :=
  ⟨fun i hi => by rw [e i hi]; exact h.nn i hi, fun i hi h1 => by rw [e i (by omega)]; exact h.le i hi h1, by rw [e 0 (by omega)]; exact h.le0, by rw [e 19 (by omega)]; exact h.top⟩
structure Tid4 (G : Nat → Int) : Prop where
  a : Tidy G
  b : Tidy (fun i => G (20 + i))
  c : Tidy (fun i => G (40 + i))
  d : Tidy (fun i => G (60 + i))
theorem Tid4.bd {G : Nat → Int} (h : Tid4 G) : ∀ i, i < 80 → 0 ≤ G i ∧ G i < 4294967296 := fun i hi => by
  by_cases h1 : i < 20
  · have := h.a.le' i h1; omega
  · by_cases h2 : i < 40
    · have := h.b.le' (i - 20) (by omega); rw [show 20 + (i - 20) = i by omega] at this; omega
    · by_cases h3 : i < 60
      · have := h.c.le' (i - 40) (by omega); rw [show 40 + (i - 40) = i by omega] at this; omega
      · have := h.d.le' (i - 60) (by omega); rw [show 60 + (i - 60) = i by omega] at this; omega
theorem Tid4.swap {G : Nat → Int} (h : Tid4 G) : Tid4 (fun j => G ((j + 40) % 80)) :=
  ⟨Tidy_congr h.c fun i hi => by congr 1; omega, Tidy_congr h.d fun i hi => by congr 1; omega, Tidy_congr h.a fun i hi => by congr 1; omega, Tidy_congr h.b fun i hi => by congr 1; omega⟩
theorem lval_swap (G : Nat → Int) : lval 20 (fun j => G ((j + 40) % 80)) = lval 20 (fun i => G (40 + i)) ∧ lval 20 (fun i => G ((20 + i + 40) % 80)) = lval 20 (fun i => G (60 + i)) ∧ lval 20 (fun i => G ((40 + i + 40) % 80)) = lval 20 G ∧ lval 20 (fun i => G ((60 + i + 40) % 80)) = lval 20 (fun i => G (20 + i)) :=
  ⟨val_congr fun i hi => by congr 1; omega, val_congr fun i hi => by congr 1; omega, val_congr fun i hi => by congr 1; omega, val_congr fun i hi => by congr 1; omega⟩
structure Vals (G : Nat → Int) (x2 z2 x3 z3 : Int) : Prop where
  a : Eqv (lval 20 G) x2
  b : Eqv (lval 20 (fun i => G (20 + i))) z2
  c : Eqv (lval 20 (fun i => G (40 + i))) x3
  d : Eqv (lval 20 (fun i => G (60 + i))) z3
theorem step_any (F U : Nat → Int) (t : Tid4 F) (tU : Tidy U) (w : World) :
    Calls Tryz.prog 126 #[.agg (tab .u32 80 F), .agg (tab .u32 20 U)] w fun e w' => ∃ G : Nat → Int, e = .returned (.agg (tab .u32 80 G)) ∧ Tid4 G ∧
      Vals G (tw1 (lval 20 F) (lval 20 fun i => F (20 + i))) (tw2 (lval 20 F) (lval 20 fun i => F (20 + i))) (4 * bt1 (lval 20 F) (lval 20 fun i => F (20 + i)) (lval 20 fun i => F (40 + i)) (lval 20 fun i => F (60 + i))) (4 * bt2 (lval 20 U) (lval 20 F) (lval 20 fun i => F (20 + i)) (lval 20 fun i => F (40 + i)) (lval 20 fun i => F (60 + i))) ∧
      Below w.heap.size w w' := by
  refine (step_walk F U t.a t.b t.c t.d tU w).mono ?_
  rintro e w' ⟨a, b, c, d, aa, bb, ee, da, cb, sum, df, df2, inn, in2, nx3, nz3, nx2, nz2, rfl, ⟨tx2, tz2, tx3, tz3⟩, ⟨va, vb, vc, vd, vaa, vbb, vee, vda, vcb, vsum, vdf, vdf2, vinn, vin2, vx3, vz3, vx2, vz2⟩, hb⟩
  obtain ⟨m1, m2, m3, m4⟩ := step_math va vb vc vd vaa vbb vee vda vcb vsum vdf vdf2 vinn vin2 vx3 vz3 vx2 vz2
  have g0 : ∀ i, i < 20 → (splice (splice (splice (splice F 40 20 nx3) 60 20 nz3) 0 20 nx2) 20 20 nz2) i = nx2 i := fun i hi => by simp [splice]; rw [if_neg (by omega), if_pos (by omega)]
  have g1 : ∀ i, i < 20 → (splice (splice (splice (splice F 40 20 nx3) 60 20 nz3) 0 20 nx2) 20 20 nz2) (20 + i) = nz2 i := fun i hi => by simp only [splice]; rw [if_pos (by omega)]; congr 1; omega
  have g2 : ∀ i, i < 20 → (splice (splice (splice (splice F 40 20 nx3) 60 20 nz3) 0 20 nx2) 20 20 nz2) (40 + i) = nx3 i := fun i hi => by simp only [splice]; rw [if_neg (by omega), if_neg (by omega), if_neg (by omega), if_pos (by omega)]; congr 1; omega
  have g3 : ∀ i, i < 20 → (splice (splice (splice (splice F 40 20 nx3) 60 20 nz3) 0 20 nx2) 20 20 nz2) (60 + i) = nz3 i := fun i hi => by simp only [splice]; rw [if_neg (by omega), if_neg (by omega), if_pos (by omega)]; congr 1; omega
  refine ⟨_, rfl, ⟨Tidy_congr tx2 g0, Tidy_congr tz2 g1, Tidy_congr tx3 g2, Tidy_congr tz3 g3⟩, ⟨?_, ?_, ?_, ?_⟩, hb⟩
  · rw [val_congr g0]; exact m1
  · rw [val_congr g1]; exact m2
  · rw [val_congr g2]; exact m3
  · rw [val_congr g3]; exact m4
theorem Vals.scaled0 {G G2 U : Nat → Int} {s : Pair} {u b : Int} (hs : Scaled s (lval 20 G) (lval 20 fun i => G (20 + i)) (lval 20 fun i => G (40 + i)) (lval 20 fun i => G (60 + i))) (hu : Eqv (lval 20 U) u) (hb : ¬ b = 1)
    (h : Vals G2 (tw1 (lval 20 G) (lval 20 fun i => G (20 + i))) (tw2 (lval 20 G) (lval 20 fun i => G (20 + i))) (4 * bt1 (lval 20 G) (lval 20 fun i => G (20 + i)) (lval 20 fun i => G (40 + i)) (lval 20 fun i => G (60 + i))) (4 * bt2 (lval 20 U) (lval 20 G) (lval 20 fun i => G (20 + i)) (lval 20 fun i => G (40 + i)) (lval 20 fun i => G (60 + i)))) :
    Scaled (lstep u b s) (lval 20 G2) (lval 20 fun i => G2 (20 + i)) (lval 20 fun i => G2 (40 + i)) (lval 20 fun i => G2 (60 + i)) := hs.zero hu hb h.a h.b h.c h.d
theorem Vals.scaled1 {G G2 U : Nat → Int} {s : Pair} {u : Int} (hs : Scaled s (lval 20 G) (lval 20 fun i => G (20 + i)) (lval 20 fun i => G (40 + i)) (lval 20 fun i => G (60 + i))) (hu : Eqv (lval 20 U) u)
    (h : Vals G2 (tw1 (lval 20 fun j => G ((j + 40) % 80)) (lval 20 fun i => G ((20 + i + 40) % 80))) (tw2 (lval 20 fun j => G ((j + 40) % 80)) (lval 20 fun i => G ((20 + i + 40) % 80))) (4 * bt1 (lval 20 fun j => G ((j + 40) % 80)) (lval 20 fun i => G ((20 + i + 40) % 80)) (lval 20 fun i => G ((40 + i + 40) % 80)) (lval 20 fun i => G ((60 + i + 40) % 80))) (4 * bt2 (lval 20 U) (lval 20 fun j => G ((j + 40) % 80)) (lval 20 fun i => G ((20 + i + 40) % 80)) (lval 20 fun i => G ((40 + i + 40) % 80)) (lval 20 fun i => G ((60 + i + 40) % 80)))) :
    Scaled (lstep u 1 s) (lval 20 fun j => G2 ((j + 40) % 80)) (lval 20 fun i => G2 ((20 + i + 40) % 80)) (lval 20 fun i => G2 ((40 + i + 40) % 80)) (lval 20 fun i => G2 ((60 + i + 40) % 80)) := by
  obtain ⟨e0, e1, e2, e3⟩ := lval_swap G
  obtain ⟨f0, f1, f2, f3⟩ := lval_swap G2
  rw [f0, f1, f2, f3]
  rw [e0, e1, e2, e3] at h
  exact hs.one' hu h.a h.b h.c h.d
theorem bitOf_int (b : Nat → Int) (hb : ∀ i, i < 32 → 0 ≤ b i ∧ b i ≤ 255) (i : Int) (h0 : 0 ≤ i) (hi : i < 256) (w : World) :
    Calls Tryz.prog 124 #[.agg (tab .u8 32 b), .int .i64 i] w fun e w' => e = .returned (.int .u32 (bitAt b i.toNat)) ∧ Below w.heap.size w w' := by
  have := bitOf_any b hb i.toNat (by omega) w
  rw [show ((i.toNat : Nat) : Int) = i by omega] at this
  exact this
theorem tid4_four (U : Nat → Int) (h : Tidy U) : Tid4 (four one20 nil20 U one20) ∧ lval 20 (four one20 nil20 U one20) = 1 ∧ lval 20 (fun i => four one20 nil20 U one20 (20 + i)) = 0 ∧ lval 20 (fun i => four one20 nil20 U one20 (40 + i)) = lval 20 U ∧ lval 20 (fun i => four one20 nil20 U one20 (60 + i)) = 1 := by
  have t1 : Tidy one20 := ⟨fun i _ => by simp only [upd]; split <;> omega, fun i _ _ => by simp only [upd]; split <;> omega, by decide, by decide⟩
  have t0 : Tidy nil20 := ⟨fun i _ => by simp only [upd]; split <;> omega, fun i _ _ => by simp only [upd]; split <;> omega, by decide, by decide⟩
  have g0 : ∀ i, i < 20 → four one20 nil20 U one20 i = one20 i := fun i hi => by simp only [four, splice]; rw [if_neg (by omega), if_neg (by omega), if_neg (by omega), if_pos (by omega)]; congr 1
  have g1 : ∀ i, i < 20 → four one20 nil20 U one20 (20 + i) = nil20 i := fun i hi => by simp only [four, splice]; rw [if_neg (by omega), if_neg (by omega), if_pos (by omega)]; congr 1; omega
  have g2 : ∀ i, i < 20 → four one20 nil20 U one20 (40 + i) = U i := fun i hi => by simp only [four, splice]; rw [if_neg (by omega), if_pos (by omega)]; congr 1; omega
  have g3 : ∀ i, i < 20 → four one20 nil20 U one20 (60 + i) = one20 i := fun i hi => by simp only [four, splice]; rw [if_pos (by omega)]; congr 1; omega
  exact ⟨⟨Tidy_congr t1 g0, Tidy_congr t0 g1, Tidy_congr h g2, Tidy_congr t1 g3⟩, by rw [val_congr g0]; decide, by rw [val_congr g1]; decide, val_congr g2, by rw [val_congr g3]; decide⟩
set_option maxRecDepth 4000 in
set_option maxHeartbeats 8000000 in
theorem ladder_any (k p : Nat → Int) (hk : ∀ i, i < 32 → 0 ≤ k i ∧ k i ≤ 255) (hp : ∀ i, i < 32 → 0 ≤ p i ∧ p i ≤ 255) (w : World) :
    Calls Tryz.prog 97 #[.agg (tab .u8 32 k), .agg (tab .u8 32 p)] w fun e w' => ∃ b : Nat → Int, e = .returned (.agg (tab .u8 32 b)) ∧ (∀ i, i < 32 → 0 ≤ b i ∧ b i ≤ 255) ∧ bval 32 b = lout (bitAt k) (bsum p 255 % P25519) ∧ Below w.heap.size w w' := by
  have S0 : (((w.alloc (c32 k)).alloc (c32 p)).alloc z32).heap.size = w.heap.size + 1 + 1 + 1 := by simp
  have R0 : Rowz (((w.alloc (c32 k)).alloc (c32 p)).alloc z32) [(w.heap.size, tab .u8 32 k), (w.heap.size + 1, tab .u8 32 p), (w.heap.size + 1 + 1, tab .u8 32 (fun _ => 0))] := Rowz.cons (by simp [go_sem]) (by simp [tab_size]) (Rowz.cons (by simp [go_sem]) (by simp [tab_size]) (Rowz.cons (by simp [go_sem]) (by simp [tab_size]) (Rowz.nil _)))
  have W0 : Below w.heap.size w (((w.alloc (c32 k)).alloc (c32 p)).alloc z32) := (((Below.refl _ _).alloc (Nat.le_refl _) _).alloc (by simp) _).alloc (by simp; omega) _
  go_enter Tryz.func97, Tryz.ntmps97
  go_wp2_with (first
    | (refine wpl_load rt107 rfl _ rfl (w.heap.size + 1) rfl (tab .u8 32 p) ?_ (tab_size _ _ _) ?_; (focus (exact (R0 (w.heap.size + 1, tab .u8 32 p) (by simp)).1)))
    | (go_at_call 122; refine (fromBytes_any _ hp _).mono ?_; rintro e A1 ⟨U, rfl, tU, vU, hb1⟩; have hs1 := hb1.size; simp only [World.size_alloc] at hs1)
    | (refine wpl_store rt117 rfl _ _ rfl (A1.heap.size) rfl (tab .u32 20 U) rfl ?_ (tab_size _ _ _) (tab_all _ _ _) (A1.alloc (c20 U)) ?_ ?_; (focus (simp [go_sem]; done)); (focus (simp [go_sem]; done)); obtain ⟨VU, hV⟩ : ∃ V, V = A1.alloc (c20 U) := ⟨_, rfl⟩; have S1 : VU.heap.size = A1.heap.size + 1 := (by rw [hV]; simp); have R1 : Rowz VU [(A1.heap.size, tab .u32 20 U), (w.heap.size, tab .u8 32 k), (w.heap.size + 1 + 1, tab .u8 32 (fun _ => 0))] := (by rw [hV]; exact ((R0.below hb1).sub (m := [(w.heap.size, tab .u8 32 k), (w.heap.size + 1 + 1, tab .u8 32 (fun _ => 0))]) (by simp)).alloc _ _ (by simp [tab_size])); have W1 : Below w.heap.size w VU := (by rw [hV]; exact (below_lift W0 (by first | omega | (simp; omega)) hb1).alloc (by omega) _); rw [← hV]; clear hV))
  refine ladder_region ?_ U A1.heap.size rfl (R1 (A1.heap.size, tab .u32 20 U) (by simp)).1 ?_
  · simp [Act.put]
  intro gl V2 hb2 hgl hrow
  simp only [Act.put, List.setIfInBounds_toArray, List.set_cons_succ, List.set_cons_zero]
  have hu : Eqv (lval 20 U) (bsum p 255 % P25519) := by rw [vU]; exact (Eqv.mod _).symm
  have tf := tid4_four U tU
  have R2 : Rowz V2 [(gl, tab .u32 80 (four one20 nil20 U one20)), (w.heap.size, tab .u8 32 k), (w.heap.size + 1 + 1, tab .u8 32 (fun _ => 0)), (A1.heap.size, tab .u32 20 U)] := Rowz.cons hrow (by simp [tab_size]) ((R1.below hb2).sub (by simp))
  have W2 : Below w.heap.size w V2 := below_lift W1 (by omega) hb2
  have hs2 := hb2.size
  obtain ⟨gU, hgU⟩ : ∃ gU, gU = A1.heap.size := ⟨_, rfl⟩
  rw [← hgU] at R2 hs1 S1 ⊢
  clear hgU R1 W1 hb1 hb2 R0 W0 S0 hrow
  go_wp2
  go_loopw [7] (fun i wr => ∃ (j : Nat) (G : Nat → Int), j ≤ 256 ∧ i = .int .i64 (255 - (j : Int)) ∧ Tid4 G ∧ Scaled (lrun (bitAt k) (bsum p 255 % P25519) j) (lval 20 G) (lval 20 fun i => G (20 + i)) (lval 20 fun i => G (40 + i)) (lval 20 fun i => G (60 + i)) ∧ Rowz wr [(gl, tab .u32 80 G), (w.heap.size, tab .u8 32 k), (w.heap.size + 1 + 1, tab .u8 32 (fun _ => 0)), (gU, tab .u32 20 U)] ∧ Below w.heap.size w wr ∧ VU.heap.size ≤ wr.heap.size) (fun i _ => (intOf i + 1).toNat)
  case atStart => exact ⟨0, _, by omega, by simp, tf.1, ⟨⟨0, Eqv.of_eq (by rw [tf.2.1]; rfl), Eqv.of_eq (by rw [tf.2.2.1]; rfl)⟩, ⟨0, by rw [tf.2.2.2.1]; simp only [lrun]; exact hu.trans (Eqv.of_eq (by omega)), Eqv.of_eq (by rw [tf.2.2.2.2]; rfl)⟩⟩, R2, W2, hs2⟩
  case round =>
    clear tf R2 W2 hs2
    obtain ⟨j, G, hj, rfl, T0, SC, R0, Wr, Sr⟩ := hrel
    have bd0 := T0.bd
    by_cases hlt : j < 256
    · have c1 : (0:Int) ≤ 255 - j := by omega
      have ej : (255 - (j : Int)).toNat = 255 - j := by omega
      have HJ : Hid ((255 - (j : Int)).toNat = 255 - j) := ej
      clear ej
      by_cases hbit : bitAt k (255 - (j : Int)).toNat = 1
      · have T1 := T0.swap
        go_wp2_with (first
          | (refine wpl_load rt107 rfl _ rfl (w.heap.size) rfl (tab .u8 32 k) ?_ (tab_size _ _ _) ?_; (focus (exact (R0 (w.heap.size, tab .u8 32 k) (by simp)).1)))
          | (go_at_call 124; refine (bitOf_int _ hk _ (by omega) (by omega) _).mono ?_; rintro e A0 ⟨rfl, hb0⟩; have hs0 := hb0.size; have Q0 := R0.below hb0; have W0 := below_lift Wr (by omega) hb0; rw [hbit])
          | (refine wpl_load rt121 rfl _ rfl gl rfl (tab .u32 80 G) ?_ (tab_size _ _ _) ?_; (focus (exact (Q0 (gl, tab .u32 80 G) (by simp)).1)))
          | (go_at_call 125; refine (exchanged_yes _ ?_ _).mono ?_; (focus (with_reducible exact bd0)); rintro e A1 ⟨rfl, hb1⟩; have hs1 := hb1.size)
          | (refine wpl_store rt121 rfl _ _ rfl gl rfl (tab .u32 80 (fun j => G ((j + 40) % 80))) rfl ?_ (tab_size _ _ _) (tab_all _ _ _) (A1.setRow gl (tab .u32 80 (fun j => G ((j + 40) % 80)))) rfl ?_; (focus (rw [((Q0.below hb1) (gl, tab .u32 80 G) (by simp)).1]; exact tab_size _ _ _)); obtain ⟨V1, hV⟩ : ∃ V, V = A1.setRow gl (tab .u32 80 (fun j => G ((j + 40) % 80))) := ⟨_, rfl⟩; have S1 : V1.heap.size = A1.heap.size := (by rw [hV]; simp); have Q1 : Rowz V1 [(gl, tab .u32 80 (fun j => G ((j + 40) % 80))), (w.heap.size, tab .u8 32 k), (w.heap.size + 1 + 1, tab .u8 32 (fun _ => 0)), (gU, tab .u32 20 U)] := (by rw [hV]; exact ((Q0.below hb1).sub (m := [(w.heap.size, tab .u8 32 k), (w.heap.size + 1 + 1, tab .u8 32 (fun _ => 0)), (gU, tab .u32 20 U)]) (by simp)).setRow _ _ (tab .u32 80 G) (by simp [tab_size]) ((Q0.below hb1) (gl, tab .u32 80 G) (by simp)).1 (by simp [tab_size]) (by intro p hp; simp only [List.mem_cons, List.not_mem_nil, or_false] at hp; rcases hp with rfl | rfl | rfl <;> simp only <;> omega)); have W1 : Below w.heap.size w V1 := (by rw [hV]; exact below_setRow (below_lift W0 (by omega) hb1) (by omega) _); rw [← hV]; clear hV)
          | (refine wpl_load rt121 rfl _ rfl gl rfl (tab .u32 80 (fun j => G ((j + 40) % 80))) ?_ (tab_size _ _ _) ?_; (focus (exact (Q1 (gl, tab .u32 80 (fun j => G ((j + 40) % 80))) (by simp)).1)))
          | (refine wpl_load rt117 rfl _ rfl gU rfl (tab .u32 20 U) ?_ (tab_size _ _ _) ?_; (focus (exact (Q1 (gU, tab .u32 20 U) (by simp)).1)))
          | (go_at_call 126; refine (step_any _ _ ?_ tU _).mono ?_; (focus (with_reducible exact T1)); rintro e A2 ⟨G2, rfl, T2, E2', hb2⟩; have hs2 := hb2.size)
          | (refine wpl_store rt121 rfl _ _ rfl gl rfl (tab .u32 80 G2) rfl ?_ (tab_size _ _ _) (tab_all _ _ _) (A2.setRow gl (tab .u32 80 G2)) rfl ?_; (focus (rw [((Q1.below hb2) (gl, tab .u32 80 (fun j => G ((j + 40) % 80))) (by simp)).1]; exact tab_size _ _ _)); obtain ⟨V2, hV⟩ : ∃ V, V = A2.setRow gl (tab .u32 80 G2) := ⟨_, rfl⟩; have S2 : V2.heap.size = A2.heap.size := (by rw [hV]; simp); have Q2 : Rowz V2 [(gl, tab .u32 80 G2), (w.heap.size, tab .u8 32 k), (w.heap.size + 1 + 1, tab .u8 32 (fun _ => 0)), (gU, tab .u32 20 U)] := (by rw [hV]; exact ((Q1.below hb2).sub (m := [(w.heap.size, tab .u8 32 k), (w.heap.size + 1 + 1, tab .u8 32 (fun _ => 0)), (gU, tab .u32 20 U)]) (by simp)).setRow _ _ (tab .u32 80 (fun j => G ((j + 40) % 80))) (by simp [tab_size]) ((Q1.below hb2) (gl, tab .u32 80 (fun j => G ((j + 40) % 80))) (by simp)).1 (by simp [tab_size]) (by intro p hp; simp only [List.mem_cons, List.not_mem_nil, or_false] at hp; rcases hp with rfl | rfl | rfl <;> simp only <;> omega)); have W2 : Below w.heap.size w V2 := (by rw [hV]; exact below_setRow (below_lift W1 (by omega) hb2) (by omega) _); rw [← hV]; clear hV)
          | (refine wpl_load rt121 rfl _ rfl gl rfl (tab .u32 80 G2) ?_ (tab_size _ _ _) ?_; (focus (exact (Q2 (gl, tab .u32 80 G2) (by simp)).1)))
          | (go_at_call 125; refine (exchanged_yes _ ?_ _).mono ?_; (focus (with_reducible exact T2.bd)); rintro e A3 ⟨rfl, hb3⟩; have hs3 := hb3.size)
          | (refine wpl_store rt121 rfl _ _ rfl gl rfl (tab .u32 80 (fun j => G2 ((j + 40) % 80))) rfl ?_ (tab_size _ _ _) (tab_all _ _ _) (A3.setRow gl (tab .u32 80 (fun j => G2 ((j + 40) % 80)))) rfl ?_; (focus (rw [((Q2.below hb3) (gl, tab .u32 80 G2) (by simp)).1]; exact tab_size _ _ _)); obtain ⟨V3, hV⟩ : ∃ V, V = A3.setRow gl (tab .u32 80 (fun j => G2 ((j + 40) % 80))) := ⟨_, rfl⟩; have S3 : V3.heap.size = A3.heap.size := (by rw [hV]; simp); have Q3 : Rowz V3 [(gl, tab .u32 80 (fun j => G2 ((j + 40) % 80))), (w.heap.size, tab .u8 32 k), (w.heap.size + 1 + 1, tab .u8 32 (fun _ => 0)), (gU, tab .u32 20 U)] := (by rw [hV]; exact ((Q2.below hb3).sub (m := [(w.heap.size, tab .u8 32 k), (w.heap.size + 1 + 1, tab .u8 32 (fun _ => 0)), (gU, tab .u32 20 U)]) (by simp)).setRow _ _ (tab .u32 80 G2) (by simp [tab_size]) ((Q2.below hb3) (gl, tab .u32 80 G2) (by simp)).1 (by simp [tab_size]) (by intro p hp; simp only [List.mem_cons, List.not_mem_nil, or_false] at hp; rcases hp with rfl | rfl | rfl <;> simp only <;> omega)); have W3 : Below w.heap.size w V3 := (by rw [hV]; exact below_setRow (below_lift W2 (by omega) hb3) (by omega) _); rw [← hV]; clear hV))
        go_roundw
        case rel => exact ⟨j + 1, _, by omega, by go_num, T2.swap, by simp only [lrun]; rw [← HJ.out, hbit]; exact E2'.scaled1 SC hu, Q3, W3, by omega⟩
        case measure => simp [intOf]; omega
      · have h0 : bitAt k (255 - (j : Int)).toNat = 0 := by have := bitAt_01 k (255 - (j : Int)).toNat; omega
        have HN : Hid (¬ bitAt k (255 - (j : Int)).toNat = 1) := hbit
        clear hbit
        have hbit := h0
        clear h0
        have T1 := T0
        go_wp2_with (first
          | (refine wpl_load rt107 rfl _ rfl (w.heap.size) rfl (tab .u8 32 k) ?_ (tab_size _ _ _) ?_; (focus (exact (R0 (w.heap.size, tab .u8 32 k) (by simp)).1)))
          | (go_at_call 124; refine (bitOf_int _ hk _ (by omega) (by omega) _).mono ?_; rintro e A0 ⟨rfl, hb0⟩; have hs0 := hb0.size; have Q0 := R0.below hb0; have W0 := below_lift Wr (by omega) hb0; rw [hbit])
          | (refine wpl_load rt121 rfl _ rfl gl rfl (tab .u32 80 G) ?_ (tab_size _ _ _) ?_; (focus (exact (Q0 (gl, tab .u32 80 G) (by simp)).1)))
          | (go_at_call 125; refine (exchanged_no _ ?_ _).mono ?_; (focus (with_reducible exact bd0)); rintro e A1 ⟨rfl, hb1⟩; have hs1 := hb1.size)
          | (refine wpl_store rt121 rfl _ _ rfl gl rfl (tab .u32 80 G) rfl ?_ (tab_size _ _ _) (tab_all _ _ _) (A1.setRow gl (tab .u32 80 G)) rfl ?_; (focus (rw [((Q0.below hb1) (gl, tab .u32 80 G) (by simp)).1]; exact tab_size _ _ _)); obtain ⟨V1, hV⟩ : ∃ V, V = A1.setRow gl (tab .u32 80 G) := ⟨_, rfl⟩; have S1 : V1.heap.size = A1.heap.size := (by rw [hV]; simp); have Q1 : Rowz V1 [(gl, tab .u32 80 G), (w.heap.size, tab .u8 32 k), (w.heap.size + 1 + 1, tab .u8 32 (fun _ => 0)), (gU, tab .u32 20 U)] := (by rw [hV]; exact ((Q0.below hb1).sub (m := [(w.heap.size, tab .u8 32 k), (w.heap.size + 1 + 1, tab .u8 32 (fun _ => 0)), (gU, tab .u32 20 U)]) (by simp)).setRow _ _ (tab .u32 80 G) (by simp [tab_size]) ((Q0.below hb1) (gl, tab .u32 80 G) (by simp)).1 (by simp [tab_size]) (by intro p hp; simp only [List.mem_cons, List.not_mem_nil, or_false] at hp; rcases hp with rfl | rfl | rfl <;> simp only <;> omega)); have W1 : Below w.heap.size w V1 := (by rw [hV]; exact below_setRow (below_lift W0 (by omega) hb1) (by omega) _); rw [← hV]; clear hV)
          | (refine wpl_load rt121 rfl _ rfl gl rfl (tab .u32 80 G) ?_ (tab_size _ _ _) ?_; (focus (exact (Q1 (gl, tab .u32 80 G) (by simp)).1)))
          | (refine wpl_load rt117 rfl _ rfl gU rfl (tab .u32 20 U) ?_ (tab_size _ _ _) ?_; (focus (exact (Q1 (gU, tab .u32 20 U) (by simp)).1)))
          | (go_at_call 126; refine (step_any _ _ ?_ tU _).mono ?_; (focus (with_reducible exact T1)); rintro e A2 ⟨G2, rfl, T2, E2', hb2⟩; have hs2 := hb2.size)
          | (refine wpl_store rt121 rfl _ _ rfl gl rfl (tab .u32 80 G2) rfl ?_ (tab_size _ _ _) (tab_all _ _ _) (A2.setRow gl (tab .u32 80 G2)) rfl ?_; (focus (rw [((Q1.below hb2) (gl, tab .u32 80 G) (by simp)).1]; exact tab_size _ _ _)); obtain ⟨V2, hV⟩ : ∃ V, V = A2.setRow gl (tab .u32 80 G2) := ⟨_, rfl⟩; have S2 : V2.heap.size = A2.heap.size := (by rw [hV]; simp); have Q2 : Rowz V2 [(gl, tab .u32 80 G2), (w.heap.size, tab .u8 32 k), (w.heap.size + 1 + 1, tab .u8 32 (fun _ => 0)), (gU, tab .u32 20 U)] := (by rw [hV]; exact ((Q1.below hb2).sub (m := [(w.heap.size, tab .u8 32 k), (w.heap.size + 1 + 1, tab .u8 32 (fun _ => 0)), (gU, tab .u32 20 U)]) (by simp)).setRow _ _ (tab .u32 80 G) (by simp [tab_size]) ((Q1.below hb2) (gl, tab .u32 80 G) (by simp)).1 (by simp [tab_size]) (by intro p hp; simp only [List.mem_cons, List.not_mem_nil, or_false] at hp; rcases hp with rfl | rfl | rfl <;> simp only <;> omega)); have W2 : Below w.heap.size w V2 := (by rw [hV]; exact below_setRow (below_lift W1 (by omega) hb2) (by omega) _); rw [← hV]; clear hV)
          | (refine wpl_load rt121 rfl _ rfl gl rfl (tab .u32 80 G2) ?_ (tab_size _ _ _) ?_; (focus (exact (Q2 (gl, tab .u32 80 G2) (by simp)).1)))
          | (go_at_call 125; refine (exchanged_no _ ?_ _).mono ?_; (focus (with_reducible exact T2.bd)); rintro e A3 ⟨rfl, hb3⟩; have hs3 := hb3.size)
          | (refine wpl_store rt121 rfl _ _ rfl gl rfl (tab .u32 80 G2) rfl ?_ (tab_size _ _ _) (tab_all _ _ _) (A3.setRow gl (tab .u32 80 G2)) rfl ?_; (focus (rw [((Q2.below hb3) (gl, tab .u32 80 G2) (by simp)).1]; exact tab_size _ _ _)); obtain ⟨V3, hV⟩ : ∃ V, V = A3.setRow gl (tab .u32 80 G2) := ⟨_, rfl⟩; have S3 : V3.heap.size = A3.heap.size := (by rw [hV]; simp); have Q3 : Rowz V3 [(gl, tab .u32 80 G2), (w.heap.size, tab .u8 32 k), (w.heap.size + 1 + 1, tab .u8 32 (fun _ => 0)), (gU, tab .u32 20 U)] := (by rw [hV]; exact ((Q2.below hb3).sub (m := [(w.heap.size, tab .u8 32 k), (w.heap.size + 1 + 1, tab .u8 32 (fun _ => 0)), (gU, tab .u32 20 U)]) (by simp)).setRow _ _ (tab .u32 80 G2) (by simp [tab_size]) ((Q2.below hb3) (gl, tab .u32 80 G2) (by simp)).1 (by simp [tab_size]) (by intro p hp; simp only [List.mem_cons, List.not_mem_nil, or_false] at hp; rcases hp with rfl | rfl | rfl <;> simp only <;> omega)); have W3 : Below w.heap.size w V3 := (by rw [hV]; exact below_setRow (below_lift W2 (by omega) hb3) (by omega) _); rw [← hV]; clear hV))
        go_roundw
        case rel => exact ⟨j + 1, _, by omega, by go_num, T2, by simp only [lrun]; exact E2'.scaled0 SC hu (by rw [← HJ.out]; exact HN.out), Q3, W3, by omega⟩
        case measure => simp [intOf]; omega
    · have hj' : j = 256 := by omega
      subst hj'
      go_wp2_with (first
        | (refine wpl_load_seg rt117 rfl _ rfl gl 20 rfl .u32 80 G ?_ (by decide) ?_; (focus (exact (R0 (gl, tab .u32 80 G) (by simp)).1)))
        | (go_at_call 127; refine (inverse_any _ T0.b _).mono ?_; rintro e A2 ⟨inv, rfl, tinv, vinv, hb2⟩; have hs2 := hb2.size)
        | (refine wpl_store rt117 rfl _ _ rfl (A2.heap.size) rfl (tab .u32 20 inv) rfl ?_ (tab_size _ _ _) (tab_all _ _ _) (A2.alloc (c20 inv)) ?_ ?_; (focus (simp [go_sem]; done)); (focus (simp [go_sem]; done)); obtain ⟨V2, hV⟩ : ∃ V, V = A2.alloc (c20 inv) := ⟨_, rfl⟩; have S2 : V2.heap.size = A2.heap.size + 1 := (by rw [hV]; simp); have R2 : Rowz V2 [(A2.heap.size, tab .u32 20 inv), (gl, tab .u32 80 G), (w.heap.size + 1 + 1, tab .u8 32 (fun _ => 0))] := (by rw [hV]; exact ((R0.below hb2).sub (m := [(gl, tab .u32 80 G), (w.heap.size + 1 + 1, tab .u8 32 (fun _ => 0))]) (by simp)).alloc _ _ (by simp [tab_size])); have W2 : Below w.heap.size w V2 := (by rw [hV]; exact (below_lift Wr (by omega) hb2).alloc (by omega) _); rw [← hV]; clear hV)
        | (refine wpl_load_seg rt117 rfl _ rfl gl 0 rfl .u32 80 G ?_ (by decide) ?_; (focus (exact (R2 (gl, tab .u32 80 G) (by simp)).1)))
        | (refine wpl_load rt117 rfl _ rfl (A2.heap.size) rfl (tab .u32 20 inv) ?_ (tab_size _ _ _) ?_; (focus (exact (R2 (A2.heap.size, tab .u32 20 inv) (by simp)).1)))
        | (go_at_call 128; refine (times_any _ _ T0.a tinv _).mono ?_; rintro e A3 ⟨xx, rfl, txx, vxx, hb3⟩; have hs3 := hb3.size)
        | (refine wpl_store rt117 rfl _ _ rfl (A3.heap.size) rfl (tab .u32 20 xx) rfl ?_ (tab_size _ _ _) (tab_all _ _ _) (A3.alloc (c20 xx)) ?_ ?_; (focus (simp [go_sem]; done)); (focus (simp [go_sem]; done)); obtain ⟨V3, hV⟩ : ∃ V, V = A3.alloc (c20 xx) := ⟨_, rfl⟩; have S3 : V3.heap.size = A3.heap.size + 1 := (by rw [hV]; simp); have R3 : Rowz V3 [(A3.heap.size, tab .u32 20 xx), (w.heap.size + 1 + 1, tab .u8 32 (fun _ => 0))] := (by rw [hV]; exact ((R2.below hb3).sub (m := [(w.heap.size + 1 + 1, tab .u8 32 (fun _ => 0))]) (by simp)).alloc _ _ (by simp [tab_size])); have W3 : Below w.heap.size w V3 := (by rw [hV]; exact (below_lift W2 (by omega) hb3).alloc (by omega) _); rw [← hV]; clear hV)
        | (refine wpl_load rt117 rfl _ rfl (A3.heap.size) rfl (tab .u32 20 xx) ?_ (tab_size _ _ _) ?_; (focus (exact (R3 (A3.heap.size, tab .u32 20 xx) (by simp)).1)))
        | (go_at_call 129; refine (bytes_any _ txx _).mono ?_; rintro e A4 ⟨b, rfl, bb, vb, hb4⟩; have hs4 := hb4.size)
        | (refine wpl_store rt107 rfl _ _ rfl (w.heap.size + 1 + 1) rfl (tab .u8 32 b) rfl ?_ (tab_size _ _ _) (tab_all _ _ _) (A4.setRow (w.heap.size + 1 + 1) (tab .u8 32 b)) rfl ?_; (focus (rw [((R3.below hb4) (w.heap.size + 1 + 1, tab .u8 32 (fun _ => 0)) (by simp)).1]; exact tab_size _ _ _))))
      have hr4 := ((R3.below hb4) (w.heap.size + 1 + 1, tab .u8 32 (fun _ => 0)) (by simp)).1
      have hr5 : 0 < (A4.rowOf (w.heap.size + 1 + 1)).size := by rw [hr4, tab_size]; omega
      refine bodyPost_ret (v := .agg (tab .u8 32 b)) (by rw [results_row rt107 Tryz.results97 _ _ (w.heap.size + 1 + 1) rfl (by rw [rowOf_setRow_same hr5]; exact tab_size _ _ _), rowOf_setRow_same hr5]) rfl ⟨b, rfl, bb, ?_, below_setRow (below_lift W3 (by omega) hb4) (by omega) _⟩
      rw [vb]
      have v1 : Eqv (lval 20 xx) (lval 20 G * lval 20 inv) := vxx
      have v2 : Eqv (lval 20 inv) ((lval 20 fun i => G (20 + i)) ^ E2) := vinv
      exact (v1.trans ((Eqv.refl _).mul v2)).trans SC.out
end Go.Proofs.YteghoooelgcpkabGreatDoor
namespace Go.Proofs.YteghoooelgcpkabGreatDoor
open Go.RowKit Go.Msg
def sharedF (k p : ByteArray) (b : Nat → Int) : Prop := (∀ i, i < 32 → 0 ≤ b i ∧ b i ≤ 255) ∧ bval 32 b = lout (bitAt (clampF (sb k))) (bsum (sb p) 255 % P25519)
theorem clampF_bd (k : ByteArray) : ∀ i, i < 32 → 0 ≤ clampF (sb k) i ∧ clampF (sb k) i ≤ 255 := fun i _ => by
  have h0 := sb_bd k 0; have h31 := sb_bd k 31; have hi := sb_bd k i
  unfold clampF upd
  by_cases e : i = 31
  · simp [e]; omega
  · by_cases e2 : i = 0
    · simp [e2]; omega
    · simp [e, e2]; exact hi
set_option maxHeartbeats 2000000 in
theorem cshared_any (k p : ByteArray) (hk : k.size ≤ 9223372036854775807) (hp : p.size ≤ 9223372036854775807) (w : World) :
    Calls Tryz.prog 67 #[.string k, .string p] w fun e w' => ∃ b, e = .returned (.string (bstr 32 b)) ∧ sharedF k p b ∧ Below w.heap.size w w' := by
  go_enter Tryz.func67, Tryz.ntmps67
  go_wp2_with (first
    | (go_at_call 95; refine (bytesOf_any _ ?_ _).mono ?_; (focus (with_reducible exact hk)); rintro e A1 ⟨rfl, hb1⟩; have hs1 := hb1.size)
    | (refine wpl_store rt107 rfl _ _ rfl (A1.heap.size) rfl (tab .u8 32 (sb k)) rfl ?_ (tab_size _ _ _) (tab_all _ _ _) (A1.alloc (c32 (sb k))) ?_ ?_; (focus (simp [go_sem]; done)); (focus (simp [go_sem]; done)); obtain ⟨V1, hV⟩ : ∃ V, V = A1.alloc (c32 (sb k)) := ⟨_, rfl⟩; have S1 : V1.heap.size = A1.heap.size + 1 := (by rw [hV]; simp); have R1 : Rowz V1 [(A1.heap.size, tab .u8 32 (sb k))] := (by rw [hV]; exact (Rowz.nil A1).alloc _ _ (by simp [tab_size])); have W1 : Below w.heap.size w V1 := (by rw [hV]; exact (below_lift (Below.refl _ _) (by omega) hb1).alloc (by omega) _); rw [← hV]; clear hV)
    | (refine wpl_load rt107 rfl _ rfl (A1.heap.size) rfl (tab .u8 32 (sb k)) ?_ (tab_size _ _ _) ?_; (focus (exact (R1 (A1.heap.size, tab .u8 32 (sb k)) (by simp)).1)))
    | (go_at_call 96; refine (clamp_any _ (fun i _ => sb_bd k i) _).mono ?_; rintro e A2 ⟨rfl, hb2⟩; have hs2 := hb2.size)
    | (refine wpl_store rt107 rfl _ _ rfl (A1.heap.size) rfl (tab .u8 32 (clampF (sb k))) rfl ?_ (tab_size _ _ _) (tab_all _ _ _) (A2.setRow A1.heap.size (tab .u8 32 (clampF (sb k)))) rfl ?_; (focus (rw [((R1.below hb2) (A1.heap.size, tab .u8 32 (sb k)) (by simp)).1]; exact tab_size _ _ _)); obtain ⟨V2, hV⟩ : ∃ V, V = A2.setRow A1.heap.size (tab .u8 32 (clampF (sb k))) := ⟨_, rfl⟩; have S2 : V2.heap.size = A2.heap.size := (by rw [hV]; simp); have R2 : Rowz V2 [(A1.heap.size, tab .u8 32 (clampF (sb k)))] := (by rw [hV]; exact (Rowz.nil A2).setRow _ _ (tab .u8 32 (sb k)) (by simp [tab_size]) ((R1.below hb2) (A1.heap.size, tab .u8 32 (sb k)) (by simp)).1 (by simp [tab_size]) (by intro p hp; cases hp)); have W2 : Below w.heap.size w V2 := (by rw [hV]; exact below_setRow (below_lift W1 (by omega) hb2) (by omega) _); rw [← hV]; clear hV)
    | (go_at_call 95; refine (bytesOf_any _ ?_ _).mono ?_; (focus (with_reducible exact hp)); rintro e A3 ⟨rfl, hb3⟩; have hs3 := hb3.size)
    | (refine wpl_store rt107 rfl _ _ rfl (A3.heap.size) rfl (tab .u8 32 (sb p)) rfl ?_ (tab_size _ _ _) (tab_all _ _ _) (A3.alloc (c32 (sb p))) ?_ ?_; (focus (simp [go_sem]; done)); (focus (simp [go_sem]; done)); obtain ⟨V3, hV⟩ : ∃ V, V = A3.alloc (c32 (sb p)) := ⟨_, rfl⟩; have S3 : V3.heap.size = A3.heap.size + 1 := (by rw [hV]; simp); have R3 : Rowz V3 [(A3.heap.size, tab .u8 32 (sb p)), (A1.heap.size, tab .u8 32 (clampF (sb k)))] := (by rw [hV]; exact (R2.below hb3).alloc _ _ (by simp [tab_size])); have W3 : Below w.heap.size w V3 := (by rw [hV]; exact (below_lift W2 (by omega) hb3).alloc (by omega) _); rw [← hV]; clear hV)
    | (refine wpl_load rt107 rfl _ rfl (A1.heap.size) rfl (tab .u8 32 (clampF (sb k))) ?_ (tab_size _ _ _) ?_; (focus (exact (R3 (A1.heap.size, tab .u8 32 (clampF (sb k))) (by simp)).1)))
    | (refine wpl_load rt107 rfl _ rfl (A3.heap.size) rfl (tab .u8 32 (sb p)) ?_ (tab_size _ _ _) ?_; (focus (exact (R3 (A3.heap.size, tab .u8 32 (sb p)) (by simp)).1)))
    | (go_at_call 97; refine (ladder_any _ _ (clampF_bd k) (fun i _ => sb_bd p i) _).mono ?_; rintro e A4 ⟨b, rfl, bb, vb, hb4⟩; have hs4 := hb4.size)
    | (refine wpl_store rt107 rfl _ _ rfl (A4.heap.size) rfl (tab .u8 32 b) rfl ?_ (tab_size _ _ _) (tab_all _ _ _) (A4.alloc (c32 b)) ?_ ?_; (focus (simp [go_sem]; done)); (focus (simp [go_sem]; done)); obtain ⟨V4, hV⟩ : ∃ V, V = A4.alloc (c32 b) := ⟨_, rfl⟩; have R4 : V4.rowOf A4.heap.size = tab .u8 32 b := (by rw [hV]; simp [go_sem]); have W4 : Below w.heap.size w V4 := (by rw [hV]; exact (below_lift W3 (by omega) hb4).alloc (by omega) _); rw [← hV]; clear hV)
    | (refine wpl_convert rfl 87 9 5 _ rfl Tryz.underlying87 Tryz.underlying5 Tryz.underlying9 A4.heap.size 0 32 32 rfl 32 b ?_ (by decide) ?_; (focus (exact R4))))
  go_ret
  exact ⟨b, rfl, ⟨bb, vb⟩, W4⟩
set_option maxHeartbeats 400000 in
theorem point_any (k : ByteArray) (hk : k.size ≤ 9223372036854775807) (w : World) :
    Calls Tryz.prog 70 #[.string k] w fun e w' => ∃ b, e = .returned (.string (bstr 32 b)) ∧ sharedF k ⟨#[9]⟩ b ∧ Below w.heap.size w w' := by
  go_enter Tryz.func70, Tryz.ntmps70
  go_wp2_with (go_at_call 67; refine (cshared_any k ⟨#[9]⟩ hk (by decide) _).mono ?_; rintro e A1 ⟨b, rfl, hs, hb⟩)
  go_ret
  exact ⟨b, rfl, hs, hb⟩
set_option maxHeartbeats 400000 in
theorem spublic_any (k : ByteArray) (hk : k.size = 32) (w : World) :
    Calls Tryz.prog 56 #[.string k] w fun e w' => ∃ b, e = .returned (.tuple #[.string (bstr 32 b), .int .i64 0]) ∧ sharedF k ⟨#[9]⟩ b ∧ Below w.heap.size w w' := by
  have hk1 : (k.size : Int) = 32 := by omega
  have hk2 : k.size ≤ 9223372036854775807 := by omega
  go_enter Tryz.func56, Tryz.ntmps56
  go_wp2_with (go_at_call 70; refine (point_any k hk2 _).mono ?_; rintro e A1 ⟨b, rfl, hs, hb⟩)
  go_ret2
  exact ⟨b, rfl, hs, hb⟩
end Go.Proofs.YteghoooelgcpkabGreatDoor
namespace Go.Msg
open Go.RowKit
def cb (b : Nat → Int) (i : Nat) : Int := if i = 31 then b 31 % 128 else b i
end Go.Msg
namespace Go.Proofs.YteghoooelgcpkabGreatDoor
open Go.RowKit Go.Msg
theorem sb_at (s : ByteArray) (k : Nat) (h : k < s.size) : sb s k = (s[k].toNat : Int) := by simp [sb, h]
def tb (n : Nat) (f : Nat → Int) (i : Nat) : Int := if i < 2 * n then (if i % 2 = 0 then f (i / 2) % 256 else f (i / 2) / 256) else 0
end Go.Proofs.YteghoooelgcpkabGreatDoor
namespace Go.Msg
theorem bval_uniq {n : Nat} {f g : Nat → Int} (hf : ∀ i, i < n → 0 ≤ f i ∧ f i ≤ 255) (hg : ∀ i, i < n → 0 ≤ g i ∧ g i ≤ 255) (h : bval n f = bval n g) : ∀ i, i < n → f i = g i := by
  have lt : ∀ (m : Nat) (q : Nat → Int), (∀ i, i < m → 0 ≤ q i ∧ q i ≤ 255) → 0 ≤ bval m q ∧ bval m q < 256 ^ m := fun m => by
    induction m with
    | zero => intro q _; simp [bval]
    | succ m ih =>
      intro q hq
      have h1 := ih q (fun i hi => hq i (by omega))
      have h2 := hq m (by omega)
      have hp : (0 : Int) < 256 ^ m := Int.pow_pos (by omega)
      have h3 : q m * 256 ^ m ≤ 255 * 256 ^ m := Int.mul_le_mul_of_nonneg_right (by omega) (by omega)
      have h4 : 0 ≤ q m * 256 ^ m := Int.mul_nonneg h2.1 (by omega)
      simp only [bval]; rw [Int.pow_succ]; omega
  induction n with
  | zero => intro i hi; omega
  | succ n ih =>
    simp only [bval] at h
    have a1 := lt n f (fun i hi => hf i (by omega))
    have a2 := lt n g (fun i hi => hg i (by omega))
    have hp : (0 : Int) < 256 ^ n := Int.pow_pos (by omega)
    have e : f n = g n := by
      have q1 : (bval n f + f n * 256 ^ n) / 256 ^ n = f n := by
        rw [Int.add_mul_ediv_right _ _ (by omega), Int.ediv_eq_zero_of_lt a1.1 a1.2]; omega
      have q2 : (bval n g + g n * 256 ^ n) / 256 ^ n = g n := by
        rw [Int.add_mul_ediv_right _ _ (by omega), Int.ediv_eq_zero_of_lt a2.1 a2.2]; omega
      rw [← q1, ← q2, h]
    intro i hi
    by_cases c : i = n
    · subst c; exact e
    · refine ih (fun i hi => hf i (by omega)) (fun i hi => hg i (by omega)) ?_ i (by omega)
      rw [e] at h; omega
end Go.Msg
namespace Go.Proofs.YteghoooelgcpkabGreatDoor
open Go.RowKit Go.Msg
end Go.Proofs.YteghoooelgcpkabGreatDoor
namespace Go.Proofs.YteghoooelgcpkabGreatDoor
open Go.RowKit Go.Msg
attribute [simp, go_sem] bstr_size
def b1 (x : Int) : ByteArray := bstr 1 (fun _ => x)
@[simp, go_sem] theorem b1_size (x : Int) : (b1 x).size = 1 := bstr_size _ _
theorem arr_1 (k : IntKind) (x : Int) : #[Value.int k x] = tab k 1 (fun _ => x) := by rw [tab_eq]; rfl
theorem cv_row (W : World) (g : Nat) (x : Int) (h : W.rowOf g = #[.int .u8 x]) : (convert 87 9 (.slice (some ⟨g, 0, none⟩) 1 1)).run Tryz.prog W = .ok (.string (b1 x)) W := by
  rw [run_convert_row W 87 9 5 Tryz.underlying87 Tryz.underlying5 Tryz.underlying9 g 0 1 1 1 (fun _ => x) (by rw [h, arr_1]) (by omega)]; rfl
theorem get_data (s : ByteArray) (i : Nat) (h : i < s.size) : s[i] = s.data[i]'h := rfl
theorem sb_data (s : ByteArray) (i : Nat) : sb s i = ((s.data[i]?).map fun c => (c.toNat : Int)).getD 0 := by
  unfold sb
  by_cases h : i < s.size
  · rw [dif_pos h, get_data s i h, Array.getElem?_eq_getElem h]; rfl
  · rw [dif_neg h, Array.getElem?_eq_none (by simpa using h)]; rfl
theorem sb_append (a b : ByteArray) (i : Nat) : sb (a ++ b) i = if i < a.size then sb a i else sb b (i - a.size) := by
  simp only [sb_data, ByteArray.data_append]
  by_cases h : i < a.size
  · rw [if_pos h, Array.getElem?_append_left h]
  · rw [if_neg h, Array.getElem?_append_right (by simpa using h)]; rfl
theorem sb_bstr (n : Nat) (f : Nat → Int) (i : Nat) (hi : i < n) (h : 0 ≤ f i ∧ f i ≤ 255) : sb (bstr n f) i = f i := by
  unfold sb
  rw [dif_pos (by rw [bstr_size]; exact hi), bstr_get]; omega
theorem sb_b1 (x : Int) (h : 0 ≤ x ∧ x ≤ 255) : sb (b1 x) 0 = x := sb_bstr 1 (fun _ => x) 0 (by omega) h
theorem sb_extract (s : ByteArray) (i j n : Nat) (h : i + n < j) (hj : j ≤ s.size) : sb (s.extract i j) n = sb s (i + n) := by
  simp only [sb_data, ByteArray.data_extract]
  rw [Array.getElem?_extract, if_pos (by simp; omega)]
theorem by_alloc2 (w : World) (o1 o2 : Obj) : Below w.heap.size w ((w.alloc o1).alloc o2) := ((Below.refl _ _).alloc (Nat.le_refl _) _).alloc (by simp) _
end Go.Proofs.YteghoooelgcpkabGreatDoor
namespace Go.RowKit
theorem Hid.mk {p : Prop} (h : p) : Hid p := h
end Go.RowKit
namespace Go.Msg
open Go.RowKit Go.Proofs.YteghoooelgcpkabGreatDoor
theorem bits_xor_nat (k : IntKind) (j : Nat) (hj : j ≤ k.bits) (hk : ∀ n : Int, 0 ≤ n → n < 2 ^ j → k.wrap n = n) (a b : Nat) (ha : a < 2 ^ j) (hb : b < 2 ^ j) :
    bits .xor k a b = ((a ^^^ b : Nat) : Int) := by
  have hp : 2 ^ j ≤ 2 ^ k.bits := Nat.pow_le_pow_right (by decide) hj
  have ha' : a % 2 ^ k.bits = a := Nat.mod_eq_of_lt (Nat.lt_of_lt_of_le ha hp)
  have hb' : b % 2 ^ k.bits = b := Nat.mod_eq_of_lt (Nat.lt_of_lt_of_le hb hp)
  have cast : ∀ n : Nat, n < 2 ^ j → ((n : Nat) : Int) < 2 ^ j := fun n h => by exact_mod_cast h
  simp only [bits, BitVec.ofInt_natCast, BitVec.toNat_xor, BitVec.toNat_ofNat, ha', hb']
  exact hk _ (Int.natCast_nonneg _) (cast _ (Nat.xor_lt_two_pow ha hb))
theorem wraps_i64 (n : Int) (h₀ : 0 ≤ n) (h₁ : n < 2 ^ 32) : IntKind.i64.wrap n = n := by rw [IntKind.wrap_i64]; omega
def B32 (x : Int) : Prop := 0 ≤ x ∧ x < 4294967296
theorem B32.nat {x : Int} (h : B32 x) : ∃ a : Nat, x = a ∧ a < 2 ^ 32 := ⟨x.toNat, by unfold B32 at h; omega, by unfold B32 at h; omega⟩
def xr (x y : Int) : Int := bits .xor .u32 x y
def an (x y : Int) : Int := bits .and .u32 x y
theorem bits_bd (op : BinOp) (x y : Int) : B32 (bits op .u32 x y) := ⟨bits_lo_u32 op x y, by have := bits_hi_u32 op x y; omega⟩
theorem xr_bd (x y : Int) : B32 (xr x y) := bits_bd _ _ _
theorem an_bd (x y : Int) : B32 (an x y) := bits_bd _ _ _
theorem xor64 {x y : Int} (hx : B32 x) (hy : B32 y) : bits .xor .i64 x y = xr x y := by
  obtain ⟨a, rfl, ha⟩ := hx.nat
  obtain ⟨b, rfl, hb⟩ := hy.nat
  unfold xr
  rw [bits_xor_nat .i64 32 (by decide) wraps_i64 a b ha hb, bits_xor_nat .u32 32 (by decide) wraps_u32 a b ha hb]
theorem and64 {x y : Int} (hx : B32 x) (hy : B32 y) : bits .and .i64 x y = an x y := by
  obtain ⟨a, rfl, ha⟩ := hx.nat
  obtain ⟨b, rfl, hb⟩ := hy.nat
  unfold an
  rw [(bits_nat .i64 32 (by decide) wraps_i64 a b ha hb).1, (bits_nat .u32 32 (by decide) wraps_u32 a b ha hb).1]
theorem xor8_comm (x y : Int) : bits .xor .u8 x y = bits .xor .u8 y x := by simp only [bits, BitVec.xor_comm]
def rr (x : Int) (n : Nat) : Int := x / 2 ^ n + x * 2 ^ (32 - n) % 4294967296
theorem rr_parts {x : Int} (hx : B32 x) (n : Nat) (hn : n ≤ 32) : 0 ≤ x / 2 ^ n ∧ x / 2 ^ n < 2 ^ (32 - n) ∧ x * 2 ^ (32 - n) % 4294967296 = x % 2 ^ n * 2 ^ (32 - n) := by
  have hp : (0 : Int) < 2 ^ n := Int.pow_pos (by omega)
  have hq : (0 : Int) < 2 ^ (32 - n) := Int.pow_pos (by omega)
  have hpq : (2 : Int) ^ n * 2 ^ (32 - n) = 4294967296 := by rw [← Int.pow_add, show n + (32 - n) = 32 by omega]; rfl
  refine ⟨Int.ediv_nonneg hx.1 (by omega), ?_, ?_⟩
  · apply Int.ediv_lt_of_lt_mul hp
    have h1 := hx.2
    rw [Int.mul_comm, hpq]; exact h1
  · rw [← hpq, Int.mul_comm x, Int.mul_comm (2 ^ n) (2 ^ (32 - n)), Int.mul_emod_mul_of_pos _ _ hq, Int.mul_comm]
theorem rr_bd {x : Int} (hx : B32 x) (n : Nat) (hn : n ≤ 32) : B32 (rr x n) := by
  obtain ⟨h1, h2, h3⟩ := rr_parts hx n hn
  have hp : (0 : Int) < 2 ^ n := Int.pow_pos (by omega)
  have hq : (0 : Int) < 2 ^ (32 - n) := Int.pow_pos (by omega)
  have hpq : (2 : Int) ^ n * 2 ^ (32 - n) = 4294967296 := by rw [← Int.pow_add, show n + (32 - n) = 32 by omega]; rfl
  have h4 := Int.emod_nonneg x (show (2 : Int) ^ n ≠ 0 by omega)
  have h5 := Int.emod_lt_of_pos x hp
  unfold rr B32
  rw [h3]
  have h6 : 0 ≤ x % 2 ^ n * 2 ^ (32 - n) := Int.mul_nonneg h4 (by omega)
  have h7 : (x % 2 ^ n + 1) * 2 ^ (32 - n) ≤ 2 ^ n * 2 ^ (32 - n) := Int.mul_le_mul_of_nonneg_right (by omega) (by omega)
  rw [Int.add_mul, hpq] at h7
  omega
theorem rr_or {x : Int} (hx : B32 x) (n : Nat) (hn : n ≤ 32) : bits .or .u32 (x / 2 ^ n) (x * 2 ^ (32 - n) % 4294967296) = rr x n := by
  obtain ⟨h1, h2, h3⟩ := rr_parts hx n hn
  have hb := rr_bd hx n hn
  have hp : (0 : Int) < 2 ^ n := Int.pow_pos (by omega)
  have hq : (0 : Int) < 2 ^ (32 - n) := Int.pow_pos (by omega)
  have h4 := Int.emod_nonneg x (show (2 : Int) ^ n ≠ 0 by omega)
  have h6 : 0 ≤ x % 2 ^ n * 2 ^ (32 - n) := Int.mul_nonneg h4 (by omega)
  have hcm : ∀ a b : Int, bits .or .u32 a b = bits .or .u32 b a := fun a b => by simp only [bits, BitVec.or_comm]
  unfold rr B32 at *
  rw [hcm, h3]
  rw [h3] at hb
  rw [bits_join .u32 32 (by decide) wraps_u32 (32 - n) _ _ h6 (by simp) (by omega) h1 h2 (by omega), Int.add_comm]
def word (b : Nat → Int) (i : Nat) : Int := ((b (4 * i) * 256 + b (4 * i + 1)) * 256 + b (4 * i + 2)) * 256 + b (4 * i + 3)
def sg0 (x : Int) : Int := xr (xr (rr x 7) (rr x 18)) (x / 8)
def sg1 (x : Int) : Int := xr (xr (rr x 17) (rr x 19)) (x / 1024)
def wnext (f : Nat → Int) (m : Nat) : Int := (f m + sg0 (f (m + 1)) + f (m + 9) + sg1 (f (m + 14))) % 4294967296
def wl (b : Nat → Int) : Nat → Nat → Int
  | 0 => fun _ => 0
  | n + 1 => upd (wl b n) n (if n < 16 then word b n else wnext (wl b n) (n - 16))
theorem wl_lo (b : Nat → Int) (n : Nat) (h : n < 16) : wl b (n + 1) = upd (wl b n) n (word b n) := by rw [wl, if_pos h]
theorem wl_hi (b : Nat → Int) (m : Nat) : wl b (m + 16 + 1) = upd (wl b (m + 16)) (m + 16) (wnext (wl b (m + 16)) m) := by rw [wl, if_neg (by omega), Nat.add_sub_cancel]
def B8 (b : Nat → Int) : Prop := ∀ i, 0 ≤ b i ∧ b i < 256
theorem word_bd {b : Nat → Int} (h : B8 b) (i : Nat) : B32 (word b i) := by
  have h0 := h (4 * i); have h1 := h (4 * i + 1); have h2 := h (4 * i + 2); have h3 := h (4 * i + 3)
  unfold word B32; omega
theorem mod32 (x : Int) : B32 (x % 4294967296) := ⟨by omega, by omega⟩
theorem upd_bd {f : Nat → Int} (h : ∀ i, B32 (f i)) (n : Nat) {z : Int} (hz : B32 z) (i : Nat) : B32 (upd f n z i) := by
  unfold upd; split
  · exact hz
  · exact h i
theorem wl_bd {b : Nat → Int} (h : B8 b) (n : Nat) : ∀ i, B32 (wl b n i) := by
  induction n with
  | zero => intro i; show B32 0; exact ⟨by decide, by decide⟩
  | succ n ih =>
    rw [wl]
    refine upd_bd ih n ?_
    split
    · exact word_bd h n
    · exact mod32 _
def oct (a b c d e f g h : Int) (i : Nat) : Int := ([a, b, c, d, e, f, g, h].getD i 0)
def rT (k w : Int) (s : Nat → Int) : Int := (s 7 + xr (xr (rr (s 4) 6) (rr (s 4) 11)) (rr (s 4) 25) + xr (an (s 4) (s 5)) (an (4294967295 - s 4) (s 6)) + k + w) % 4294967296
def rU (s : Nat → Int) : Int := (xr (xr (rr (s 0) 2) (rr (s 0) 13)) (rr (s 0) 22) + xr (xr (an (s 0) (s 1)) (an (s 0) (s 2))) (an (s 1) (s 2))) % 4294967296
def rstep (k w : Int) (s : Nat → Int) : Nat → Int := oct ((rT k w s + rU s) % 4294967296) (s 0) (s 1) (s 2) ((s 3 + rT k w s) % 4294967296) (s 4) (s 5) (s 6)
def o8 (h : Nat → Int) : Nat → Int := oct (h 0) (h 1) (h 2) (h 3) (h 4) (h 5) (h 6) (h 7)
theorem o8_at (h : Nat → Int) (i : Nat) (hi : i < 8) : o8 h i = h i := by
  match i, hi with
  | 0, _ => rfl
  | 1, _ => rfl
  | 2, _ => rfl
  | 3, _ => rfl
  | 4, _ => rfl
  | 5, _ => rfl
  | 6, _ => rfl
  | 7, _ => rfl
theorem oct_bd {a b c d e f g h : Int} (ha : B32 a) (hb : B32 b) (hc : B32 c) (hd : B32 d) (he : B32 e) (hf : B32 f) (hg : B32 g) (hh : B32 h) (i : Nat) : B32 (oct a b c d e f g h i) := by
  match i with
  | 0 => exact ha
  | 1 => exact hb
  | 2 => exact hc
  | 3 => exact hd
  | 4 => exact he
  | 5 => exact hf
  | 6 => exact hg
  | 7 => exact hh
  | i + 8 => simp [oct, B32]
def fracB (most : Int) (n : Nat) : Nat → Int → Int
  | 0, v => v
  | j + 1, v => if most < (v + 2 ^ j) ^ n then fracB most n j v else fracB most n j (v + 2 ^ j)
def frac (p : Int) (n : Nat) : Int := fracB (p * 65536 ^ (2 * n)) n 37 0 % 4294967296
def PL : Nat → List Int
  | 0 => []
  | n + 1 => if (PL n).all (fun p => ((n : Int) + 2) % p != 0) then PL n ++ [(n : Int) + 2] else PL n
def prm (i : Nat) : Int := (PL 310).getD i 0
def Kc (i : Nat) : Int := frac (prm i) 3
def Hc (i : Nat) : Int := frac (prm i) 2
theorem Kc_bd (i : Nat) : B32 (Kc i) := mod32 _
theorem Hc_bd (i : Nat) : B32 (Hc i) := mod32 _
def rnds (w h : Nat → Int) : Nat → Nat → Int
  | 0 => o8 h
  | k + 1 => rstep (Kc k) (w k) (rnds w h k)
theorem rstep_bd (k w : Int) {s : Nat → Int} (h : ∀ i, B32 (s i)) (i : Nat) : B32 (rstep k w s i) := oct_bd (mod32 _) (h _) (h _) (h _) (mod32 _) (h _) (h _) (h _) i
theorem rnds_bd {w h : Nat → Int} (hh : ∀ i, i < 8 → B32 (h i)) (k : Nat) : ∀ i, B32 (rnds w h k i) := by
  induction k with
  | zero => exact oct_bd (hh _ (by omega)) (hh _ (by omega)) (hh _ (by omega)) (hh _ (by omega)) (hh _ (by omega)) (hh _ (by omega)) (hh _ (by omega)) (hh _ (by omega))
  | succ k ih => exact rstep_bd _ _ ih
def blockF (h b : Nat → Int) (i : Nat) : Int := (h i + rnds (wl b 64) h 64 i) % 4294967296
theorem blockF_bd (h b : Nat → Int) (i : Nat) : B32 (blockF h b i) := mod32 _
def be : Nat → Int → ByteArray
  | 0, _ => ⟨#[]⟩
  | k + 1, n => b1 (n / 256 ^ k % 256) ++ be k n
theorem be_size (k : Nat) (n : Int) : (be k n).size = k := by
  induction k with
  | zero => rfl
  | succ k ih => rw [be, ByteArray.size_append, ih, b1_size]; omega
def zeros (n : Nat) : ByteArray := bstr n (fun _ => 0)
def padZ (n : Nat) : Nat := (119 - n % 64) % 64
def pad (t : ByteArray) : ByteArray := t ++ b1 128 ++ zeros (padZ t.size) ++ be 8 (8 * (t.size : Int))
theorem pad_size (t : ByteArray) : (pad t).size = t.size + 9 + padZ t.size := by
  simp only [pad, ByteArray.size_append, b1_size, be_size, zeros, bstr_size]; omega
theorem pad_mod (t : ByteArray) : (pad t).size % 64 = 0 := by rw [pad_size]; unfold padZ; omega
def hs (T : ByteArray) : Nat → Nat → Int
  | 0 => Hc
  | k + 1 => blockF (hs T k) (fun i => sb (T.extract (64 * k) (64 * k + 64)) i)
theorem hs_bd (T : ByteArray) (k : Nat) : ∀ i, B32 (hs T k i) := by
  cases k with
  | zero => exact fun i => Hc_bd i
  | succ k => exact fun i => blockF_bd _ _ i
def dig (f : Nat → Int) : Nat → ByteArray
  | 0 => ⟨#[]⟩
  | k + 1 => dig f k ++ be 4 (f k)
theorem dig_size (f : Nat → Int) (k : Nat) : (dig f k).size = 4 * k := by
  induction k with
  | zero => rfl
  | succ k ih => rw [dig, ByteArray.size_append, ih, be_size]; omega
def shaF (t : ByteArray) : ByteArray := dig (hs (pad t) ((pad t).size / 64)) 8
theorem shaF_size (t : ByteArray) : (shaF t).size = 32 := dig_size _ _
def veil (k : ByteArray) (v : Int) : ByteArray := bstr 64 (fun i => bits .xor .u8 (sb k i) v)
theorem veil_size (k : ByteArray) (v : Int) : (veil k v).size = 64 := bstr_size _ _
def macF (k t : ByteArray) : ByteArray := shaF (veil k 92 ++ shaF (veil k 54 ++ t))
theorem macF_size (k t : ByteArray) : (macF k t).size = 32 := shaF_size _
def hkT (k u : ByteArray) : Nat → ByteArray
  | 0 => ⟨#[]⟩
  | j + 1 => macF k (hkT k u j ++ u ++ b1 ((j : Int) + 1))
def hkA (k u : ByteArray) : Nat → ByteArray
  | 0 => ⟨#[]⟩
  | j + 1 => hkA k u j ++ hkT k u (j + 1)
theorem hkA_size (k u : ByteArray) (j : Nat) : (hkA k u j).size = 32 * j := by
  induction j with
  | zero => rfl
  | succ j ih => rw [hkA, ByteArray.size_append, ih, hkT, macF_size]; omega
def hkdfF (s t u : ByteArray) (n : Nat) : ByteArray := (hkA (macF s t) u ((n + 31) / 32)).extract 0 n
theorem hkdfF_size (s t u : ByteArray) (n : Nat) : (hkdfF s t u n).size = n := by
  unfold hkdfF; rw [ByteArray.size_extract, hkA_size]; omega
end Go.Msg
namespace Go.Msg
open Go.RowKit
theorem PL_two (n : Nat) : ∀ p ∈ PL n, 2 ≤ p ∧ p ≤ (n : Int) + 1 := by
  induction n with
  | zero => intro p hp; cases hp
  | succ n ih =>
    intro p hp
    rw [PL] at hp
    split at hp
    · rcases List.mem_append.1 hp with h | h
      · have := ih p h; omega
      · have : p = (n : Int) + 2 := by simpa using h
        omega
    · have := ih p hp; omega
theorem PL_len (n : Nat) : (PL n).length ≤ (PL (n + 1)).length := by
  rw [PL]; split
  · simp
  · omega
theorem PL_mono {a b : Nat} (h : a ≤ b) : (PL a).length ≤ (PL b).length := by
  induction b with
  | zero => have : a = 0 := by omega
            subst this; omega
  | succ b ih =>
    by_cases e : a = b + 1
    · subst e; omega
    · have := ih (by omega); have := PL_len b; omega
theorem PL_64 : (PL 310).length = 64 := by decide +kernel
theorem PL_pre (n k : Nat) : ∃ l, PL (n + k) = PL n ++ l := by
  induction k with
  | zero => exact ⟨[], by simp⟩
  | succ k ih =>
    obtain ⟨l, hl⟩ := ih
    rw [show n + (k + 1) = (n + k) + 1 by omega, PL]
    split
    · exact ⟨l ++ [((n + k : Nat) : Int) + 2], by rw [hl, List.append_assoc]⟩
    · exact ⟨l, hl⟩
theorem PL_prm {n : Nat} (hn : n ≤ 310) (i : Nat) (hi : i < (PL n).length) : (PL n).getD i 0 = prm i := by
  obtain ⟨l, hl⟩ := PL_pre n (310 - n)
  rw [show n + (310 - n) = 310 by omega] at hl
  unfold prm
  rw [hl]
  simp [List.getElem?_append_left hi]
theorem prm_bd (i : Nat) (hi : i < 64) : 2 ≤ prm i ∧ prm i ≤ 1000 := by
  have h1 : i < (PL 310).length := by rw [PL_64]; exact hi
  have h2 : prm i = (PL 310)[i] := by unfold prm; simp [h1]
  have := PL_two 310 _ (List.getElem_mem h1)
  rw [h2]; omega
def PLf (n : Nat) (i : Nat) : Int := (PL n).getD i 0
theorem ints_of_list (l : List Int) : ints .i64 l.length (fun i => l.getD i 0) = l.map (Value.int .i64) := by
  apply List.ext_getElem?
  intro i
  by_cases h : i < l.length
  · rw [ints_get _ _ _ _ h]; simp [h]
  · simp [ints, h]
def PT (n k : Nat) : Bool := ((PL n).take k).all (fun p => ((n : Int) + 2) % p != 0)
theorem PT_zero (n : Nat) : PT n 0 = true := by simp [PT]
theorem PT_succ (n k : Nat) (h : k < (PL n).length) : PT n (k + 1) = (PT n k && (((n : Int) + 2) % (PLf n k) != 0)) := by
  unfold PT PLf
  rw [List.take_succ_eq_append_getElem h, List.all_append]
  simp only [List.all_cons, List.all_nil, Bool.and_true, List.getD_eq_getElem?_getD, List.getElem?_eq_getElem h, Option.getD_some]
theorem PT_all (n : Nat) : PT n (PL n).length = (PL n).all (fun p => ((n : Int) + 2) % p != 0) := by
  unfold PT; rw [List.take_length]
theorem PL_yes {n : Nat} (h : PT n (PL n).length = true) : (PL (n + 1)).length = (PL n).length + 1 ∧ ints .i64 (PL (n + 1)).length (PLf (n + 1)) = ints .i64 ((PL n).length + 1) (upd (PLf n) (PL n).length ((n : Int) + 2)) := by
  rw [PT_all] at h
  have e : PL (n + 1) = PL n ++ [(n : Int) + 2] := by rw [PL, if_pos h]
  refine ⟨by rw [e]; simp, ?_⟩
  unfold PLf
  rw [ints_of_list, ← ints_snoc, ints_of_list, e]; simp
theorem PL_no {n : Nat} (h : PT n (PL n).length = false) : PL (n + 1) = PL n := by
  rw [PT_all] at h
  rw [PL, if_neg (by rw [h]; simp)]
end Go.Msg
namespace Go.Proofs.YteghoooelgcpkabGreatDoor
open Go.RowKit Go.Msg
theorem num_congr {w : World} {v : Value} {n : Nat} {f g : Nat → Int} (h : NumAt w v n f) (e : ∀ i, i < n → f i = g i) : NumAt w v n g := by
  obtain ⟨ao, cap, q, h1, h2, h3, h4⟩ := h
  exact ⟨ao, cap, q, h1, h2, h3, fun i hi => by rw [← e i hi]; exact h4 i hi⟩
theorem owns_alloc {w : World} {B e : Nat} {v : Value} {n : Nat} {xs : List Value} (h : w.ownsRow B e 1 v n xs) (o : Obj) : (w.alloc o).ownsRow B e 1 v n xs := h.alloc o
theorem intS : SliceTy Tryz.prog 55 3 .i64 8 := ⟨Tryz.underlying55, by kernel_rfl, by omega⟩
set_option maxHeartbeats 2000000 in
theorem primes_any (w : World) : Calls Tryz.prog 23 #[.int .i64 64] w fun e w' => ∃ v, e = .returned v ∧ NumAt w' v 64 prm ∧ Below w.heap.size w w' := by
  go_enter Tryz.func23, Tryz.ntmps23
  go_wp2
  go_loopw [3, 4, 5, 6] (fun v i _ _ wr => ∃ (n : Nat), n ≤ 310 ∧ (PL n).length ≤ 64 ∧ i = .int .i64 ((n : Int) + 2) ∧ wr.ownsRow w.heap.size 3 1 v (PL n).length (ints .i64 (PL n).length (PLf n)) ∧ Below w.heap.size w wr) (fun _ i _ _ _ => 1000 - (intOf i).toNat)
  case atStart => exact ⟨0, by omega, by decide, rfl, World.ownsRow_nil _ _ _ _, Below.refl _ _⟩
  case round =>
    obtain ⟨n, hn311, hn, rfl, hown, hbel⟩ := hrel
    have hbs := hbel.size
    have hnum := NumAt.of_owns hown
    obtain ⟨ao, cap, g, rfl, hc1, ha1, hx1⟩ := hnum
    have hf : ∀ i, i < (PL n).length → 2 ≤ PLf n i ∧ PLf n i ≤ (n : Int) + 1 := fun i hi => by
      unfold PLf
      have : (PL n).getD i 0 = (PL n)[i] := by simp [hi]
      rw [this]; exact PL_two n _ (List.getElem_mem hi)
    by_cases hlt : (PL n).length < 64
    · have hn310 : n < 310 := by
        by_cases h : 310 ≤ n
        · have := PL_mono h; rw [PL_64] at this; omega
        · omega
      have c1 : ((PL n).length : Int) < 64 := by omega
      go_wp2
      have HT1 : Hid _ := PT_succ n
      have HT0 := PT_zero n
      have HY : Hid _ := @PL_yes n
      have HN : Hid _ := @PL_no n
      have Hown : Hid _ := hown
      have hL : ((PL n).length : Int) ≤ 64 := by omega
      have hLn : (PL n).length ≤ 64 := hn
      clear hown
      go_loop [5, 6] (fun b i => ∃ k : Nat, k ≤ (PL n).length ∧ i = .int .i64 k ∧ b = .bool (PT n k)) (fun _ i => (PL n).length - (intOf i).toNat)
      case atStart => exact ⟨0, by omega, rfl, by rw [HT0]⟩
      case round =>
        obtain ⟨k, hk, rfl, rfl⟩ := hrel
        by_cases hk2 : k < (PL n).length
        · have c2 : (k : Int) < (PL n).length := by omega
          obtain rfl := ha1 (by omega)
          have y1 := hx1 k hk2
          have f1 := hf k hk2
          have f2 : ¬ PLf n k = 0 := by omega
          have hs := HT1.out k hk2
          clear hx1 ha1 hf
          cases hb : PT n k with
          | true =>
            rw [hb, Bool.true_and] at hs
            have HS : Hid _ := hs
            clear hs hb
            go_wp2
            go_round
            case rel => exact ⟨k + 1, by omega, by go_num, by rw [HS.out]⟩
            case measure => simp [intOf]; omega
          | false =>
            rw [hb, Bool.false_and] at hs
            have HS : Hid _ := hs
            clear hs hb
            go_wp2
            go_round
            case rel => exact ⟨k + 1, by omega, by go_num, by rw [HS.out]⟩
            case measure => simp [intOf]; omega
        · have hk' : k = (PL n).length := by omega
          subst hk'
          cases hb : PT n (PL n).length with
          | true =>
            have HY2 := HY.out hb
            have HY3 : Hid _ := HY2
            clear HY2 hb ha1 hx1 hf
            go_wp2_with (refine wpl_append1 intS rfl _ _ rfl w.heap.size _ (PL n).length (PLf n) rfl ?_ (wr.heap.size) ((n : Int) + 2) rfl ?_ (by omega) ?_ ?_; (focus (exact owns_alloc Hown.out _)); (focus (simp [go_sem]; done)); (focus (simp; omega)); intro v' w' hown' hbel' hsz')
            go_roundw
            case rel => exact ⟨n + 1, by omega, by rw [HY3.out.1]; omega, by go_num, by rw [HY3.out.2, HY3.out.1]; exact hown', hbel' _ (hbel.alloc hbs _)⟩
            case measure => simp [intOf]; omega
          | false =>
            have HN2 : Hid _ := HN.out hb
            clear hb ha1 hx1 hf
            go_wp2
            go_roundw
            case rel => exact ⟨n + 1, by omega, by rw [HN2.out]; omega, by go_num, by unfold PLf; rw [HN2.out]; exact Hown.out, hbel⟩
            case measure => simp [intOf]; omega
    · have hl : (PL n).length = 64 := by omega
      have HF : Hid (∀ i, i < 64 → PLf n i = prm i) := fun i hi => PL_prm hn311 i (by omega)
      have c1 : ((PL n).length : Int) = 64 := by omega
      have HX : Hid (NumAt wr (.slice ao (PL n).length cap) (PL n).length (PLf n)) := ⟨ao, cap, g, rfl, hc1, ha1, hx1⟩
      clear hf hx1 ha1 hown
      go_wp2
      go_ret
      have hX := HX.out
      rw [hl] at hX
      exact ⟨.slice ao (PL n).length cap, rfl, (by rw [hl]; exact num_congr hX HF.out), hbel⟩
end Go.Proofs.YteghoooelgcpkabGreatDoor
namespace Go
open Go.RowKit Go.Msg
def joinf (n : Nat) (f g : Nat → Int) (i : Nat) : Int := if i < n then f i else g (i - n)
theorem ints_append (k : IntKind) (n m : Nat) (f g : Nat → Int) : ints k n f ++ ints k m g = ints k (n + m) (joinf n f g) := by
  apply List.ext_getElem?
  intro i
  by_cases h : i < n
  · rw [List.getElem?_append_left (by rw [ints_length]; exact h), ints_get _ _ _ _ h, ints_get _ _ _ _ (by omega)]; simp [joinf, h]
  · rw [List.getElem?_append_right (by rw [ints_length]; omega), ints_length]
    by_cases h2 : i < n + m
    · rw [ints_get _ _ _ _ (by omega), ints_get _ _ _ _ h2]; simp [joinf, h]
    · rw [List.getElem?_eq_none (by rw [ints_length]; omega), List.getElem?_eq_none (by rw [ints_length]; omega)]
theorem wpl_appendN {P : Program} {t e : Nat} {k : IntKind} {B : Nat} (hS : SliceTy P t e k B) {ops : Array Oper} {rest : List Oper} {o : Oper} {a : Act} {w : World} {Q : Exit → Act → World → Prop} (hgd : o.guard = none) (s x : Operand)
    (ho : o.op = .call { callee := .builtin .append, args := #[s, x], argTypes := #[t, t] }) (base : Nat) (v : Value) (n : Nat) (f : Nat → Int) (hs : a.eval s = v) (hown : w.ownsRow base e 1 v n (ints k n f)) (g1 m c : Nat) (z : Nat → Int)
    (hx : a.eval x = .slice (some ⟨g1, 0, none⟩) m c) (hz : ∀ i, i < m → w.cell? ⟨g1, i, none⟩ = some (.int k (z i))) (hn : n + m ≤ 1000000) (hb : base ≤ w.heap.size)
    (h : ∀ v' w', w'.ownsRow base e 1 v' (n + m) (ints k (n + m) (joinf n f z)) → (∀ w0, Below base w0 w → Below base w0 w') → w.heap.size ≤ w'.heap.size → wpList P ops Q rest (a.put o.dst v') w') : wpList P ops Q (o :: rest) a w := by
  obtain ⟨ht, hi, hB⟩ := hS
  cases hq : P.info? e with
  | none => simp [hq] at hi
  | some i =>
    simp [hq] at hi
    obtain ⟨i1, i2, i3⟩ := hi
    refine wpList_append_own _ hgd s x t ho base e i (.int k 0) 1 B ht hq i1 i2 i3 rfl (by omega) v n (ints k n f) hs hown ⟨g1, 0, none⟩ m c (ints k m z) hx (by rw [ints_length]; omega) ?_ ?_ ?_ ?_ hb ?_
    · intro j u hj
      have hj' : j < m := by have := (List.getElem?_eq_some_iff.1 hj).1; rwa [ints_length] at this
      rw [ints_get _ _ _ _ hj'] at hj
      rw [Addr.add_mid, Nat.zero_add, hz j hj']; exact hj
    · intro u hu
      simp [ints] at hu
      obtain ⟨i, _, rfl⟩ := hu; rfl
    · unfold maxLen; omega
    · have : (n + m) * B ≤ 1000000 * 8 := Nat.mul_le_mul (by omega) (by omega)
      omega
    · intro v' w' h1 h2 _
      rw [ints_append] at h1
      refine h v' w' h1 (fun w0 hb0 => hb0.grown h2 hb (fun q hq' => (hown.lt q hq').1)) h2.size
theorem own_one (w : World) (B e : Nat) (hB : B ≤ w.heap.size) (k : IntKind) (x : Int) : (w.alloc (.cells #[.int k x] e)).ownsRow B e 1 (.slice (some ⟨w.heap.size, 0, none⟩) 1 1) 1 (ints k 1 (fun _ => x)) :=
  ⟨rfl, Or.inr ⟨w.heap.size, 1, #[.int k x], rfl, hB, by show (w.heap.push _)[w.heap.size]? = _; simp, by omega, by unfold maxLen; omega, rfl, rfl⟩⟩
end Go
namespace Go.Msg
theorem dval_shift1 (m : Nat) (f : Nat → Int) : dval (1 + m) (joinf 1 (fun _ => 0) f) = 65536 * dval m f := by
  rw [dval_shift]
  have : dval m (fun i => joinf 1 (fun _ => 0) f (1 + i)) = dval m f := dval_congr fun i _ => by
    unfold joinf; rw [if_neg (by omega), show 1 + i - 1 = i by omega]
  rw [this]; simp [dval, joinf]
end Go.Msg
namespace Go.Proofs.YteghoooelgcpkabGreatDoor
open Go.RowKit Go.Msg
theorem shift_num {w : World} {B : Nat} {v : Value} {m : Nat} {f : Nat → Int} (h : w.ownsRow B 3 1 v (1 + m) (ints .i64 (1 + m) (joinf 1 (fun _ => 0) f))) (dg : Dig m f) (tr : Trim m f) (hm : 0 < m) : IsNum w v (65536 * dval m f) := by
  refine ⟨1 + m, joinf 1 (fun _ => 0) f, NumAt.of_owns h, fun i hi => ?_, fun _ => ?_, dval_shift1 m f⟩
  · unfold joinf; split
    · simp
    · exact dg _ (by omega)
  · unfold joinf; rw [if_neg (by omega)]; have := tr hm; rwa [show 1 + m - 1 - 1 = m - 1 by omega]
theorem mul_lt_pow {x y : Int} {a b : Nat} (hx0 : 0 ≤ x) (hx : x < 65536 ^ a) (hy : y < 65536 ^ b) : x * y < 65536 ^ (a + b) := by
  rw [Int.pow_add]
  have h1 : x * y ≤ x * 65536 ^ b := Int.mul_le_mul_of_nonneg_left (by omega) hx0
  have h2 : x * 65536 ^ b < 65536 ^ a * 65536 ^ b := Int.mul_lt_mul_of_pos_right hx (Int.pow_pos (by omega))
  omega
theorem frac_pow {b : Int} {j : Nat} (h : 0 < b) (e : b = 2 ^ j / 2) : ∃ i, j = i + 1 ∧ b = 2 ^ i := by
  cases j with
  | zero => simp at e; omega
  | succ i => exact ⟨i, rfl, by rw [e, Int.pow_succ]; omega⟩
theorem frac_half {b : Int} {j : Nat} (h : 0 < b) (e : b = 2 ^ j / 2) : Hid (b / 2 = 2 ^ (j - 1) / 2) := by
  obtain ⟨i, rfl, rfl⟩ := frac_pow h e
  exact Hid.mk rfl
theorem frac_no {x v b : Int} {n j : Nat} (h : 0 < b) (e : b = 2 ^ j / 2) (hc : x < (v + b) ^ n) : fracB x n j v = fracB x n (j - 1) v := by
  obtain ⟨i, rfl, rfl⟩ := frac_pow h e
  rw [fracB, if_pos hc, Nat.add_sub_cancel]
theorem frac_yes {x v b : Int} {n j : Nat} (h : 0 < b) (e : b = 2 ^ j / 2) (hc : ¬ x < (v + b) ^ n) : fracB x n j v = fracB x n (j - 1) (v + b) := by
  obtain ⟨i, rfl, rfl⟩ := frac_pow h e
  rw [fracB, if_neg hc, Nat.add_sub_cancel]
theorem frac_end {b x v : Int} {n j : Nat} (h : b = 0) (e : b = 2 ^ j / 2) : fracB x n j v = v := by
  cases j with
  | zero => rfl
  | succ i =>
    have h1 : (0 : Int) < 2 ^ i := Int.pow_pos (by omega)
    rw [Int.pow_succ] at e; omega
theorem num_pos_len {n : Nat} {f : Nat → Int} (h : 0 < dval n f) : 0 < n := by
  by_cases e : n = 0
  · subst e; simp [dval] at h
  · omega
set_option maxHeartbeats 4000000 in
theorem fraction_any (p : Int) (n : Nat) (hp : 2 ≤ p ∧ p ≤ 1000) (hn : 2 ≤ n ∧ n ≤ 3) (w : World) :
    Calls Tryz.prog 24 #[.int .i64 p, .int .i64 (n : Int)] w fun e w' => e = .returned (.int .i64 (frac p n)) ∧ Below w.heap.size w w' := by
  have hn1 : (n : Int) ≤ 3 := by omega
  have hn2 : (2 : Int) ≤ n := by omega
  go_enter Tryz.func24, Tryz.ntmps24
  go_wp2_with (go_at_call 49; refine (int_any p (by omega) (by omega) _).mono ?_; rintro e wp ⟨vp, rfl, hq, hbp⟩)
  go_loopw [5, 6] (fun v i wr => ∃ (k : Nat) (x : Int), k ≤ 2 * n ∧ i = .int .i64 k ∧ IsNum wr v x ∧ 0 < x ∧ x < 65536 ^ (1 + k) ∧ Hid (x = p * 65536 ^ k) ∧ Below w.heap.size w wr) (fun _ i _ => 2 * n - (intOf i).toNat)
  case atStart => exact ⟨0, p, by omega, rfl, hq, by omega, by simp; omega, Hid.mk (by simp), hbp⟩
  case round =>
    clear hq hbp
    obtain ⟨k, x, hk, rfl, hx, hx0, hxl, HXV, hbel⟩ := hrel
    have hbs := hbel.size
    have HXL : Hid (x < 65536 ^ (1 + k)) := hxl
    clear hxl
    by_cases hlt : k < 2 * n
    · have c1 : (k : Int) < 2 * n := by omega
      obtain ⟨m, f, ⟨ao, cap, g, rfl, hc1, ha1, hx1⟩, dg, tr, hv⟩ := hx
      have hm : 0 < m := num_pos_len (by rw [hv]; exact hx0)
      obtain rfl := ha1 hm
      have hm2 : m ≤ 1 + k := trim_len dg tr (by rw [hv]; exact HXL.out)
      have HV : Hid _ := hv
      clear hv ha1
      go_wp2_with (refine wpl_appendN nums rfl _ _ rfl w.heap.size _ 1 (fun _ => 0) rfl ?_ g m cap f rfl ?_ (by omega) ?_ ?_; (focus (exact own_one _ _ _ hbs _ _)); (focus (intro i hi; rw [World.cell?_alloc_lt _ _ _ (World.block_lt_of_cell? wr _ (hx1 i hi))]; exact hx1 i hi)); (focus (simp; omega)); intro v' w' hown' hbel' hsz')
      go_roundw
      case rel =>
        refine ⟨k + 1, 65536 * x, by omega, by go_num, ?_, by omega, ?_, Hid.mk (by rw [HXV.out, Int.pow_succ]; grind), hbel' _ (hbel.alloc hbs _)⟩
        · rw [← HV.out]; exact shift_num hown' dg tr hm
        · have := HXL.out
          rw [show 1 + (k + 1) = (1 + k) + 1 by omega, Int.pow_succ]; omega
      case measure => simp [intOf]; omega
    · have hk' : k = 2 * n := by omega
      subst hk'
      have hx1000 : Hid (x < 65536 ^ 1000) := Int.lt_of_lt_of_le HXL.out (pow_mono (by omega))
      clear HXL
      rw [show ((2 * n : Nat) : Int) = 2 * (n : Int) by omega]
      go_wp2
      go_loopw [7, 8, 9, 10, 11, 12] (fun a b _ _ _ _ wq => ∃ (v b' : Int) (j : Nat), Hid (b' = 2 ^ j / 2) ∧ Hid (fracB x n j v = fracB x n 37 0) ∧ 0 ≤ v ∧ 0 ≤ b' ∧ v + 2 * b' ≤ 137438953472 ∧ a = .int .i64 v ∧ b = .int .i64 b' ∧ IsNum wq u5 x ∧ Below w.heap.size w wq) (fun _ b _ _ _ _ _ => (intOf b).toNat)
      case atStart => exact ⟨0, _, 37, Hid.mk (by decide), Hid.mk rfl, by omega, by omega, by omega, rfl, rfl, hx, hbel⟩
      case round =>
        clear hx hbel hbs
        obtain ⟨v, b, j, HB, HF, hv0, hb0, hvb, rfl, rfl, hx, hbel⟩ := hrel
        have hbs := hbel.size
        by_cases hb1 : 0 < b
        · go_wp2_with (go_at_call 49; refine (int_any (v + b) (by omega) (by omega) _).mono ?_; rintro e wi ⟨vi, rfl, hi, hbi⟩)
          have hi3 : Hid (v + b < 65536 ^ 3) := by
            have : (65536 : Int) ^ 3 = 281474976710656 := by decide
            show _ < _
            rw [this]; omega
          replace hx := hx.below hbi
          replace hbel := below_lift hbel hbs hbi
          clear hbi hbs
          go_loopw [10, 11] (fun vy i wq => ∃ (k : Nat) (y : Int), 1 ≤ k ∧ k ≤ n ∧ i = .int .i64 k ∧ IsNum wq vy y ∧ 0 ≤ y ∧ Hid (y < 65536 ^ (3 * k)) ∧ Hid (y = (v + b) ^ k) ∧ IsNum wq vi (v + b) ∧ IsNum wq u5 x ∧ Below w.heap.size w wq) (fun _ i _ => n - (intOf i).toNat)
          case atStart => exact ⟨1, v + b, by omega, by omega, rfl, hi, by omega, hi3, Hid.mk (by rw [Int.pow_succ, Int.pow_zero, Int.one_mul]), hi, hx, hbel⟩
          case round =>
            clear hi hx hbel
            obtain ⟨k, y, hk1, hkn, rfl, hy, hy0, HY, HYV, hi, hx, hbel⟩ := hrel
            have hbs := hbel.size
            by_cases hlt : k < n
            · have c1 : (k : Int) < n := by omega
              go_wp2_with (go_at_call 50; refine (rtimes_any hy hi ?_ ?_).mono ?_; (focus (exact Int.lt_of_lt_of_le HY.out (pow_mono (by omega)))); (focus (exact Int.lt_of_lt_of_le hi3.out (pow_mono (by omega)))); rintro e wt ⟨vt, rfl, ht, hbt⟩)
              go_roundw
              case rel => exact ⟨k + 1, _, by omega, by omega, by go_num, ht, Int.mul_nonneg hy0 (by omega), mul_lt_pow hy0 HY.out hi3.out, Hid.mk (by rw [HYV.out, Int.pow_succ]), hi.below hbt, hx.below hbt, below_lift hbel hbs hbt⟩
              case measure => simp [intOf]; omega
            · have hk' : k = n := by omega
              subst hk'
              have HY2 : Hid (y < 65536 ^ 1000) := Int.lt_of_lt_of_le HY.out (pow_mono (by omega))
              clear HY
              by_cases hc : x < y
              · have hcd : decide (x < y) = true := decide_eq_true hc
                go_wp2_with (go_at_call 51; refine (less_any hx hy hx1000.out HY2.out).mono ?_; rintro e wl ⟨rfl, hbl⟩; rw [hcd])
                go_roundw
                case rel => exact ⟨v, b / 2, j - 1, frac_half hb1 HB.out, Hid.mk (by rw [← HF.out]; exact (frac_no hb1 HB.out (by rw [← HYV.out]; exact hc)).symm), by omega, by omega, by omega, rfl, rfl, hx.below hbl, below_lift hbel hbs hbl⟩
                case measure => simp [intOf]; omega
              · have hcd : decide (x < y) = false := decide_eq_false hc
                go_wp2_with (go_at_call 51; refine (less_any hx hy hx1000.out HY2.out).mono ?_; rintro e wl ⟨rfl, hbl⟩; rw [hcd])
                go_roundw
                case rel => exact ⟨v + b, b / 2, j - 1, frac_half hb1 HB.out, Hid.mk (by rw [← HF.out]; exact (frac_yes hb1 HB.out (by rw [← HYV.out]; omega)).symm), by omega, by omega, by omega, rfl, rfl, hx.below hbl, below_lift hbel hbs hbl⟩
                case measure => simp [intOf]; omega
        · have c1 : b = 0 := by omega
          have hv : v = fracB x n 37 0 := by rw [← HF.out, frac_end c1 HB.out]
          have hr : v % 4294967296 = frac p n := by rw [hv, HXV.out]; rfl
          have HR : Hid _ := hr
          clear hr hv
          go_wp2
          go_ret
          exact ⟨congrArg (fun z => Ending.returned (Value.int IntKind.i64 z)) HR.out, hbel⟩
end Go.Proofs.YteghoooelgcpkabGreatDoor
namespace Go.Proofs.YteghoooelgcpkabGreatDoor
open Go.RowKit Go.Msg
def Agr (n : Nat) (c f : Nat → Int) : Prop := ∀ i, i < n → f i = c i
theorem Agr.snoc {n : Nat} {c f : Nat → Int} (h : Agr n c f) {z : Int} (hz : z = c n) : Agr (n + 1) c (upd f n z) := fun i hi => by
  by_cases e : i = n
  · subst e; simp only [upd, if_true]; exact hz
  · simp only [upd, e, if_false]; exact h i (by omega)
theorem own_below {w w' : World} {B e : Nat} {v : Value} {n : Nat} {xs : List Value} (h : w.ownsRow B e 1 v n xs) (hb : Below w.heap.size w w') : w'.ownsRow B e 1 v n xs := by
  refine ⟨h.1, ?_⟩
  rcases h.2 with hn | ⟨g, cap, cur, rfl, hg, hh, rest⟩
  · exact Or.inl hn
  · exact Or.inr ⟨g, cap, cur, rfl, hg, by rw [hb.block g (Array.getElem?_eq_some_iff.1 hh).1]; exact hh, rest⟩
theorem own_some {w : World} {B e : Nat} {v : Value} {n : Nat} {xs : List Value} (h : w.ownsRow B e 1 v n xs) (hn : 0 < n) : ∃ g cap, v = .slice (some ⟨g, 0, none⟩) n cap := by
  rcases h.2 with h0 | ⟨g, cap, cur, rfl, _⟩
  · omega
  · exact ⟨g, cap, rfl⟩
theorem own_set {w : World} {B e : Nat} {v : Value} {n : Nat} {xs : List Value} (h : w.ownsRow B e 1 v n xs) (a : Addr) (u : Value) (ha : a.block < B) : (w.setCell a u).ownsRow B e 1 v n xs := by
  refine ⟨h.1, ?_⟩
  rcases h.2 with hn | ⟨g, cap, cur, rfl, hg, hh, rest⟩
  · exact Or.inl hn
  · exact Or.inr ⟨g, cap, cur, rfl, hg, by rw [Below.heap_setCell w a u g (by omega)]; exact hh, rest⟩
def PrimAt (w : World) (v : Value) : Prop := ∃ g vk vh, v = .pointer (some ⟨g, 0, none⟩) ∧ w.cell? ⟨g, 0, none⟩ = some vk ∧ w.cell? ⟨g, 1, none⟩ = some vh ∧ NumAt w vk 64 Kc ∧ NumAt w vh 8 Hc
theorem PrimAt.below {w w' : World} {v : Value} (h : PrimAt w v) (hb : Below w.heap.size w w') : PrimAt w' v := by
  obtain ⟨g, vk, vh, h1, h2, h3, h4, h5⟩ := h
  exact ⟨g, vk, vh, h1, by rw [hb.cell (World.block_lt_of_cell? w _ h2)]; exact h2, by rw [hb.cell (World.block_lt_of_cell? w _ h3)]; exact h3, h4.below hb, h5.below hb⟩
set_option maxHeartbeats 4000000 in
theorem constants_any (w : World) : Calls Tryz.prog 10 #[] w fun e w' => ∃ v, e = .returned v ∧ PrimAt w' v ∧ Below w.heap.size w w' := by
  go_enter Tryz.func10, Tryz.ntmps10
  go_wp2_with (go_at_call 23; refine (primes_any _).mono ?_; rintro e wp ⟨vl, rfl, hl, hbp⟩)
  obtain ⟨fl, hfl⟩ : ∃ f, f = prm := ⟨_, rfl⟩
  rw [← hfl] at hl
  have hlb : ∀ i, i < 64 → 2 ≤ fl i ∧ fl i ≤ 1000 := by rw [hfl]; exact prm_bd
  have HFL : Hid (fl = prm) := hfl
  clear hfl
  have k0 : wp.cell? ⟨w.heap.size, 0, none⟩ = some (.slice none 0 0) := by rw [hbp.cell (by simp)]; simp [go_sem]
  have k1 : wp.cell? ⟨w.heap.size, 1, none⟩ = some (.slice none 0 0) := by rw [hbp.cell (by simp)]; simp [go_sem]
  have z0 : wp.frozen? ⟨w.heap.size, 0, none⟩ = false := by rw [hbp.frozen (by simp)]; simp [go_sem]
  have z1 : wp.frozen? ⟨w.heap.size, 1, none⟩ = false := by rw [hbp.frozen (by simp)]; simp [go_sem]
  have hz : w.heap.size + 1 ≤ wp.heap.size := by have := hbp.size; simp at this; exact this
  have hB := below_lift (by_alloc w _) (by simp) hbp
  clear hbp
  obtain ⟨ao, cap, gl, rfl, hc1, ha1, hx1⟩ := hl
  obtain rfl := ha1 (by omega)
  have hgl : gl < wp.heap.size := World.block_lt_of_cell? wp _ (hx1 0 (by omega))
  have hgl2 : gl ≠ w.heap.size := fun e => by
    have := hx1 0 (by omega)
    rw [e, k0] at this; exact absurd this (by simp)
  have HL : Hid _ := hlb
  have HX : Hid _ := hx1
  clear hlb hx1 ha1
  have HG : Hid (gl ≠ w.heap.size) := hgl2
  clear hgl2
  go_loopw [3, 4] (fun i _ wr => ∃ (k : Nat) (vk : Value) (f : Nat → Int), k ≤ 64 ∧ i = .int .i64 k ∧ wr.ownsRow wp.heap.size 3 1 vk k (ints .i64 k f) ∧ Agr k Kc f ∧ wr.cell? ⟨w.heap.size, 0, none⟩ = some vk ∧ wr.cell? ⟨w.heap.size, 1, none⟩ = some (.slice none 0 0) ∧ wr.frozen? ⟨w.heap.size, 0, none⟩ = false ∧ wr.frozen? ⟨w.heap.size, 1, none⟩ = false ∧ Hid (∀ i, i < 64 → wr.cell? ⟨gl, i, none⟩ = some (.int .i64 (fl i))) ∧ Below w.heap.size w wr ∧ wp.heap.size ≤ wr.heap.size) (fun i _ _ => 64 - (intOf i).toNat)
  case atStart => exact ⟨0, _, fun _ => 0, by omega, rfl, World.ownsRow_nil _ _ _ _, fun i hi => by omega, k0, k1, z0, z1, HX, hB, Nat.le_refl _⟩
  case round =>
    clear k0 k1 z0 z1 hB HX
    obtain ⟨k, v0, f, hk, rfl, hown, hw, k0, k1, z0, z1, HX, hB, hzr⟩ := hrel
    have hs0 := hB.size
    have hv1 : Hid (∃ v1, v1 = Value.slice none 0 0) := ⟨_, rfl⟩
    by_cases hlt : k < 64
    · have c1 : (k : Int) < 64 := by omega
      have y1 := HX.out k hlt
      obtain ⟨v1, hv1⟩ := hv1.out
      rw [← hv1] at k1
      go_wp2_with (first
        | (go_at_call 24; refine (fraction_any (fl k) 3 (HL.out k (by omega)) (by omega) _).mono ?_; rintro e wf ⟨rfl, hbf⟩; obtain ⟨r, hr⟩ : ∃ r, r = frac (fl k) 3 := ⟨_, rfl⟩; rw [← hr]; have HR : Hid (r = Kc k) := (by rw [hr, HFL.out]; rfl); clear hr; have k0' : wf.cell? ⟨w.heap.size, 0, none⟩ = some v0 := (by rw [hbf.cell (by simp; omega)]; exact k0); have k1' : wf.cell? ⟨w.heap.size, 1, none⟩ = some v1 := (by rw [hbf.cell (by simp; omega)]; exact k1); have z0' : wf.frozen? ⟨w.heap.size, 0, none⟩ = false := (by rw [hbf.frozen (by simp; omega)]; exact z0); have z1' : wf.frozen? ⟨w.heap.size, 1, none⟩ = false := (by rw [hbf.frozen (by simp; omega)]; exact z1); have hs' := hbf.size; have hown' := own_below hown hbf; clear k0 k1 z0 z1 hown)
        | (refine wpl_append1 intS rfl _ _ rfl wp.heap.size _ k f rfl ?_ (wf.heap.size) r rfl ?_ (by omega) ?_ ?_; (focus (exact owns_alloc hown' _)); (focus (simp [go_sem]; done)); (focus (simp; omega)); intro v' w' hown2 hbel' hsz'; obtain ⟨g2, cap2, rfl⟩ := own_some hown2 (by omega); have hb1 := hbel' _ ((Below.refl wp.heap.size wf).alloc (by omega) (.cells #[.int .i64 r] 3)); have k0 : w'.cell? ⟨w.heap.size, 0, none⟩ = some v0 := (by rw [hb1.cell (by simp; omega)]; exact k0'); have k1 : w'.cell? ⟨w.heap.size, 1, none⟩ = some v1 := (by rw [hb1.cell (by simp; omega)]; exact k1'); have z0 : w'.frozen? ⟨w.heap.size, 0, none⟩ = false := (by rw [hb1.frozen (by simp; omega)]; exact z0'); have z1 : w'.frozen? ⟨w.heap.size, 1, none⟩ = false := (by rw [hb1.frozen (by simp; omega)]; exact z1')))
      go_roundw
      case rel =>
        have hw' : wp.heap.size ≤ w'.heap.size := by simp at hsz'; omega
        refine ⟨k + 1, _, _, by omega, by go_num, own_set hown2 _ _ (by simp; omega), hw.snoc HR.out, World.cell?_setCell_same _ _ _ k0, ?_, by simp [z0], by simp [z1], ?_, ?_, by simp; exact hw'⟩
        · rw [World.cell?_setCell_other _ _ _ _ (by simp), k1, hv1]
        · intro i hi
          rw [World.cell?_setCell_other _ _ _ _ (by simp; exact fun h => absurd h.symm HG.out), hb1.cell (by simp; omega), hbf.cell (by simp; omega)]
          exact HX.out i hi
        · exact Below.setCell ((below_lift hB hs0 hbf).trans (hb1.mono (by omega))) (by simp) _
      case measure => simp [intOf]; omega
    · have hk' : k = 64 := by omega
      subst hk'
      rw [show ((64 : Nat) : Int) = 64 from rfl]
      obtain ⟨gk, capk, rfl⟩ := own_some hown (by omega)
      have hnk := NumAt.of_owns hown
      obtain ⟨ao2, cap2, gk2, hvk, hck, hak, hxk⟩ := hnk
      have hao := hak (by omega)
      subst hao
      obtain ⟨rfl, rfl⟩ : gk = gk2 ∧ capk = cap2 := by simp at hvk; exact hvk
      obtain ⟨W1, hW1⟩ : ∃ W, W = wr := ⟨_, rfl⟩
      subst hW1
      have hgk : gk < W1.heap.size := World.block_lt_of_cell? W1 _ (hxk 0 (by omega))
      have hgk2 : gk ≠ w.heap.size := fun e => by
        have := hxk 0 (by omega)
        rw [e, k0] at this; exact absurd this (by simp)
      have HGK : Hid (gk ≠ w.heap.size) := hgk2
      have HXK : Hid _ := hxk
      have HW : Hid _ := hw
      have hck2 : Hid (64 ≤ capk) := hck
      obtain ⟨f0, hf0⟩ : ∃ g, g = f := ⟨_, rfl⟩
      subst hf0
      clear hgk2 hxk hak hck hvk hw hown hv1
      go_wp2
      go_loopw [5, 6] (fun i _ wr => ∃ (k : Nat) (vk : Value) (f : Nat → Int), k ≤ 8 ∧ i = .int .i64 k ∧ wr.ownsRow W1.heap.size 3 1 vk k (ints .i64 k f) ∧ Agr k Hc f ∧ wr.cell? ⟨w.heap.size, 0, none⟩ = some (.slice (some ⟨gk, 0, none⟩) 64 capk) ∧ wr.cell? ⟨w.heap.size, 1, none⟩ = some vk ∧ wr.frozen? ⟨w.heap.size, 0, none⟩ = false ∧ wr.frozen? ⟨w.heap.size, 1, none⟩ = false ∧ Hid (∀ i, i < 64 → wr.cell? ⟨gl, i, none⟩ = some (.int .i64 (fl i))) ∧ Hid (∀ i, i < 64 → wr.cell? ⟨gk, i, none⟩ = some (.int .i64 (f0 i))) ∧ Below w.heap.size w wr ∧ W1.heap.size ≤ wr.heap.size) (fun i _ _ => 8 - (intOf i).toNat)
      case atStart => exact ⟨0, _, fun _ => 0, by omega, rfl, World.ownsRow_nil _ _ _ _, fun i hi => by omega, k0, k1, z0, z1, HX, HXK, hB, Nat.le_refl _⟩
      case round =>
        clear k0 k1 z0 z1 hB HX HXK hs0
        obtain ⟨k, v1, f, hk, rfl, hown, hw, k0, k1, z0, z1, HX, HXK, hB, hzr2⟩ := hrel
        have hs0 := hB.size
        have hv0 : Hid (∃ v0, v0 = Value.slice (some ⟨gk, 0, none⟩) 64 capk) := ⟨_, rfl⟩
        by_cases hlt : k < 8
        · have c1 : (k : Int) < 8 := by omega
          have c2 : (k : Int) < 64 := by omega
          have y1 := HX.out k (by omega)
          obtain ⟨v0, hv0⟩ := hv0.out
          rw [← hv0] at k0
          go_wp2_with (first
            | (go_at_call 24; refine (fraction_any (fl k) 2 (HL.out k (by omega)) (by omega) _).mono ?_; rintro e wf ⟨rfl, hbf⟩; obtain ⟨r, hr⟩ : ∃ r, r = frac (fl k) 2 := ⟨_, rfl⟩; rw [← hr]; have HR : Hid (r = Hc k) := (by rw [hr, HFL.out]; rfl); clear hr; have k0' : wf.cell? ⟨w.heap.size, 0, none⟩ = some v0 := (by rw [hbf.cell (by simp; omega)]; exact k0); have k1' : wf.cell? ⟨w.heap.size, 1, none⟩ = some v1 := (by rw [hbf.cell (by simp; omega)]; exact k1); have z0' : wf.frozen? ⟨w.heap.size, 0, none⟩ = false := (by rw [hbf.frozen (by simp; omega)]; exact z0); have z1' : wf.frozen? ⟨w.heap.size, 1, none⟩ = false := (by rw [hbf.frozen (by simp; omega)]; exact z1); have hs' := hbf.size; have hown' := own_below hown hbf; clear k0 k1 z0 z1 hown)
            | (refine wpl_append1 intS rfl _ _ rfl W1.heap.size _ k f rfl ?_ (wf.heap.size) r rfl ?_ (by omega) ?_ ?_; (focus (exact owns_alloc hown' _)); (focus (simp [go_sem]; done)); (focus (simp; omega)); intro v' w' hown2 hbel' hsz'; obtain ⟨g2, cap2, rfl⟩ := own_some hown2 (by omega); have hb1 := hbel' _ ((Below.refl W1.heap.size wf).alloc (by omega) (.cells #[.int .i64 r] 3)); have k0 : w'.cell? ⟨w.heap.size, 0, none⟩ = some v0 := (by rw [hb1.cell (by simp; omega)]; exact k0'); have k1 : w'.cell? ⟨w.heap.size, 1, none⟩ = some v1 := (by rw [hb1.cell (by simp; omega)]; exact k1'); have z0 : w'.frozen? ⟨w.heap.size, 0, none⟩ = false := (by rw [hb1.frozen (by simp; omega)]; exact z0'); have z1 : w'.frozen? ⟨w.heap.size, 1, none⟩ = false := (by rw [hb1.frozen (by simp; omega)]; exact z1')))
          go_roundw
          case rel =>
            have hw' : W1.heap.size ≤ w'.heap.size := by simp at hsz'; omega
            refine ⟨k + 1, _, _, by omega, by go_num, own_set hown2 _ _ (by simp; omega), hw.snoc HR.out, ?_, World.cell?_setCell_same _ _ _ k1, by simp [z0], by simp [z1], ?_, ?_, ?_, by simp; exact hw'⟩
            · rw [World.cell?_setCell_other _ _ _ _ (by simp), k0, hv0]
            · intro i hi
              rw [World.cell?_setCell_other _ _ _ _ (by simp; exact fun h => absurd h.symm HG.out), hb1.cell (by simp; omega), hbf.cell (by simp; omega)]
              exact HX.out i hi
            · intro i hi
              rw [World.cell?_setCell_other _ _ _ _ (by simp; exact fun h => absurd h.symm HGK.out), hb1.cell (by simp; omega), hbf.cell (by simp; omega)]
              exact HXK.out i hi
            · exact Below.setCell ((below_lift hB hs0 hbf).trans (hb1.mono (by omega))) (by simp) _
          case measure => simp [intOf]; omega
        · have hk' : k = 8 := by omega
          subst hk'
          have HN : Hid _ := NumAt.of_owns hown
          have HW8 : Hid _ := hw
          clear hown hw hv0
          go_wp2
          go_ret
          exact ⟨_, rfl, ⟨w.heap.size, _, _, rfl, k0, k1, num_congr ⟨_, capk, gk, rfl, hck2.out, fun _ => rfl, HXK.out⟩ HW.out, num_congr HN.out HW8.out⟩, hB⟩
end Go.Proofs.YteghoooelgcpkabGreatDoor
