/- Rows in worlds that are letters; a part of a row read and written. -/
import Derived.Test.YtogkchcclcbobaaBase
namespace Go
open Go.RowKit

theorem rowOf_lt {w : World} {g : Nat} (h : 0 < (w.rowOf g).size) : g < w.heap.size := by
  obtain ⟨t, ht⟩ := rowOf_heap (w := w) (g := g) rfl h
  exact (Array.getElem?_eq_some_iff.1 ht).1
theorem rowOf_block {w : World} {g : Nat} {c : Array Value} {t : TypeId} (h : w.heap[g]? = some (.cells c t (0, 0))) : w.rowOf g = c := by simp [World.rowOf, h]
theorem below_row {V V' : World} (h : Below V.heap.size V V') {g : Nat} (hs : 0 < (V.rowOf g).size) : V'.rowOf g = V.rowOf g := by
  simp only [World.rowOf, h.block g (rowOf_lt hs)]
theorem rowOf_setRow_same {w : World} {g : Nat} {c : Array Value} (h : 0 < (w.rowOf g).size) : (w.setRow g c).rowOf g = c := by
  obtain ⟨t, ht⟩ := rowOf_heap (w := w) (g := g) rfl h
  exact rowOf_block (setRow_heap w g _ c t (0, 0) ht)
theorem rowOf_setRow_other {w : World} {g k : Nat} {c : Array Value} (h : k ≠ g) : (w.setRow g c).rowOf k = w.rowOf k := by
  simp only [World.rowOf, setRow_other w g k c h]
theorem below_setRow {B : Nat} {w V : World} (h : Below B w V) {g : Nat} (hg : B ≤ g) (c : Array Value) : Below B w (V.setRow g c) :=
  h.trans ⟨rfl, rfl, rfl, by simp [World.setRow], fun k hk => setRow_other V g k c (by omega)⟩
theorem below_lift {B : Nat} {w V V' : World} (h : Below B w V) (hB : B ≤ V.heap.size) (h2 : Below V.heap.size V V') : Below B w V' := h.trans (h2.mono hB)

/-- All these rows lie in the world. -/
def Rowz (V : World) (l : List (Nat × Array Value)) : Prop := ∀ p ∈ l, V.rowOf p.1 = p.2 ∧ 0 < p.2.size
theorem Rowz.nil (V : World) : Rowz V [] := fun p h => by cases h
theorem Rowz.cons {V : World} {g : Nat} {c : Array Value} {l : List (Nat × Array Value)} (h : V.rowOf g = c) (hc : 0 < c.size) (hl : Rowz V l) : Rowz V ((g, c) :: l) := fun p hp => by
  rcases List.mem_cons.1 hp with rfl | hp
  · exact ⟨h, hc⟩
  · exact hl p hp
theorem Rowz.below {V V' : World} {l : List (Nat × Array Value)} (h : Rowz V l) (hb : Below V.heap.size V V') : Rowz V' l := fun p hp => by
  obtain ⟨h1, h2⟩ := h p hp
  exact ⟨by rw [below_row hb (by rw [h1]; exact h2), h1], h2⟩
theorem Rowz.alloc {V : World} {l : List (Nat × Array Value)} (h : Rowz V l) (c : Array Value) (t : TypeId) (hc : 0 < c.size) : Rowz (V.alloc (.cells c t)) ((V.heap.size, c) :: l) := by
  refine Rowz.cons (World.rowOf_alloc_at V c t _ rfl) hc fun p hp => ?_
  obtain ⟨h1, h2⟩ := h p hp
  exact ⟨by rw [World.rowOf_alloc_past V _ _ (rowOf_lt (by rw [h1]; exact h2)), h1], h2⟩
theorem Rowz.setRow {V : World} {l : List (Nat × Array Value)} (h : Rowz V l) (g : Nat) (c c0 : Array Value) (hc : 0 < c.size) (hg : V.rowOf g = c0) (h0 : 0 < c0.size) (hne : ∀ p ∈ l, p.1 ≠ g) : Rowz (V.setRow g c) ((g, c) :: l) := by
  refine Rowz.cons (rowOf_setRow_same (by rw [hg]; exact h0)) hc fun p hp => ?_
  obtain ⟨h1, h2⟩ := h p hp
  exact ⟨by rw [rowOf_setRow_other (hne p hp), h1], h2⟩
theorem Rowz.sub {V : World} {l m : List (Nat × Array Value)} (h : Rowz V l) (hm : ∀ p ∈ m, p ∈ l) : Rowz V m := fun p hp => h p (hm p hp)

/-! ### a part of a row -/
theorem cell_of_rowOf {w : World} {g : Nat} {c : Array Value} (h : w.rowOf g = c) (i : Nat) (hi : i < c.size) : w.cell? ⟨g, i, none⟩ = c[i]? ∧ w.frozen? ⟨g, i, none⟩ = false := by
  obtain ⟨t, ht⟩ := rowOf_heap (w := w) (g := g) rfl (by rw [h]; omega)
  rw [h] at ht
  exact ⟨cell_of_row w g i c t (0, 0) ht, frozen_of_row w g i c t ht⟩
theorem run_load_seg {P : Program} {t n : Nat} (ht : RowTy P t n) (w : World) (g o : Nat) (k : IntKind) (N : Nat) (F : Nat → Int) (h : w.rowOf g = tab k N F) (ho : o + n ≤ N) :
    (Instr.loadAt t (.pointer (some ⟨g, o, none⟩))).run P w = .ok (.agg (tab k n (fun i => F (o + i)))) w := by
  obtain ⟨hn, hi, d, hu, hd⟩ := ht
  have := run_loadAt_mid (P := P) w g o t (tab k n (fun i => F (o + i))).toList d (fun j v hv => by
    have hj : j < n := by have := (List.getElem?_eq_some_iff.1 hv).1; simpa [tab_size] using this
    have e : (tab k n (fun i => F (o + i)))[j]? = some v := by simpa using hv
    rw [tab_get k n _ j hj] at e
    rw [(cell_of_rowOf h (o + j) (by rw [tab_size]; omega)).1, tab_get k N F (o + j) (by omega)]; exact e) hu hd (by rw [hi]; simp [tab_size])
  simpa using this
/-- A row with a part of another laid in. -/
def splice (F : Nat → Int) (o n : Nat) (x : Nat → Int) : Nat → Int := fun j => if o ≤ j ∧ j < o + n then x (j - o) else F j
theorem setCells_row (g : Nat) (k : IntKind) (N : Nat) : ∀ (m o : Nat) (w : World) (F x : Nat → Int), w.rowOf g = tab k N F → o + m ≤ N → 0 < N →
    w.setCells g o ((List.range m).map fun i => Value.int k (x i)) = w.setRow g (tab k N (splice F o m x)) := by
  intro m
  induction m with
  | zero =>
    intro o w F x h ho hN
    obtain ⟨t, ht⟩ := rowOf_heap (w := w) (g := g) rfl (by rw [h, tab_size]; exact hN)
    have e : splice F o 0 x = F := by funext j; simp [splice]; omega
    rw [e, ← h, show (List.range 0).map (fun i => Value.int k (x i)) = [] by rfl]
    show w = _
    exact (setRow_self w g _ t (0, 0) ht).symm
  | succ m ih =>
    intro o w F x h ho hN
    obtain ⟨t, ht⟩ := rowOf_heap (w := w) (g := g) rfl (by rw [h, tab_size]; exact hN)
    rw [List.range_succ_eq_map]
    simp only [List.map_cons, List.map_map]
    show (w.setCell ⟨g, o, none⟩ (.int k (x 0))).setCells g (o + 1) _ = _
    rw [setCell_eq_setRow w g o _ t (0, 0) _ ht, h, tab_set]
    have h2 : (w.setRow g (tab k N (upd F o (x 0)))).rowOf g = tab k N (upd F o (x 0)) := rowOf_setRow_same (by rw [h, tab_size]; exact hN)
    have := ih (o + 1) _ (upd F o (x 0)) (fun i => x (i + 1)) h2 (by omega) hN
    rw [show (List.range m).map ((fun i => Value.int k (x i)) ∘ Nat.succ) = (List.range m).map (fun i => Value.int k (x (i + 1))) by rfl, this, setRow_setRow]
    congr 1
    refine tab_congr fun j _ => ?_
    unfold splice upd
    by_cases e1 : o + 1 ≤ j ∧ j < o + 1 + m
    · rw [if_pos e1, if_pos (by omega)]; show x (j - (o + 1) + 1) = x (j - o); congr 1; omega
    · rw [if_neg e1]
      by_cases e2 : j = o
      · subst e2; rw [if_pos rfl, if_pos (by omega)]; simp
      · rw [if_neg e2, if_neg (by omega)]
theorem run_store_seg {P : Program} {t n : Nat} (ht : RowTy P t n) (w : World) (g o : Nat) (k : IntKind) (N : Nat) (F x : Nat → Int) (h : w.rowOf g = tab k N F) (ho : o + n ≤ N) :
    (Instr.storeAt t (.pointer (some ⟨g, o, none⟩)) (.agg (tab k n x))).run P w = .ok () (w.setRow g (tab k N (splice F o n x))) := by
  obtain ⟨hn, hi, d, hu, hd⟩ := ht
  rw [run_storeAt_mid (P := P) w g o t (tab k n x) (fun j hj => by
    rw [tab_size] at hj
    have := cell_of_rowOf h (o + j) (by rw [tab_size]; omega)
    rw [this.1, this.2, tab_get k N F (o + j) (by omega)]; exact ⟨rfl, rfl⟩) (by rw [hi, tab_size]) (tab_all _ _ _)]
  rw [tab_eq k n x, List.toList_toArray, setCells_row g k N n o w F x h ho (by omega)]
theorem wpl_load_seg {P : Program} {t n : Nat} (ht : RowTy P t n) {ops : Array Oper} {rest : List Oper} {op : Oper} {a : Act} {w : World} {Q : Exit → Act → World → Prop} (hgd : op.guard = none) (x : Operand) (hop : op.op = .load t x)
    (g o : Nat) (hx : a.eval x = .pointer (some ⟨g, o, none⟩)) (k : IntKind) (N : Nat) (F : Nat → Int) (hc : w.rowOf g = tab k N F) (ho : o + n ≤ N)
    (h : wpList P ops Q rest (a.put op.dst (.agg (tab k n (fun i => F (o + i))))) w) : wpList P ops Q (op :: rest) a w := by
  refine wpList_plain hgd fun _ hK => ?_
  unfold Oper.wp execOp
  simp only [hop, hx]
  rw [Sem.run_bind, run_load_seg ht w g o k N F hc ho]
  exact hK _ _ h
theorem wpl_store_seg {P : Program} {t n : Nat} (ht : RowTy P t n) {ops : Array Oper} {rest : List Oper} {op : Oper} {a : Act} {w : World} {Q : Exit → Act → World → Prop} (hgd : op.guard = none) (x y : Operand) (hop : op.op = .store t x y)
    (g o : Nat) (hx : a.eval x = .pointer (some ⟨g, o, none⟩)) (k : IntKind) (N : Nat) (F z : Nat → Int) (hy : a.eval y = .agg (tab k n z)) (hc : w.rowOf g = tab k N F) (ho : o + n ≤ N)
    (h : wpList P ops Q rest (a.put op.dst undef) (w.setRow g (tab k N (splice F o n z)))) : wpList P ops Q (op :: rest) a w := by
  refine wpList_plain hgd fun _ hK => ?_
  unfold Oper.wp execOp
  simp only [hop, hx, hy]
  rw [Sem.run_bind, run_store_seg ht w g o k N F z hc ho]
  exact hK _ _ h
end Go
