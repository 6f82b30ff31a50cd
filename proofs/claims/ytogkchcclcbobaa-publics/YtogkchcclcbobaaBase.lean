/- My own base for the walks over messenger: worlds with blocks of the call's own behind them, rows of integers as functions. -/
import Derived.WalkKit
import Derived.WalkSpells
import Derived.WalkLawsBesides
import Derived.Deep.MidRow
import Derived.Deep.WholeRow
namespace Go
open Go.RowKit

/-- The world with the count of draws set. -/
def World.dr (w : World) (d : Nat) : World := { w with drawn := d }
/-- The world with blocks laid behind it. -/
def World.exts (w : World) (bs : List Obj) : World := { w with heap := w.heap ++ bs.toArray }
/-- The cells of a block that is not frozen. -/
def World.rowOf (w : World) (g : Nat) : Array Value :=
  match w.heap[g]? with
  | some (.cells c _ (0, 0)) => c
  | _ => #[]

section
variable (w : World) (d n : Nat) (a : Addr) (v : Value) (o : Obj) (bs cs : List Obj)
@[go_sem] theorem World.cell?_dr : (w.dr d).cell? a = w.cell? a := rfl
@[go_sem] theorem World.frozen?_dr : (w.dr d).frozen? a = w.frozen? a := rfl
@[go_sem] theorem World.heap_dr : (w.dr d).heap = w.heap := rfl
@[go_sem] theorem World.tape_dr : (w.dr d).tape = w.tape := rfl
@[go_sem] theorem World.drawn_dr : (w.dr d).drawn = d := rfl
@[go_sem] theorem World.drew_dr : (w.dr d).drew = w.dr (d + 1) := rfl
@[go_sem] theorem World.drewN_dr : (w.dr d).drewN n = w.dr (d + n) := rfl
@[go_sem] theorem World.dr_dr (e : Nat) : (w.dr d).dr e = w.dr e := rfl
@[go_sem] theorem World.dr_drew : w.drew.dr d = w.dr d := rfl
@[go_sem] theorem World.dr_drewN : (w.drewN n).dr d = w.dr d := rfl
@[go_sem] theorem World.setCell_dr : (w.dr d).setCell a v = (w.setCell a v).dr d := rfl
@[go_sem] theorem World.alloc_dr : (w.dr d).alloc o = (w.alloc o).dr d := rfl
@[go_sem] theorem World.exts_dr : (w.dr d).exts bs = (w.exts bs).dr d := rfl
@[go_sem] theorem World.exts_drew : w.drew.exts bs = (w.exts bs).drew := rfl
@[go_sem] theorem World.exts_drewN : (w.drewN n).exts bs = (w.exts bs).drewN n := rfl
@[go_sem] theorem World.setCell_drewN : (w.drewN n).setCell a v = (w.setCell a v).drewN n := rfl
@[go_sem] theorem World.alloc_drewN : (w.drewN n).alloc o = (w.alloc o).drewN n := rfl
@[go_sem] theorem World.setRow_dr (g : Nat) (c : Array Value) : (w.dr d).setRow g c = (w.setRow g c).dr d := rfl
@[go_sem] theorem World.setRow_drewN (g : Nat) (c : Array Value) : (w.drewN n).setRow g c = (w.setRow g c).drewN n := rfl
@[go_sem] theorem World.setRow_drew (g : Nat) (c : Array Value) : w.drew.setRow g c = (w.setRow g c).drew := rfl
@[go_sem] theorem World.rowOf_dr (g : Nat) : (w.dr d).rowOf g = w.rowOf g := rfl
@[go_sem] theorem World.rowOf_drew (g : Nat) : w.drew.rowOf g = w.rowOf g := rfl
@[go_sem] theorem World.rowOf_drewN (g : Nat) : (w.drewN n).rowOf g = w.rowOf g := rfl
theorem World.dr_self : w.dr w.drawn = w := rfl
@[go_sem] theorem World.exts_nil : w.exts [] = w := by simp [World.exts]
@[go_sem] theorem World.size_exts : (w.exts bs).heap.size = w.heap.size + bs.length := by simp [World.exts]
theorem World.heap_exts_past (g : Nat) (h : g < w.heap.size) : (w.exts bs).heap[g]? = w.heap[g]? := by
  simp only [World.exts]; rw [Array.getElem?_append_left h]
@[go_sem] theorem World.cell?_exts_past (g i : Nat) (h : g < w.heap.size) : (w.exts bs).cell? ⟨g, i, none⟩ = w.cell? ⟨g, i, none⟩ := by
  simp only [World.cell?, World.heap_exts_past w bs g h]
@[go_sem] theorem World.frozen?_exts_past (g i : Nat) (h : g < w.heap.size) : (w.exts bs).frozen? ⟨g, i, none⟩ = w.frozen? ⟨g, i, none⟩ := by
  simp only [World.frozen?, World.heap_exts_past w bs g h]
@[go_sem] theorem World.rowOf_exts_past (g : Nat) (h : g < w.heap.size) : (w.exts bs).rowOf g = w.rowOf g := by
  simp only [World.rowOf, World.heap_exts_past w bs g h]
theorem World.modify_append (xs ys : Array Obj) (g : Nat) (f : Obj → Obj) (h : g < xs.size) : (xs ++ ys).modify g f = xs.modify g f ++ ys := by
  apply Array.ext_getElem?
  intro i
  by_cases hi : i < xs.size
  · rw [Array.getElem?_modify, Array.getElem?_append_left hi, Array.getElem?_append_left (by simpa using hi), Array.getElem?_modify]
  · rw [Array.getElem?_modify, Array.getElem?_append_right (by omega), Array.getElem?_append_right (by simpa using by omega), if_neg (by omega)]
    simp
@[go_sem] theorem World.setCell_exts_past (g i : Nat) (h : g < w.heap.size) : (w.exts bs).setCell ⟨g, i, none⟩ v = (w.setCell ⟨g, i, none⟩ v).exts bs := by
  simp only [World.setCell, World.exts]; rw [World.modify_append _ _ _ _ h]
@[go_sem] theorem World.setRow_exts_past (g : Nat) (c : Array Value) (h : g < w.heap.size) : (w.exts bs).setRow g c = (w.setRow g c).exts bs := by
  simp only [World.setRow, World.exts]; rw [World.modify_append _ _ _ _ h]
@[go_sem] theorem World.exts_exts : (w.exts bs).exts cs = w.exts (bs ++ cs) := by simp [World.exts]
theorem World.exts_alloc : (w.exts bs).alloc o = w.exts (bs ++ [o]) := by
  show ({ w with heap := (w.heap ++ bs.toArray).push o } : World) = { w with heap := w.heap ++ (bs ++ [o]).toArray }
  congr 1; apply Array.ext'; simp
theorem World.alloc_exts : w.alloc o = w.exts [o] := by
  show ({ w with heap := w.heap.push o } : World) = { w with heap := w.heap ++ [o].toArray }
  congr 1
@[go_sem] theorem World.rowOf_alloc_at (c : Array Value) (t : TypeId) (g : Nat) (h : g = w.heap.size) : (w.alloc (.cells c t)).rowOf g = c := by
  subst h; simp only [World.rowOf, World.alloc, Array.getElem?_push, if_true]
@[go_sem] theorem World.rowOf_alloc_past (g : Nat) (h : g < w.heap.size) : (w.alloc o).rowOf g = w.rowOf g := by
  simp only [World.rowOf, World.alloc, Array.getElem?_push]; rw [if_neg (by omega)]
@[go_sem] theorem World.setRow_alloc_at (c c' : Array Value) (t : TypeId) (g : Nat) (h : g = w.heap.size) : (w.alloc (.cells c t)).setRow g c' = w.alloc (.cells c' t) := by
  subst h; exact World.setRow_alloc_new w c c' t
@[go_sem] theorem World.setRow_alloc_past (g : Nat) (c : Array Value) (h : g < w.heap.size) : (w.alloc o).setRow g c = (w.setRow g c).alloc o := by
  rw [World.alloc_exts, World.alloc_exts, World.setRow_exts_past w [o] g c h]
end

/-- What is laid behind a world, and its count of draws: one name for both (a quiet walk's class speaks of ONE thing). -/
def behind (bs : List Obj) (d : Nat) : World := { (default : World) with heap := bs.toArray, drawn := d }
def World.ex (w : World) (q : World) : World := (w.exts q.heap.toList).dr q.drawn
section
variable (w : World) (q : World) (a : Addr) (v : Value)
theorem World.ex_behind (bs : List Obj) (d : Nat) : w.ex (behind bs d) = (w.exts bs).dr d := by simp [World.ex, behind]
@[go_sem] theorem World.tape_ex : (w.ex q).tape = w.tape := rfl
@[go_sem] theorem World.size_ex : (w.ex q).heap.size = w.heap.size + q.heap.size := by rw [← Array.length_toList]; exact World.size_exts w q.heap.toList
@[go_sem] theorem World.cell?_ex_past (g i : Nat) (h : g < w.heap.size) : (w.ex q).cell? ⟨g, i, none⟩ = w.cell? ⟨g, i, none⟩ := World.cell?_exts_past w q.heap.toList g i h
@[go_sem] theorem World.frozen?_ex_past (g i : Nat) (h : g < w.heap.size) : (w.ex q).frozen? ⟨g, i, none⟩ = w.frozen? ⟨g, i, none⟩ := World.frozen?_exts_past w q.heap.toList g i h
@[go_sem] theorem World.rowOf_ex_past (g : Nat) (h : g < w.heap.size) : (w.ex q).rowOf g = w.rowOf g := World.rowOf_exts_past w q.heap.toList g h
end

/-- What a call leaves that turns nothing old: as an equation. -/
theorem below_form {w w' : World} (h : Below w.heap.size w w') : ∃ bs d, w' = (w.exts bs).dr d := by
  refine ⟨(w'.heap.extract w.heap.size w'.heap.size).toList, w'.drawn, ?_⟩
  obtain ⟨h1, h2, h3, h4, h5⟩ := h
  cases w' with
  | mk heap tape drawn os output =>
    simp only at h1 h2 h3 h4 h5
    subst h1 h2 h3
    simp only [World.dr, World.exts, World.mk.injEq, and_true]
    apply Array.ext_getElem?
    intro i
    by_cases hi : i < w.heap.size
    · rw [Array.getElem?_append_left hi]; exact h5 i hi
    · rw [Array.getElem?_append_right (by omega)]
      simp only [Array.toArray_toList, Array.getElem?_extract]
      rw [show w.heap.size + (i - w.heap.size) = i by omega]
      by_cases h : i < heap.size
      · rw [if_pos (by omega)]
      · rw [if_neg (by omega)]; simp; omega
theorem below_form2 {w w' : World} {bs : List Obj} {n : Nat} (h : Below ((w.exts bs).dr n).heap.size ((w.exts bs).dr n) w') : ∃ bs' d, w' = (w.exts bs').dr d := by
  obtain ⟨cs, d, rfl⟩ := below_form h
  exact ⟨bs ++ cs, d, by rw [World.exts_dr, World.dr_dr, World.exts_exts]⟩
theorem below_ex {w w' : World} {q : World} (h : Below (w.ex q).heap.size (w.ex q) w') : ∃ q', w' = w.ex q' := by
  obtain ⟨bs', d, e⟩ := below_form2 h
  exact ⟨behind bs' d, by rw [World.ex_behind]; exact e⟩
theorem below_exts (w : World) (bs : List Obj) (d : Nat) : Below w.heap.size w ((w.exts bs).dr d) :=
  ⟨rfl, rfl, rfl, by simp [World.exts, World.dr], fun k hk => by rw [World.heap_dr]; exact World.heap_exts_past w bs k hk⟩
theorem below_dr {w w' : World} {B : Nat} (h : Below B w w') (d : Nat) : Below B w (w'.dr d) := ⟨h.os, h.tape, h.output, h.size, h.block⟩
theorem below_exts' {w w' : World} {B : Nat} (h : Below B w w') (hB : B ≤ w'.heap.size) (bs : List Obj) : Below B w (w'.exts bs) :=
  h.trans ⟨rfl, rfl, rfl, by simp [World.exts], fun k hk => World.heap_exts_past w' bs k (by omega)⟩

/-! ### rows as the walk meets them -/
theorem rowOf_heap {w : World} {g n : Nat} (h : (w.rowOf g).size = n) (hn : 0 < n) : ∃ t, w.heap[g]? = some (.cells (w.rowOf g) t (0, 0)) := by
  unfold World.rowOf at *
  split at h
  · rename_i c t hc; exact ⟨t, by rw [hc]⟩
  · simp at h; omega
/-- A type whose values lie in n cells of a row. -/
def RowTy (P : Program) (t n : Nat) : Prop := 0 < n ∧ (P.info? t).map (·.size) = some n ∧ ∃ d, P.underlying t = some d ∧ d.isRow = true
theorem run_load_row {P : Program} {t n : Nat} (ht : RowTy P t n) (w : World) (g : Nat) (h : (w.rowOf g).size = n) :
    (Instr.loadAt t (.pointer (some ⟨g, 0, none⟩))).run P w = .ok (.agg (w.rowOf g)) w := by
  obtain ⟨hn, hi, d, hu, hd⟩ := ht
  obtain ⟨t', hg⟩ := rowOf_heap h hn
  have hl := run_loadVar_row (P := P) w g t' t _ (0, 0) d hg hu (by cases d <;> first | rfl | simp [TypeDesc.isRow] at hd) (by rw [hi, h])
  simp only [Instr.loadAt, Instr.sureAddr, Sem.run_bind, Sem.run_pure, Result.andThen_ok, hl]
theorem run_store_row {P : Program} {t n : Nat} (ht : RowTy P t n) (w : World) (g : Nat) (c : Array Value) (h : (w.rowOf g).size = n) (hc : c.size = n) (h1 : c.all (·.oneCell') = true) :
    (Instr.storeAt t (.pointer (some ⟨g, 0, none⟩)) (.agg c)).run P w = .ok () (w.setRow g c) := by
  obtain ⟨hn, hi, d, hu, hd⟩ := ht
  obtain ⟨t', hg⟩ := rowOf_heap h hn
  simp only [Instr.storeAt, Instr.sureAddr, Sem.run_bind, Sem.run_pure, Result.andThen_ok]
  rw [run_storeVar_row w g t' t _ c hg (by rw [hi, hc]) (by rw [h, hc]) h1]
theorem wpl_load {P : Program} {t n : Nat} (ht : RowTy P t n) {ops : Array Oper} {rest : List Oper} {o : Oper} {a : Act} {w : World} {Q : Exit → Act → World → Prop} (hgd : o.guard = none) (x : Operand) (ho : o.op = .load t x)
    (g : Nat) (hx : a.eval x = .pointer (some ⟨g, 0, none⟩)) (c : Array Value) (hc : w.rowOf g = c) (hn : c.size = n)
    (h : wpList P ops Q rest (a.put o.dst (.agg c)) w) : wpList P ops Q (o :: rest) a w := by
  refine wpList_plain hgd fun _ hK => ?_
  unfold Oper.wp execOp
  simp only [ho, hx]
  rw [Sem.run_bind, run_load_row ht w g (by rw [hc, hn]), hc]
  exact hK _ _ h
theorem wpl_store {P : Program} {t n : Nat} (ht : RowTy P t n) {ops : Array Oper} {rest : List Oper} {o : Oper} {a : Act} {w : World} {Q : Exit → Act → World → Prop} (hgd : o.guard = none) (x y : Operand) (ho : o.op = .store t x y)
    (g : Nat) (hx : a.eval x = .pointer (some ⟨g, 0, none⟩)) (c : Array Value) (hy : a.eval y = .agg c) (hg : (w.rowOf g).size = n) (hn : c.size = n) (h1 : c.all (·.oneCell') = true) (w' : World) (hw : w.setRow g c = w')
    (h : wpList P ops Q rest (a.put o.dst undef) w') : wpList P ops Q (o :: rest) a w := by
  refine wpList_plain hgd fun _ hK => ?_
  unfold Oper.wp execOp
  simp only [ho, hx, hy]
  rw [Sem.run_bind, run_store_row ht w g c hg hn h1, hw]
  exact hK _ _ h
theorem results_row {P : Program} {fn : Func} {p : Tmp} {t n : Nat} (ht : RowTy P t n) (hr : fn.results = #[.cell p t]) (tmps : Array Value) (w : World) (g : Nat)
    (hp : tmps.getD p undef = .pointer (some ⟨g, 0, none⟩)) (h : (w.rowOf g).size = n) : (results fn tmps).run P w = .ok (.agg (w.rowOf g)) w := by
  obtain ⟨hn, hi, d, hu, hd⟩ := ht
  obtain ⟨t', hg⟩ := rowOf_heap h hn
  exact results_cell_row hr tmps w g t' _ (0, 0) d hp hg hu (by cases d <;> first | rfl | simp [TypeDesc.isRow] at hd) (by rw [hi, h])

/-! ### rows of integers, as functions -/
def upd (f : Nat → Int) (i : Nat) (z : Int) : Nat → Int := fun j => if j = i then z else f j
@[go_sem] theorem upd_same (f : Nat → Int) (i : Nat) (z : Int) : upd f i z i = z := by simp [upd]
@[go_sem] theorem upd_ne (f : Nat → Int) (i j : Nat) (z : Int) (h : j ≠ i) : upd f i z j = f j := by simp [upd, h]
def tabFrom (k : IntKind) (n : Nat) (f : Nat → Int) (i : Nat) : List Value := if i < n then .int k (f i) :: tabFrom k n f (i + 1) else []
/-- (By a definition that does not unfold by itself: two such rows are compared by their functions alone.) -/
def tab (k : IntKind) (n : Nat) (f : Nat → Int) : Array Value := (tabFrom k n f 0).toArray
theorem tabFrom_eq (k : IntKind) (f : Nat → Int) (m n i : Nat) (h : n = i + m) : tabFrom k n f i = (List.range' i m).map fun j => Value.int k (f j) := by
  induction m generalizing i with
  | zero => rw [tabFrom]; simp; omega
  | succ m ih => rw [tabFrom, if_pos (by omega), ih (i + 1) (by omega)]; rfl
theorem tab_eq (k : IntKind) (n : Nat) (f : Nat → Int) : tab k n f = ((List.range n).map fun i => Value.int k (f i)).toArray := by
  unfold tab; rw [tabFrom_eq k f n n 0 (by omega), List.range_eq_range']
@[go_sem] theorem tab_size (k : IntKind) (n : Nat) (f : Nat → Int) : (tab k n f).size = n := by simp [tab_eq]
@[go_sem] theorem tab_get (k : IntKind) (n : Nat) (f : Nat → Int) (i : Nat) (h : i < n) : (tab k n f)[i]? = some (.int k (f i)) := by simp [tab_eq, h]
@[go_sem] theorem tab_set (k : IntKind) (n : Nat) (f : Nat → Int) (i : Nat) (z : Int) : (tab k n f).setIfInBounds i (.int k z) = tab k n (upd f i z) := by
  apply Array.ext_getElem?
  intro j
  rw [Array.getElem?_setIfInBounds]
  by_cases hj : j < n
  · rw [tab_get k n _ j hj, tab_get k n _ j hj]
    by_cases hij : i = j
    · subst hij; simp [upd, tab_size, hj]
    · have : ¬ j = i := fun e => hij e.symm
      simp [upd, hij, this]
  · have h1 : ∀ g, (tab k n g)[j]? = none := fun g => by simp [tab_eq]; omega
    rw [h1, h1]
    by_cases hij : i = j
    · subst hij; simp [tab_size, hj]
    · simp [hij]
@[go_sem] theorem tab_all (k : IntKind) (n : Nat) (f : Nat → Int) : (tab k n f).all (·.oneCell') = true := by
  simp [tab_eq, Value.oneCell']
@[simp, go_sem] theorem tab_getElem (k : IntKind) (n : Nat) (f : Nat → Int) (i : Nat) (h : i < (tab k n f).size) : (tab k n f)[i] = .int k (f i) := by simp [tab_eq]
theorem tab_congr {k : IntKind} {n : Nat} {f g : Nat → Int} (h : ∀ i, i < n → f i = g i) : tab k n f = tab k n g := by
  rw [tab_eq, tab_eq]; congr 1; apply List.map_congr_left; intro i hi; rw [h i (by simpa using hi)]
end Go
