import Derived.WalkKit
import Derived.WalkSpells
import Derived.WalkLawsBesides
import Derived.Deep.MidRow
import Derived.Deep.WholeRow
import Derived.Laws.BytesArg
import Derived.Laws.IdiomStrings
import Derived.Laws.CopyRow
import Derived.StillTail
import Derived.Deep.Quiet
import Derived.BigQuiet
import Derived.Test.YteghoooelgcpkaaGreatDoorProg
namespace Go
open Go.RowKit
def World.dr (w : World) (d : Nat) : World := { w with drawn := d }
def World.exts (w : World) (bs : List Obj) : World := { w with heap := w.heap ++ bs.toArray }
def World.rowOf (w : World) (g : Nat) : Array Value :=
  match w.heap[g]? with
  | some (.cells c _ (0, 0)) => c
  | _ => #[]
section
variable (w : World) (d n : Nat) (a : Addr) (v : Value) (o : Obj) (bs cs : List Obj)
@[go_sem] theorem World.cell?_dr : (w.dr d).cell? a = w.cell? a := rfl
@[go_sem] theorem World.frozen?_dr : (w.dr d).frozen? a = w.frozen? a := rfl
@[go_sem] theorem World.heap_dr : (w.dr d).heap = w.heap := rfl
@[go_sem] theorem World.tape_dr : (w.dr d).tape = w.tape := rfl
@[go_sem] theorem World.drawn_dr : (w.dr d).drawn = d := rfl
@[go_sem] theorem World.drew_dr : (w.dr d).drew = w.dr (d + 1) := rfl
@[go_sem] theorem World.drewN_dr : (w.dr d).drewN n = w.dr (d + n) := rfl
@[go_sem] theorem World.dr_dr (e : Nat) : (w.dr d).dr e = w.dr e := rfl
@[go_sem] theorem World.dr_drew : w.drew.dr d = w.dr d := rfl
@[go_sem] theorem World.dr_drewN : (w.drewN n).dr d = w.dr d := rfl
@[go_sem] theorem World.setCell_dr : (w.dr d).setCell a v = (w.setCell a v).dr d := rfl
@[go_sem] theorem World.alloc_dr : (w.dr d).alloc o = (w.alloc o).dr d := rfl
@[go_sem] theorem World.exts_dr : (w.dr d).exts bs = (w.exts bs).dr d := rfl
@[go_sem] theorem World.exts_drew : w.drew.exts bs = (w.exts bs).drew := rfl
@[go_sem] theorem World.exts_drewN : (w.drewN n).exts bs = (w.exts bs).drewN n := rfl
@[go_sem] theorem World.setCell_drewN : (w.drewN n).setCell a v = (w.setCell a v).drewN n := rfl
@[go_sem] theorem World.alloc_drewN : (w.drewN n).alloc o = (w.alloc o).drewN n := rfl
@[go_sem] theorem World.setRow_dr (g : Nat) (c : Array Value) : (w.dr d).setRow g c = (w.setRow g c).dr d := rfl
@[go_sem] theorem World.setRow_drewN (g : Nat) (c : Array Value) : (w.drewN n).setRow g c = (w.setRow g c).drewN n := rfl
@[go_sem] theorem World.setRow_drew (g : Nat) (c : Array Value) : w.drew.setRow g c = (w.setRow g c).drew := rfl
@[go_sem] theorem World.rowOf_dr (g : Nat) : (w.dr d).rowOf g = w.rowOf g := rfl
@[go_sem] theorem World.rowOf_drew (g : Nat) : w.drew.rowOf g = w.rowOf g := rfl
@[go_sem] theorem World.rowOf_drewN (g : Nat) : (w.drewN n).rowOf g = w.rowOf g := rfl
theorem World.dr_self : w.dr w.drawn = w := rfl
@[go_sem] theorem World.exts_nil : w.exts [] = w := by simp [World.exts]
@[go_sem] theorem World.size_exts : (w.exts bs).heap.size = w.heap.size + bs.length := by simp [World.exts]
theorem World.heap_exts_past (g : Nat) (h : g < w.heap.size) : (w.exts bs).heap[g]? = w.heap[g]? := by
  simp only [World.exts]; rw [Array.getElem?_append_left h]
@[go_sem] theorem World.cell?_exts_past (g i : Nat) (h : g < w.heap.size) : (w.exts bs).cell? ⟨g, i, none⟩ = w.cell? ⟨g, i, none⟩ := by
  simp only [World.cell?, World.heap_exts_past w bs g h]
@[go_sem] theorem World.frozen?_exts_past (g i : Nat) (h : g < w.heap.size) : (w.exts bs).frozen? ⟨g, i, none⟩ = w.frozen? ⟨g, i, none⟩ := by
  simp only [World.frozen?, World.heap_exts_past w bs g h]
@[go_sem] theorem World.rowOf_exts_past (g : Nat) (h : g < w.heap.size) : (w.exts bs).rowOf g = w.rowOf g := by
  simp only [World.rowOf, World.heap_exts_past w bs g h]
theorem World.modify_append (xs ys : Array Obj) (g : Nat) (f : Obj → Obj) (h : g < xs.size) : (xs ++ ys).modify g f = xs.modify g f ++ ys := by
  apply Array.ext_getElem?
  intro i
  by_cases hi : i < xs.size
  · rw [Array.getElem?_modify, Array.getElem?_append_left hi, Array.getElem?_append_left (by simpa using hi), Array.getElem?_modify]
  · rw [Array.getElem?_modify, Array.getElem?_append_right (by omega), Array.getElem?_append_right (by simpa using by omega), if_neg (by omega)]
    simp
@[go_sem] theorem World.setCell_exts_past (g i : Nat) (h : g < w.heap.size) : (w.exts bs).setCell ⟨g, i, none⟩ v = (w.setCell ⟨g, i, none⟩ v).exts bs := by
  simp only [World.setCell, World.exts]; rw [World.modify_append _ _ _ _ h]
@[go_sem] theorem World.setRow_exts_past (g : Nat) (c : Array Value) (h : g < w.heap.size) : (w.exts bs).setRow g c = (w.setRow g c).exts bs := by
  simp only [World.setRow, World.exts]; rw [World.modify_append _ _ _ _ h]
@[go_sem] theorem World.exts_exts : (w.exts bs).exts cs = w.exts (bs ++ cs) := by simp [World.exts]
theorem World.alloc_exts : w.alloc o = w.exts [o] := by
  show ({ w with heap := w.heap.push o } : World) = { w with heap := w.heap ++ [o].toArray }
  congr 1
@[go_sem] theorem World.rowOf_alloc_at (c : Array Value) (t : TypeId) (g : Nat) (h : g = w.heap.size) : (w.alloc (.cells c t)).rowOf g = c := by
  subst h; simp only [World.rowOf, World.alloc, Array.getElem?_push, if_true]
@[go_sem] theorem World.rowOf_alloc_past (g : Nat) (h : g < w.heap.size) : (w.alloc o).rowOf g = w.rowOf g := by
  simp only [World.rowOf, World.alloc, Array.getElem?_push]; rw [if_neg (by omega)]
@[go_sem] theorem World.setRow_alloc_at (c c' : Array Value) (t : TypeId) (g : Nat) (h : g = w.heap.size) : (w.alloc (.cells c t)).setRow g c' = w.alloc (.cells c' t) := by
  subst h; exact World.setRow_alloc_new w c c' t
@[go_sem] theorem World.setRow_alloc_past (g : Nat) (c : Array Value) (h : g < w.heap.size) : (w.alloc o).setRow g c = (w.setRow g c).alloc o := by
  rw [World.alloc_exts, World.alloc_exts, World.setRow_exts_past w [o] g c h]
end
def behind (bs : List Obj) (d : Nat) : World := { (default : World) with heap := bs.toArray, drawn := d }
def World.ex (w : World) (q : World) : World := (w.exts q.heap.toList).dr q.drawn
section
variable (w : World) (q : World) (a : Addr) (v : Value)
theorem World.ex_behind (bs : List Obj) (d : Nat) : w.ex (behind bs d) = (w.exts bs).dr d := by simp [World.ex, behind]
@[go_sem] theorem World.tape_ex : (w.ex q).tape = w.tape := rfl
@[go_sem] theorem World.size_ex : (w.ex q).heap.size = w.heap.size + q.heap.size := by rw [← Array.length_toList]; exact World.size_exts w q.heap.toList
@[go_sem] theorem World.cell?_ex_past (g i : Nat) (h : g < w.heap.size) : (w.ex q).cell? ⟨g, i, none⟩ = w.cell? ⟨g, i, none⟩ := World.cell?_exts_past w q.heap.toList g i h
@[go_sem] theorem World.frozen?_ex_past (g i : Nat) (h : g < w.heap.size) : (w.ex q).frozen? ⟨g, i, none⟩ = w.frozen? ⟨g, i, none⟩ := World.frozen?_exts_past w q.heap.toList g i h
@[go_sem] theorem World.rowOf_ex_past (g : Nat) (h : g < w.heap.size) : (w.ex q).rowOf g = w.rowOf g := World.rowOf_exts_past w q.heap.toList g h
end
theorem below_form {w w' : World} (h : Below w.heap.size w w') : ∃ bs d, w' = (w.exts bs).dr d := by
  refine ⟨(w'.heap.extract w.heap.size w'.heap.size).toList, w'.drawn, ?_⟩
  obtain ⟨h1, h2, h3, h4, h5⟩ := h
  cases w' with
  | mk heap tape drawn os output =>
    simp only at h1 h2 h3 h4 h5
    subst h1 h2 h3
    simp only [World.dr, World.exts, World.mk.injEq, and_true]
    apply Array.ext_getElem?
    intro i
    by_cases hi : i < w.heap.size
    · rw [Array.getElem?_append_left hi]; exact h5 i hi
    · rw [Array.getElem?_append_right (by omega)]
      simp only [Array.toArray_toList, Array.getElem?_extract]
      rw [show w.heap.size + (i - w.heap.size) = i by omega]
      by_cases h : i < heap.size
      · rw [if_pos (by omega)]
      · rw [if_neg (by omega)]; simp; omega
theorem below_form2 {w w' : World} {bs : List Obj} {n : Nat} (h : Below ((w.exts bs).dr n).heap.size ((w.exts bs).dr n) w') : ∃ bs' d, w' = (w.exts bs').dr d := by
  obtain ⟨cs, d, rfl⟩ := below_form h
  exact ⟨bs ++ cs, d, by rw [World.exts_dr, World.dr_dr, World.exts_exts]⟩
theorem below_ex {w w' : World} {q : World} (h : Below (w.ex q).heap.size (w.ex q) w') : ∃ q', w' = w.ex q' := by
  obtain ⟨bs', d, e⟩ := below_form2 h
  exact ⟨behind bs' d, by rw [World.ex_behind]; exact e⟩
theorem below_dr {w w' : World} {B : Nat} (h : Below B w w') (d : Nat) : Below B w (w'.dr d) := ⟨h.os, h.tape, h.output, h.size, h.block⟩
theorem below_exts' {w w' : World} {B : Nat} (h : Below B w w') (hB : B ≤ w'.heap.size) (bs : List Obj) : Below B w (w'.exts bs) :=
  h.trans ⟨rfl, rfl, rfl, by simp [World.exts], fun k hk => World.heap_exts_past w' bs k (by omega)⟩
theorem rowOf_heap {w : World} {g n : Nat} (h : (w.rowOf g).size = n) (hn : 0 < n) : ∃ t, w.heap[g]? = some (.cells (w.rowOf g) t (0, 0)) := by
  unfold World.rowOf at *
  split at h
  · rename_i c t hc; exact ⟨t, by rw [hc]⟩
  · simp at h; omega
def RowTy (P : Program) (t n : Nat) : Prop := 0 < n ∧ (P.info? t).map (·.size) = some n ∧ ∃ d, P.underlying t = some d ∧ d.isRow = true
theorem run_load_row {P : Program} {t n : Nat} (ht : RowTy P t n) (w : World) (g : Nat) (h : (w.rowOf g).size = n) :
    (Instr.loadAt t (.pointer (some ⟨g, 0, none⟩))).run P w = .ok (.agg (w.rowOf g)) w := by
  obtain ⟨hn, hi, d, hu, hd⟩ := ht
  obtain ⟨t', hg⟩ := rowOf_heap h hn
  have hl := run_loadVar_row (P := P) w g t' t _ (0, 0) d hg hu (by cases d <;> first | rfl | simp [TypeDesc.isRow] at hd) (by rw [hi, h])
  simp only [Instr.loadAt, Instr.sureAddr, Sem.run_bind, Sem.run_pure, Result.andThen_ok, hl]
theorem run_store_row {P : Program} {t n : Nat} (ht : RowTy P t n) (w : World) (g : Nat) (c : Array Value) (h : (w.rowOf g).size = n) (hc : c.size = n) (h1 : c.all (·.oneCell') = true) :
    (Instr.storeAt t (.pointer (some ⟨g, 0, none⟩)) (.agg c)).run P w = .ok () (w.setRow g c) := by
  obtain ⟨hn, hi, d, hu, hd⟩ := ht
  obtain ⟨t', hg⟩ := rowOf_heap h hn
  simp only [Instr.storeAt, Instr.sureAddr, Sem.run_bind, Sem.run_pure, Result.andThen_ok]
  rw [run_storeVar_row w g t' t _ c hg (by rw [hi, hc]) (by rw [h, hc]) h1]
theorem wpl_load {P : Program} {t n : Nat} (ht : RowTy P t n) {ops : Array Oper} {rest : List Oper} {o : Oper} {a : Act} {w : World} {Q : Exit → Act → World → Prop} (hgd : o.guard = none) (x : Operand) (ho : o.op = .load t x)
    (g : Nat) (hx : a.eval x = .pointer (some ⟨g, 0, none⟩)) (c : Array Value) (hc : w.rowOf g = c) (hn : c.size = n)
    (h : wpList P ops Q rest (a.put o.dst (.agg c)) w) : wpList P ops Q (o :: rest) a w := by
  refine wpList_plain hgd fun _ hK => ?_
  unfold Oper.wp execOp
  simp only [ho, hx]
  rw [Sem.run_bind, run_load_row ht w g (by rw [hc, hn]), hc]
  exact hK _ _ h
theorem wpl_store {P : Program} {t n : Nat} (ht : RowTy P t n) {ops : Array Oper} {rest : List Oper} {o : Oper} {a : Act} {w : World} {Q : Exit → Act → World → Prop} (hgd : o.guard = none) (x y : Operand) (ho : o.op = .store t x y)
    (g : Nat) (hx : a.eval x = .pointer (some ⟨g, 0, none⟩)) (c : Array Value) (hy : a.eval y = .agg c) (hg : (w.rowOf g).size = n) (hn : c.size = n) (h1 : c.all (·.oneCell') = true) (w' : World) (hw : w.setRow g c = w')
    (h : wpList P ops Q rest (a.put o.dst undef) w') : wpList P ops Q (o :: rest) a w := by
  refine wpList_plain hgd fun _ hK => ?_
  unfold Oper.wp execOp
  simp only [ho, hx, hy]
  rw [Sem.run_bind, run_store_row ht w g c hg hn h1, hw]
  exact hK _ _ h
theorem results_row {P : Program} {fn : Func} {p : Tmp} {t n : Nat} (ht : RowTy P t n) (hr : fn.results = #[.cell p t]) (tmps : Array Value) (w : World) (g : Nat)
    (hp : tmps.getD p undef = .pointer (some ⟨g, 0, none⟩)) (h : (w.rowOf g).size = n) : (results fn tmps).run P w = .ok (.agg (w.rowOf g)) w := by
  obtain ⟨hn, hi, d, hu, hd⟩ := ht
  obtain ⟨t', hg⟩ := rowOf_heap h hn
  exact results_cell_row hr tmps w g t' _ (0, 0) d hp hg hu (by cases d <;> first | rfl | simp [TypeDesc.isRow] at hd) (by rw [hi, h])
def upd (f : Nat → Int) (i : Nat) (z : Int) : Nat → Int := fun j => if j = i then z else f j
@[go_sem] theorem upd_same (f : Nat → Int) (i : Nat) (z : Int) : upd f i z i = z := by simp [upd]
@[go_sem] theorem upd_ne (f : Nat → Int) (i j : Nat) (z : Int) (h : j ≠ i) : upd f i z j = f j := by simp [upd, h]
def tabFrom (k : IntKind) (n : Nat) (f : Nat → Int) (i : Nat) : List Value := if i < n then .int k (f i) :: tabFrom k n f (i + 1) else []
def tab (k : IntKind) (n : Nat) (f : Nat → Int) : Array Value := (tabFrom k n f 0).toArray
theorem tabFrom_eq (k : IntKind) (f : Nat → Int) (m n i : Nat) (h : n = i + m) : tabFrom k n f i = (List.range' i m).map fun j => Value.int k (f j) := by
  induction m generalizing i with
  | zero => rw [tabFrom]; simp; omega
  | succ m ih => rw [tabFrom, if_pos (by omega), ih (i + 1) (by omega)]; rfl
theorem tab_eq (k : IntKind) (n : Nat) (f : Nat → Int) : tab k n f = ((List.range n).map fun i => Value.int k (f i)).toArray := by
  unfold tab; rw [tabFrom_eq k f n n 0 (by omega), List.range_eq_range']
@[go_sem] theorem tab_size (k : IntKind) (n : Nat) (f : Nat → Int) : (tab k n f).size = n := by simp [tab_eq]
@[go_sem] theorem tab_get (k : IntKind) (n : Nat) (f : Nat → Int) (i : Nat) (h : i < n) : (tab k n f)[i]? = some (.int k (f i)) := by simp [tab_eq, h]
@[go_sem] theorem tab_set (k : IntKind) (n : Nat) (f : Nat → Int) (i : Nat) (z : Int) : (tab k n f).setIfInBounds i (.int k z) = tab k n (upd f i z) := by
  apply Array.ext_getElem?
  intro j
  rw [Array.getElem?_setIfInBounds]
  by_cases hj : j < n
  · rw [tab_get k n _ j hj, tab_get k n _ j hj]
    by_cases hij : i = j
    · subst hij; simp [upd, tab_size, hj]
    · have : ¬ j = i := fun e => hij e.symm
      simp [upd, hij, this]
  · have h1 : ∀ g, (tab k n g)[j]? = none := fun g => by simp [tab_eq]; omega
    rw [h1, h1]
    by_cases hij : i = j
    · subst hij; simp [tab_size, hj]
    · simp [hij]
@[go_sem] theorem tab_all (k : IntKind) (n : Nat) (f : Nat → Int) : (tab k n f).all (·.oneCell') = true := by
  simp [tab_eq, Value.oneCell']
@[simp, go_sem] theorem tab_getElem (k : IntKind) (n : Nat) (f : Nat → Int) (i : Nat) (h : i < (tab k n f).size) : (tab k n f)[i] = .int k (f i) := by simp [tab_eq]
theorem tab_congr {k : IntKind} {n : Nat} {f g : Nat → Int} (h : ∀ i, i < n → f i = g i) : tab k n f = tab k n g := by
  rw [tab_eq, tab_eq]; congr 1; apply List.map_congr_left; intro i hi; rw [h i (by simpa using hi)]
end Go
namespace Go.Msg
def lval : Nat → (Nat → Int) → Int
  | 0, _ => 0
  | n + 1, f => lval n f + f n * 8192 ^ n
theorem val_congr {n : Nat} {f g : Nat → Int} (h : ∀ i, i < n → f i = g i) : lval n f = lval n g := by
  induction n with
  | zero => rfl
  | succ n ih => simp only [lval]; rw [ih (fun i hi => h i (by omega)), h n (by omega)]
theorem val_upd (n : Nat) (f : Nat → Int) (i : Nat) (z : Int) (h : i < n) : lval n (upd f i z) = lval n f + (z - f i) * 8192 ^ i := by
  induction n with
  | zero => omega
  | succ n ih =>
    simp only [lval]
    by_cases hi : i = n
    · subst hi
      rw [val_congr (g := f) (fun j hj => by simp [upd]; omega)]
      simp [upd]; grind
    · rw [ih (by omega)]
      have : upd f i z n = f n := by simp [upd]; omega
      rw [this]; omega
theorem val_nonneg {n : Nat} {f : Nat → Int} (h : ∀ i, i < n → 0 ≤ f i) : 0 ≤ lval n f := by
  induction n with
  | zero => simp [lval]
  | succ n ih =>
    simp only [lval]
    have h1 := ih (fun i hi => h i (by omega))
    have h2 : 0 ≤ f n * 8192 ^ n := Int.mul_nonneg (h n (by omega)) (Int.pow_nonneg (by omega))
    omega
theorem val_lt {n : Nat} {f : Nat → Int} (h : ∀ i, i < n → 0 ≤ f i ∧ f i ≤ 8191) : lval n f < 8192 ^ n := by
  induction n with
  | zero => simp [lval]
  | succ n ih =>
    simp only [lval]
    have h1 := ih (fun i hi => h i (by omega))
    have h2 : f n * 8192 ^ n ≤ 8191 * 8192 ^ n := Int.mul_le_mul_of_nonneg_right (h n (by omega)).2 (Int.pow_nonneg (by omega))
    rw [Int.pow_succ]; omega
theorem val_add (n : Nat) (f g : Nat → Int) : lval n (fun i => f i + g i) = lval n f + lval n g := by
  induction n with
  | zero => rfl
  | succ n ih => simp only [lval]; rw [ih]; grind
theorem val_smul (n : Nat) (c : Int) (f : Nat → Int) : lval n (fun i => c * f i) = c * lval n f := by
  induction n with
  | zero => simp [lval]
  | succ n ih => simp only [lval]; rw [ih]; grind
theorem val_shift (m n : Nat) (f : Nat → Int) : lval (m + n) f = lval m f + 8192 ^ m * lval n (fun i => f (m + i)) := by
  induction n with
  | zero => simp [lval]
  | succ n ih =>
    rw [show m + (n + 1) = (m + n) + 1 by omega]
    simp only [lval]; rw [ih, Int.pow_add]; grind
def carry1 (x : Nat → Int) (k : Nat) : Nat → Int := upd (upd x (k + 1) (x (k + 1) + x k / 8192)) k (x k % 8192)
theorem val_carry1 (n : Nat) (x : Nat → Int) (k : Nat) (h : k + 1 < n) : lval n (carry1 x k) = lval n x := by
  unfold carry1
  rw [val_upd n _ k _ (by omega), val_upd n _ (k + 1) _ h]
  have e : upd x (k + 1) (x (k + 1) + x k / 8192) k = x k := by simp [upd]
  rw [e, Int.pow_succ]
  have := Int.mul_ediv_add_emod (x k) 8192
  generalize x k / 8192 = q at *
  generalize x k % 8192 = r at *
  rw [← this]; grind
structure Carried (n : Nat) (f : Nat → Int) (k : Nat) (x : Nat → Int) : Prop where
  low : ∀ i, i < k → 0 ≤ x i ∧ x i ≤ 8191
  at_ : 0 ≤ x k ∧ x k ≤ f k + 524287
  high : ∀ i, k < i → x i = f i
  vl : lval n x = lval n f
theorem Carried.start (n : Nat) (f : Nat → Int) (h : 0 ≤ f 0) : Carried n f 0 f := ⟨fun i hi => by omega, ⟨h, by omega⟩, fun _ _ => rfl, rfl⟩
theorem Carried.step {n : Nat} {f x : Nat → Int} {k : Nat} (h : Carried n f k x) (hk : k + 1 < n) (hf : ∀ i, i < n → 0 ≤ f i ∧ f i ≤ 4294443008) : Carried n f (k + 1) (carry1 x k) := by
  have h0 := h.at_
  have h1 := h.high (k + 1) (by omega)
  have h2 := hf k (by omega)
  have h3 := hf (k + 1) hk
  refine ⟨fun i hi => ?_, ?_, fun i hi => ?_, by rw [val_carry1 n x k hk]; exact h.vl⟩
  · by_cases e : i = k
    · subst e; simp [carry1, upd]; omega
    · have := h.low i (by omega)
      have e2 : ¬ i = k + 1 := by omega
      simp [carry1, upd, e, e2]; exact this
  · simp [carry1, upd]; rw [h1]; omega
  · have e1 : ¬ i = k := by omega
    have e2 : ¬ i = k + 1 := by omega
    simp [carry1, upd, e1, e2]; exact h.high i (by omega)
def P25519 : Int := 57896044618658097711785492504343953926634992332820282019728792003956564819949
structure Tidy (f : Nat → Int) : Prop where
  nn : ∀ i, i < 20 → 0 ≤ f i
  le : ∀ i, i < 19 → 1 ≤ i → f i ≤ 8191
  le0 : f 0 ≤ 8210
  top : f 19 ≤ 255
theorem wraps_u32 (n : Int) (h₀ : 0 ≤ n) (h₁ : n < 2 ^ 32) : IntKind.u32.wrap n = n := by rw [IntKind.wrap_u32]; omega
theorem bits_and_8191 (x : Int) (h0 : 0 ≤ x) (h1 : x < 4294967296) : bits .and .u32 x 8191 = x % 8192 := bits_mask .u32 32 (by decide) wraps_u32 13 (by decide) x h0 h1
theorem bits_and_255 (x : Int) (h0 : 0 ≤ x) (h1 : x < 4294967296) : bits .and .u32 x 255 = x % 256 := bits_mask .u32 32 (by decide) wraps_u32 8 (by decide) x h0 h1
def wrap1 (x : Nat → Int) : Nat → Int := upd (upd x 19 (x 19 % 256)) 0 (x 0 + 19 * (x 19 / 256))
theorem val_wrap1 (x : Nat → Int) : lval 20 (wrap1 x) = lval 20 x - (x 19 / 256) * P25519 := by
  unfold wrap1
  rw [val_upd 20 _ 0 _ (by omega), val_upd 20 _ 19 _ (by omega)]
  have e : upd x 19 (x 19 % 256) 0 = x 0 := by simp [upd]
  rw [e]
  unfold P25519
  have := Int.mul_ediv_add_emod (x 19) 256
  generalize x 19 / 256 = q at *
  generalize x 19 % 256 = r at *
  rw [← this, show (8192 : Int) ^ 19 = 226156424291633194186662080095093570025917938800079226639565593765455331328 by decide]
  omega
theorem emod_sub_mul (a q p : Int) : (a - q * p) % p = a % p := by
  rw [Int.sub_eq_add_neg, ← Int.neg_mul]; exact Int.add_mul_emod_self_right ..
structure TidyAt (f : Nat → Int) (k : Nat) (x : Nat → Int) : Prop where
  nn : ∀ i, i < 20 → 0 ≤ x i
  zero : k = 0 → ∀ i, i < 20 → x i ≤ 4294443008
  one : 1 ≤ k → (∀ i, i < 19 → 1 ≤ i → x i ≤ 8191) ∧ x 19 ≤ 255 ∧ x 0 ≤ 318775295
  two : 2 ≤ k → x 0 ≤ 8210
  vl : lval 20 x % P25519 = lval 20 f % P25519
theorem TidyAt.bound {f x : Nat → Int} {k : Nat} (h : TidyAt f k x) : ∀ i, i < 20 → 0 ≤ x i ∧ x i ≤ 4294443008 := fun i hi => by
  refine ⟨h.nn i hi, ?_⟩
  by_cases hk : k = 0
  · exact h.zero hk i hi
  · obtain ⟨h1, h2, h3⟩ := h.one (by omega)
    by_cases h0 : i = 0
    · subst h0; omega
    · by_cases h19 : i = 19
      · subst h19; omega
      · have := h1 i (by omega) (by omega); omega
theorem TidyAt.start {f : Nat → Int} (hf : ∀ i, i < 20 → 0 ≤ f i ∧ f i ≤ 4294443008) : TidyAt f 0 f :=
  ⟨fun i hi => (hf i hi).1, fun _ i hi => (hf i hi).2, fun h => by omega, fun h => by omega, rfl⟩
theorem val_top {x : Nat → Int} (h : ∀ i, i < 20 → 0 ≤ x i) : x 19 * 8192 ^ 19 ≤ lval 20 x := by
  have := val_nonneg (n := 19) (f := x) (fun i hi => h i (by omega))
  simp only [lval] at *; omega
theorem TidyAt.step {f x x' : Nat → Int} {k : Nat} (h : TidyAt f k x) (hk : k < 2) (hc : Carried 20 x 19 x') : TidyAt f (k + 1) (wrap1 x') ∧ x' 19 < 4294967296 ∧ x' 0 + 19 * (x' 19 / 256) < 4294967296 := by
  have hb := h.bound
  have h19 := hc.at_
  have hb19 := hb 19 (by omega)
  have h0 := hc.low 0 (by omega)
  have nn : ∀ i, i < 20 → 0 ≤ x' i := fun i hi => by
    by_cases e : i = 19
    · subst e; exact h19.1
    · exact (hc.low i (by omega)).1
  have key : 1 ≤ k → x' 19 ≤ 256 := fun hk1 => by
    obtain ⟨h1, h2, h3⟩ := h.one hk1
    have e1 := val_upd 20 x 0 0 (by omega)
    have e2 := val_lt (n := 19) (f := upd x 0 0) (fun i hi => by
      by_cases e : i = 0
      · subst e; simp [upd]
      · simp only [upd, e, if_false]; exact ⟨h.nn i (by omega), h1 i hi (by omega)⟩)
    have e3 : lval 20 (upd x 0 0) = lval 19 (upd x 0 0) + x 19 * 8192 ^ 19 := by simp [lval, upd]
    have e4 := val_top nn
    rw [hc.vl] at e4
    rw [show (8192 : Int) ^ 19 = 226156424291633194186662080095093570025917938800079226639565593765455331328 by decide] at *
    omega
  refine ⟨⟨fun i hi => ?_, fun e => by omega, fun _ => ⟨fun i hi h1 => ?_, ?_, ?_⟩, fun h2 => ?_, ?_⟩, by omega, by omega⟩
  · have := nn i hi
    by_cases e0 : i = 0
    · subst e0; simp [wrap1, upd]; omega
    · by_cases e : i = 19
      · subst e; simp [wrap1, upd]; omega
      · simp [wrap1, upd, e0, e]; exact this
  · have := hc.low i hi
    have e0 : ¬ i = 0 := by omega
    have e : ¬ i = 19 := by omega
    simp [wrap1, upd, e0, e]; exact this.2
  · simp [wrap1, upd]; omega
  · simp [wrap1, upd]; omega
  · have := key (by omega)
    simp [wrap1, upd]; omega
  · rw [val_wrap1, emod_sub_mul, hc.vl, h.vl]
theorem TidyAt.tidy {f x : Nat → Int} (h : TidyAt f 2 x) : Tidy x := ⟨h.nn, (h.one (by omega)).1, h.two (by omega), (h.one (by omega)).2.1⟩
theorem Tidy.le' {f : Nat → Int} (h : Tidy f) : ∀ i, i < 20 → 0 ≤ f i ∧ f i ≤ 8210 := fun i hi => by
  refine ⟨h.nn i hi, ?_⟩
  by_cases h0 : i = 0
  · subst h0; exact h.le0
  · by_cases h19 : i = 19
    · subst h19; have := h.top; omega
    · have := h.le i (by omega) (by omega); omega
theorem least_math {f g x y : Nat → Int} (hf : Tidy f) (hg : g = upd f 0 (f 0 + 19)) (hx : Carried 20 g 19 x) (hy : Carried 20 (upd f 0 (f 0 + 19 * (x 19 / 256))) 19 y) :
    (∀ i, i < 20 → 0 ≤ upd y 19 (y 19 % 256) i) ∧ (∀ i, i < 19 → upd y 19 (y 19 % 256) i ≤ 8191) ∧ upd y 19 (y 19 % 256) 19 ≤ 255 ∧ lval 20 (upd y 19 (y 19 % 256)) = lval 20 f % P25519 := by
  have e1 := val_upd 20 f 0 (f 0 + 19) (by omega)
  have e2 := val_upd 20 f 0 (f 0 + 19 * (x 19 / 256)) (by omega)
  have e3 := val_upd 20 y 19 (y 19 % 256) (by omega)
  have nnx : ∀ i, i < 20 → 0 ≤ x i := fun i hi => by
    by_cases e : i = 19
    · subst e; exact hx.at_.1
    · exact (hx.low i (by omega)).1
  have nny : ∀ i, i < 20 → 0 ≤ y i := fun i hi => by
    by_cases e : i = 19
    · subst e; exact hy.at_.1
    · exact (hy.low i (by omega)).1
  have hfv : 0 ≤ lval 20 f := val_nonneg hf.nn
  have b1 := val_lt (n := 19) (f := x) (fun i hi => hx.low i hi)
  have b2 := val_lt (n := 19) (f := y) (fun i hi => hy.low i hi)
  have b3 := val_nonneg (n := 19) (f := x) (fun i hi => nnx i (by omega))
  have b4 := val_nonneg (n := 19) (f := y) (fun i hi => nny i (by omega))
  have t1 : lval 20 x = lval 19 x + x 19 * 8192 ^ 19 := rfl
  have t2 : lval 20 y = lval 19 y + y 19 * 8192 ^ 19 := rfl
  have hfu : lval 20 f ≤ 57896044618658097711785492504343953926634992332820282019728792003956564828177 := by
    have u1 := val_upd 20 f 0 0 (by omega)
    have u2 := val_lt (n := 19) (f := upd f 0 0) (fun i hi => by
      by_cases e : i = 0
      · subst e; simp [upd]
      · simp only [upd, e, if_false]; exact ⟨hf.nn i (by omega), hf.le i hi (by omega)⟩)
    have u3 : lval 20 (upd f 0 0) = lval 19 (upd f 0 0) + f 19 * 8192 ^ 19 := by simp [lval, upd]
    have := hf.top; have := hf.le0
    rw [show (8192 : Int) ^ 19 = 226156424291633194186662080095093570025917938800079226639565593765455331328 by decide] at *
    omega
  have hxv := hx.vl
  have hyv := hy.vl
  subst hg
  unfold P25519
  refine ⟨fun i hi => ?_, fun i hi => ?_, ?_, ?_⟩
  · have := nny i hi
    by_cases e : i = 19
    · subst e; simp [upd]; omega
    · simp [upd, e]; exact this
  · have e : ¬ i = 19 := by omega
    simp [upd, e]; exact (hy.low i hi).2
  · simp [upd]; omega
  · rw [e3]
    rw [show (8192 : Int) ^ 19 = 226156424291633194186662080095093570025917938800079226639565593765455331328 by decide] at *
    simp only [Int.pow_zero] at *
    have he : x 19 / 256 = 0 ∨ x 19 / 256 = 1 := by omega
    have hy19 := nny 19 (by omega)
    have hx19 := nnx 19 (by omega)
    clear e3 nnx nny hx hy hf
    generalize lval 20 f = V at *
    generalize lval 20 (upd f 0 (f 0 + 19)) = D at *
    generalize lval 20 (upd f 0 (f 0 + 19 * (x 19 / 256))) = E at *
    generalize lval 20 x = Vx at *
    generalize lval 20 y = Vy at *
    generalize lval 19 x = Lx at *
    generalize lval 19 y = Ly at *
    rcases he with he | he
    · have h1 : V % 57896044618658097711785492504343953926634992332820282019728792003956564819949 = V := by omega
      rw [h1]
      have h2 : y 19 < 256 := by omega
      have h3 : y 19 % 256 = y 19 := by omega
      rw [h3]; omega
    · have h1 : V % 57896044618658097711785492504343953926634992332820282019728792003956564819949 = V - 57896044618658097711785492504343953926634992332820282019728792003956564819949 := by omega
      rw [h1]
      have h2 : y 19 = 256 := by omega
      rw [h2]; omega
def addTo (f g : Nat → Int) (k : Nat) : Nat → Int := fun i => if i < k then f i + g i else f i
theorem addTo_step (f g : Nat → Int) (k : Nat) : upd (addTo f g k) k (f k + g k) = addTo f g (k + 1) := by
  funext i
  unfold upd addTo
  by_cases h : i = k
  · subst h; simp
  · by_cases h2 : i < k
    · simp [h, h2, show i < k + 1 by omega]
    · simp [h, h2, show ¬ i < k + 1 by omega]
theorem addTo_zero (f g : Nat → Int) : addTo f g 0 = f := by funext i; simp [addTo]
theorem addTo_at (f g : Nat → Int) (k : Nat) : addTo f g k k = f k := by simp [addTo]
theorem addTo_lval (f g : Nat → Int) (n : Nat) : lval n (addTo f g n) = lval n f + lval n g := by
  rw [← val_add]; exact val_congr (fun i hi => by simp [addTo, hi])
def mulTo (c : Int) (f : Nat → Int) (k : Nat) : Nat → Int := fun i => if i < k then c * f i else f i
theorem mulTo_step (c : Int) (f : Nat → Int) (k : Nat) : upd (mulTo c f k) k (c * f k) = mulTo c f (k + 1) := by
  funext i
  unfold upd mulTo
  by_cases h : i = k
  · subst h; simp
  · by_cases h2 : i < k
    · simp [h, h2, show i < k + 1 by omega]
    · simp [h, h2, show ¬ i < k + 1 by omega]
theorem mulTo_zero (c : Int) (f : Nat → Int) : mulTo c f 0 = f := by funext i; simp [mulTo]
theorem mulTo_at (c : Int) (f : Nat → Int) (k : Nat) : mulTo c f k k = f k := by simp [mulTo]
theorem mulTo_lval (c : Int) (f : Nat → Int) (n : Nat) : lval n (mulTo c f n) = c * lval n f := by
  rw [← val_smul]; exact val_congr (fun i hi => by simp [mulTo, hi])
def from2p (g : Nat → Int) : Nat → Int := fun i => if i = 0 then 16346 - g 0 else if i = 19 then 510 - g 19 else 16382 - g i
theorem from2p_lval (g : Nat → Int) : lval 20 (from2p g) = 2 * P25519 - lval 20 g := by
  have h : lval 20 (from2p g) = lval 20 (fun i => (if i = 0 then 16346 else if i = 19 then 510 else 16382) + (-1) * g i) := val_congr (fun i hi => by
    unfold from2p
    by_cases h0 : i = 0
    · subst h0; simp; omega
    · by_cases h19 : i = 19
      · subst h19; simp; omega
      · simp [h0, h19]; omega)
  rw [h, val_add, val_smul]
  have : lval 20 (fun i => if i = 0 then (16346 : Int) else if i = 19 then 510 else 16382) = 2 * P25519 := by decide
  rw [this]; omega
structure Cols (f g : Nat → Int) (i j : Nat) (W : Nat → Int) : Prop where
  nn : ∀ c, c < 40 → 0 ≤ W c
  hi : ∀ c, c < 40 → i + j ≤ c → W c ≤ i * 67404100
  all : ∀ c, c < 40 → W c ≤ (i + 1) * 67404100
  z : W 39 = 0
  vl : lval 40 W = lval i f * lval 20 g + f i * 8192 ^ i * lval j g
theorem mul_bd {a b : Int} (h1 : 0 ≤ a) (h2 : a ≤ 8210) (h3 : 0 ≤ b) (h4 : b ≤ 8210) : 0 ≤ a * b ∧ a * b ≤ 67404100 :=
  ⟨Int.mul_nonneg h1 h3, by have := Int.mul_le_mul h2 h4 h3 (by omega); omega⟩
theorem lval_zero (n : Nat) : lval n (fun _ => 0) = 0 := by
  induction n with
  | zero => rfl
  | succ n ih => simp [lval, ih]
theorem Cols.start (f g : Nat → Int) : Cols f g 0 0 (fun _ => 0) := ⟨fun _ _ => by omega, fun _ _ _ => by omega, fun _ _ => by omega, rfl, by rw [lval_zero]; simp [lval]⟩
theorem Cols.step {f g W : Nat → Int} {i j : Nat} (h : Cols f g i j W) (hi : i < 20) (hj : j < 20) (hf : Tidy f) (hg : Tidy g) : Cols f g i (j + 1) (upd W (i + j) (W (i + j) + f i * g j)) := by
  have h1 := hf.le' i hi
  have h2 := hg.le' j hj
  have h3 := mul_bd h1.1 h1.2 h2.1 h2.2
  have h4 := h.nn (i + j) (by omega)
  have h5 := h.hi (i + j) (by omega) (by omega)
  refine ⟨fun c hc => ?_, fun c hc hl => ?_, fun c hc => ?_, ?_, ?_⟩
  · by_cases e : c = i + j
    · subst e; simp [upd]; omega
    · simp [upd, e]; exact h.nn c hc
  · have e : ¬ c = i + j := by omega
    simp [upd, e]; exact h.hi c hc (by omega)
  · by_cases e : c = i + j
    · subst e; simp [upd]; omega
    · simp [upd, e]; exact h.all c hc
  · have e : ¬ 39 = i + j := by omega
    simp [upd, e]; exact h.z
  · rw [val_upd 40 W (i + j) _ (by omega), h.vl]
    simp only [lval]
    rw [Int.pow_add]; grind
theorem Cols.row {f g W : Nat → Int} {i : Nat} (h : Cols f g i 20 W) : Cols f g (i + 1) 0 W := by
  refine ⟨h.nn, fun c hc _ => ?_, fun c hc => ?_, h.z, ?_⟩
  · have := h.all c hc; simpa using this
  · have := h.all c hc; simp; omega
  · rw [h.vl]; simp only [lval]; grind
theorem Cols.bd {f g W : Nat → Int} {i j : Nat} (h : Cols f g i j W) (hi : i < 20) (c : Nat) (hc : c < 40) : 0 ≤ W c ∧ W c ≤ 1348082000 := by
  have := h.all c hc; have := h.nn c hc; omega
def fold20 (x : Nat → Int) (k : Nat) : Nat → Int := fun i => if i < k then x i + 608 * x (20 + i) else 0
theorem fold20_step (x : Nat → Int) (k : Nat) : upd (fold20 x k) k (x k + 608 * x (20 + k)) = fold20 x (k + 1) := by
  funext i
  unfold upd fold20
  by_cases h : i = k
  · subst h; simp
  · by_cases h2 : i < k
    · simp [h, h2, show i < k + 1 by omega]
    · simp [h, h2, show ¬ i < k + 1 by omega]
theorem fold20_zero (x : Nat → Int) : fold20 x 0 = fun _ => 0 := by funext i; simp [fold20]
theorem fold20_lval (x : Nat → Int) : lval 20 (fold20 x 20) % P25519 = lval 40 x % P25519 := by
  have e : lval 20 (fold20 x 20) = lval 20 x + 608 * lval 20 (fun i => x (20 + i)) := by
    rw [← val_smul, ← val_add]; exact val_congr (fun i hi => by simp [fold20, hi])
  have e2 := val_shift 20 20 x
  rw [show (20 + 20 : Nat) = 40 by rfl] at e2
  rw [e, e2, show (8192 : Int) ^ 20 = 608 + 32 * P25519 by decide]
  rw [show lval 20 x + (608 + 32 * P25519) * lval 20 (fun i => x (20 + i)) = (lval 20 x + 608 * lval 20 (fun i => x (20 + i))) - (-32 * lval 20 (fun i => x (20 + i))) * P25519 by grind, emod_sub_mul]
end Go.Msg
namespace Go.Msg
def E2 : Nat := 57896044618658097711785492504343953926634992332820282019728792003956564819947
theorem E2_bit : ∀ k, k < 254 → E2 / 2 ^ k = 2 * (E2 / 2 ^ (k + 1)) + if k = 2 ∨ k = 4 then 0 else 1 := by decide +kernel
theorem E2_top : E2 / 2 ^ 254 = 1 := by decide +kernel
theorem E2_low : E2 / 2 ^ 0 = E2 := by decide +kernel
theorem mul_cong {a b c d p : Int} (h1 : a % p = b % p) (h2 : c % p = d % p) : (a * c) % p = (b * d) % p := by
  rw [Int.mul_emod, h1, h2, ← Int.mul_emod]
theorem add_cong {a b c d p : Int} (h1 : a % p = b % p) (h2 : c % p = d % p) : (a + c) % p = (b + d) % p := by
  rw [Int.add_emod, h1, h2, ← Int.add_emod]
theorem sub_cong {a b c d p : Int} (h1 : a % p = b % p) (h2 : c % p = d % p) : (a - c) % p = (b - d) % p := by
  rw [Int.sub_emod, h1, h2, ← Int.sub_emod]
theorem pow_sq {F : Int} {E : Nat} {x x1 p : Int} (h : x % p = F ^ E % p) (h1 : x1 % p = (x * x) % p) : x1 % p = F ^ (2 * E) % p := by
  rw [h1, mul_cong h h, ← Int.pow_add]; congr 2; omega
theorem pow_sq1 {F : Int} {E : Nat} {x x1 x2 p : Int} (h : x % p = F ^ E % p) (h1 : x1 % p = (x * x) % p) (h2 : x2 % p = (x1 * F) % p) : x2 % p = F ^ (2 * E + 1) % p := by
  rw [h2, mul_cong (pow_sq h h1) rfl, Int.pow_succ]
def bitAt (b : Nat → Int) (i : Nat) : Int := b (i / 8) / 2 ^ (i % 8) % 2
def bval : Nat → (Nat → Int) → Int
  | 0, _ => 0
  | n + 1, b => bval n b + b n * 256 ^ n
def bsum (b : Nat → Int) : Nat → Int
  | 0 => 0
  | n + 1 => bsum b n + bitAt b n * 2 ^ n
theorem bitAt_01 (b : Nat → Int) (i : Nat) : 0 ≤ bitAt b i ∧ bitAt b i ≤ 1 := by unfold bitAt; omega
theorem bsum_byte (b : Nat → Int) (n : Nat) (j : Nat) (hj : j ≤ 8) : bsum b (8 * n + j) = bsum b (8 * n) + (b n % 2 ^ j) * 256 ^ n := by
  induction j with
  | zero => simp [Int.emod_one]
  | succ j ih =>
    rw [show 8 * n + (j + 1) = (8 * n + j) + 1 by omega, bsum, ih (by omega)]
    have e1 : bitAt b (8 * n + j) = b n / 2 ^ j % 2 := by
      unfold bitAt
      rw [show (8 * n + j) / 8 = n by omega, show (8 * n + j) % 8 = j by omega]
    have e2 : (2 : Int) ^ (8 * n + j) = 256 ^ n * 2 ^ j := by rw [Int.pow_add, Int.pow_mul, show (2 : Int) ^ 8 = 256 by decide]
    have e3 : b n % 2 ^ (j + 1) = b n % 2 ^ j + b n / 2 ^ j % 2 * 2 ^ j := by
      have : j = 0 ∨ j = 1 ∨ j = 2 ∨ j = 3 ∨ j = 4 ∨ j = 5 ∨ j = 6 ∨ j = 7 := by omega
      rcases this with h | h | h | h | h | h | h | h <;> subst h <;> simp <;> omega
    rw [e1, e2, e3]; grind
theorem bsum_bytes (b : Nat → Int) (n : Nat) (hb : ∀ i, i < n → 0 ≤ b i ∧ b i ≤ 255) : bsum b (8 * n) = bval n b := by
  induction n with
  | zero => rfl
  | succ n ih =>
    rw [show 8 * (n + 1) = 8 * n + 8 by omega, bsum_byte b n 8 (by omega), ih (fun i hi => hb i (by omega))]
    have := hb n (by omega)
    simp only [bval]
    rw [show b n % 2 ^ 8 = b n by simp; omega]
theorem bsum_255 (b : Nat → Int) (hb : ∀ i, i < 32 → 0 ≤ b i ∧ b i ≤ 255) : bsum b 255 = bval 31 b + (b 31 % 128) * 256 ^ 31 := by
  have := bsum_byte b 31 7 (by omega)
  rw [show 8 * 31 + 7 = 255 by rfl, show 8 * 31 = 248 by rfl] at this
  rw [this]
  have h2 := bsum_bytes b 31 (fun i hi => hb i (by omega))
  rw [show 8 * 31 = 248 by rfl] at h2
  rw [h2]; rfl
structure Filled (b : Nat → Int) (i : Nat) (x : Nat → Int) : Prop where
  nn : ∀ l, l < 20 → 0 ≤ x l
  low : ∀ l, l < i / 13 → x l ≤ 8191
  at_ : x (i / 13) < 2 ^ (i % 13)
  high : ∀ l, i / 13 < l → x l = 0
  vl : lval 20 x = bsum b i
theorem Filled.start (b : Nat → Int) : Filled b 0 (fun _ => 0) := ⟨fun _ _ => by omega, fun _ h => by omega, by simp, fun _ _ => rfl, by rw [lval_zero]; rfl⟩
theorem Filled.step {b x : Nat → Int} {i : Nat} (h : Filled b i x) (hi : i < 255) : Filled b (i + 1) (upd x (i / 13) (x (i / 13) + bitAt b i * 2 ^ (i % 13))) := by
  have h1 := bitAt_01 b i
  have h2 := h.at_
  have h3 := h.nn (i / 13) (by omega)
  have hp : (0 : Int) < 2 ^ (i % 13) := Int.pow_pos (by omega)
  have h4 : 0 ≤ bitAt b i * 2 ^ (i % 13) ∧ bitAt b i * 2 ^ (i % 13) ≤ 2 ^ (i % 13) := by
    have : bitAt b i = 0 ∨ bitAt b i = 1 := by omega
    rcases this with e | e <;> rw [e] <;> omega
  have h5 : x (i / 13) + bitAt b i * 2 ^ (i % 13) < 2 ^ (i % 13 + 1) := by rw [Int.pow_succ]; omega
  have h6 : (2 : Int) ^ (i % 13 + 1) ≤ 8192 := by
    have : i % 13 = 0 ∨ i % 13 = 1 ∨ i % 13 = 2 ∨ i % 13 = 3 ∨ i % 13 = 4 ∨ i % 13 = 5 ∨ i % 13 = 6 ∨ i % 13 = 7 ∨ i % 13 = 8 ∨ i % 13 = 9 ∨ i % 13 = 10 ∨ i % 13 = 11 ∨ i % 13 = 12 := by omega
    rcases this with e | e | e | e | e | e | e | e | e | e | e | e | e <;> rw [e] <;> decide
  refine ⟨fun l hl => ?_, fun l hl => ?_, ?_, fun l hl => ?_, ?_⟩
  · by_cases e : l = i / 13
    · subst e; simp [upd]; omega
    · simp [upd, e]; exact h.nn l hl
  · by_cases e : l = i / 13
    · subst e; simp [upd]; omega
    · simp [upd, e]; exact h.low l (by omega)
  · by_cases e : (i + 1) / 13 = i / 13
    · rw [e]; simp only [upd, if_true]; rw [show (i + 1) % 13 = i % 13 + 1 by omega]; exact h5
    · simp only [upd, e, if_false]; rw [h.high _ (by omega)]; exact Int.pow_pos (by omega)
  · have e : ¬ l = i / 13 := by omega
    simp only [upd, e, if_false]; exact h.high l (by omega)
  · rw [val_upd 20 x (i / 13) _ (by omega), h.vl]
    simp only [bsum]
    have : (2 : Int) ^ i = 2 ^ (i % 13) * 8192 ^ (i / 13) := by
      rw [show (8192 : Int) = 2 ^ 13 by decide, ← Int.pow_mul, ← Int.pow_add]; congr 1; omega
    rw [this]; grind
theorem Filled.done {b x : Nat → Int} (h : Filled b 255 x) : Tidy x ∧ lval 20 x = bsum b 255 :=
  ⟨⟨h.nn, fun i hi _ => h.low i (by omega), by have := h.low 0 (by omega); omega, by have := h.at_; simp at this; omega⟩, h.vl⟩
def lbit (x : Nat → Int) (i : Nat) : Int := x (i / 13) / 2 ^ (i % 13) % 2
def lsum (x : Nat → Int) : Nat → Int
  | 0 => 0
  | n + 1 => lsum x n + lbit x n * 2 ^ n
theorem lbit_01 (x : Nat → Int) (i : Nat) : 0 ≤ lbit x i ∧ lbit x i ≤ 1 := by unfold lbit; omega
theorem lsum_limb (b : Nat → Int) (n : Nat) (j : Nat) (hj : j ≤ 13) : lsum b (13 * n + j) = lsum b (13 * n) + (b n % 2 ^ j) * 8192 ^ n := by
  induction j with
  | zero => simp [Int.emod_one]
  | succ j ih =>
    rw [show 13 * n + (j + 1) = (13 * n + j) + 1 by omega, lsum, ih (by omega)]
    have e1 : lbit b (13 * n + j) = b n / 2 ^ j % 2 := by
      unfold lbit
      rw [show (13 * n + j) / 13 = n by omega, show (13 * n + j) % 13 = j by omega]
    have e2 : (2 : Int) ^ (13 * n + j) = 8192 ^ n * 2 ^ j := by rw [Int.pow_add, Int.pow_mul, show (2 : Int) ^ 13 = 8192 by decide]
    have e3 : b n % 2 ^ (j + 1) = b n % 2 ^ j + b n / 2 ^ j % 2 * 2 ^ j := by
      have : j = 0 ∨ j = 1 ∨ j = 2 ∨ j = 3 ∨ j = 4 ∨ j = 5 ∨ j = 6 ∨ j = 7 ∨ j = 8 ∨ j = 9 ∨ j = 10 ∨ j = 11 ∨ j = 12 := by omega
      rcases this with h | h | h | h | h | h | h | h | h | h | h | h | h <;> subst h <;> simp <;> omega
    rw [e1, e2, e3]; grind
theorem lsum_limbs (b : Nat → Int) (n : Nat) (hb : ∀ i, i < n → 0 ≤ b i ∧ b i ≤ 8191) : lsum b (13 * n) = lval n b := by
  induction n with
  | zero => rfl
  | succ n ih =>
    rw [show 13 * (n + 1) = 13 * n + 13 by omega, lsum_limb b n 13 (by omega), ih (fun i hi => hb i (by omega))]
    have := hb n (by omega)
    simp only [lval]
    rw [show b n % 2 ^ 13 = b n by simp; omega]
theorem lsum_255 (b : Nat → Int) (hn : ∀ i, i < 20 → 0 ≤ b i) (hb : ∀ i, i < 19 → b i ≤ 8191) (ht : b 19 ≤ 255) : lsum b 255 = lval 20 b := by
  have := lsum_limb b 19 8 (by omega)
  rw [show 13 * 19 + 8 = 255 by rfl, show 13 * 19 = 247 by rfl] at this
  rw [this]
  have h2 := lsum_limbs b 19 (fun i hi => ⟨hn i (by omega), hb i hi⟩)
  rw [show 13 * 19 = 247 by rfl] at h2
  have := hn 19 (by omega)
  rw [h2, show b 19 % 2 ^ 8 = b 19 by simp; omega]; rfl
theorem bval_congr {n : Nat} {f g : Nat → Int} (h : ∀ i, i < n → f i = g i) : bval n f = bval n g := by
  induction n with
  | zero => rfl
  | succ n ih => simp only [bval]; rw [ih (fun i hi => h i (by omega)), h n (by omega)]
theorem bval_upd (n : Nat) (f : Nat → Int) (i : Nat) (z : Int) (h : i < n) : bval n (upd f i z) = bval n f + (z - f i) * 256 ^ i := by
  induction n with
  | zero => omega
  | succ n ih =>
    simp only [bval]
    by_cases hi : i = n
    · subst hi
      rw [bval_congr (g := f) (fun j hj => by simp [upd]; omega)]
      simp [upd]; grind
    · rw [ih (by omega)]
      have : upd f i z n = f n := by simp [upd]; omega
      rw [this]; omega
theorem bval_zero (n : Nat) : bval n (fun _ => 0) = 0 := by
  induction n with
  | zero => rfl
  | succ n ih => simp [bval, ih]
structure FilledB (x : Nat → Int) (i : Nat) (b : Nat → Int) : Prop where
  nn : ∀ l, l < 32 → 0 ≤ b l
  low : ∀ l, l < i / 8 → b l ≤ 255
  at_ : b (i / 8) < 2 ^ (i % 8)
  high : ∀ l, i / 8 < l → b l = 0
  vl : bval 32 b = lsum x i
theorem FilledB.start (x : Nat → Int) : FilledB x 0 (fun _ => 0) := ⟨fun _ _ => by omega, fun _ h => by omega, by simp, fun _ _ => rfl, by rw [bval_zero]; rfl⟩
theorem pow8 (j : Nat) (h : j < 8) : (2 : Int) ^ (j + 1) ≤ 256 ∧ (2 : Int) ^ j ≤ 128 := by
  have : j = 0 ∨ j = 1 ∨ j = 2 ∨ j = 3 ∨ j = 4 ∨ j = 5 ∨ j = 6 ∨ j = 7 := by omega
  rcases this with e | e | e | e | e | e | e | e <;> rw [e] <;> decide
theorem FilledB.step {x b : Nat → Int} {i : Nat} (h : FilledB x i b) (hi : i < 255) : FilledB x (i + 1) (upd b (i / 8) (b (i / 8) + lbit x i * 2 ^ (i % 8))) := by
  have h1 := lbit_01 x i
  have h2 := h.at_
  have h3 := h.nn (i / 8) (by omega)
  have hp : (0 : Int) < 2 ^ (i % 8) := Int.pow_pos (by omega)
  have h4 : 0 ≤ lbit x i * 2 ^ (i % 8) ∧ lbit x i * 2 ^ (i % 8) ≤ 2 ^ (i % 8) := by
    have : lbit x i = 0 ∨ lbit x i = 1 := by omega
    rcases this with e | e <;> rw [e] <;> omega
  have h5 : b (i / 8) + lbit x i * 2 ^ (i % 8) < 2 ^ (i % 8 + 1) := by rw [Int.pow_succ]; omega
  have h6 := (pow8 (i % 8) (by omega)).1
  refine ⟨fun l hl => ?_, fun l hl => ?_, ?_, fun l hl => ?_, ?_⟩
  · by_cases e : l = i / 8
    · subst e; simp [upd]; omega
    · simp [upd, e]; exact h.nn l hl
  · by_cases e : l = i / 8
    · subst e; simp [upd]; omega
    · simp [upd, e]; exact h.low l (by omega)
  · by_cases e : (i + 1) / 8 = i / 8
    · rw [e]; simp only [upd, if_true]; rw [show (i + 1) % 8 = i % 8 + 1 by omega]; exact h5
    · simp only [upd, e, if_false]; rw [h.high _ (by omega)]; exact Int.pow_pos (by omega)
  · have e : ¬ l = i / 8 := by omega
    simp only [upd, e, if_false]; exact h.high l (by omega)
  · rw [bval_upd 32 b (i / 8) _ (by omega), h.vl]
    simp only [lsum]
    have : (2 : Int) ^ i = 2 ^ (i % 8) * 256 ^ (i / 8) := by
      rw [show (256 : Int) = 2 ^ 8 by decide, ← Int.pow_mul, ← Int.pow_add]; congr 1; omega
    rw [this]; grind
theorem FilledB.done {x b : Nat → Int} (h : FilledB x 255 b) : (∀ i, i < 32 → 0 ≤ b i ∧ b i ≤ 255) ∧ bval 32 b = lsum x 255 :=
  ⟨fun i hi => ⟨h.nn i hi, by
    by_cases e : i = 31
    · subst e; have := h.at_; simp at this; omega
    · exact h.low i (by omega)⟩, h.vl⟩
theorem bits_and_1 (x : Int) (h0 : 0 ≤ x) (h1 : x < 4294967296) : bits .and .u32 x 1 = x % 2 := bits_mask .u32 32 (by decide) wraps_u32 1 (by decide) x h0 h1
theorem shr_bd {x : Int} (j : Nat) (h0 : 0 ≤ x) (h1 : x < 4294967296) : 0 ≤ x / 2 ^ j ∧ x / 2 ^ j < 4294967296 := by
  have hp : (0 : Int) < 2 ^ j := Int.pow_pos (by omega)
  exact ⟨Int.ediv_nonneg h0 (by omega), by have := Int.ediv_le_self (2 ^ j) h0; omega⟩
theorem u8_248 (n : Nat) (h : n < 256) : bits .and .u8 (n : Int) 248 = (n : Int) / 8 * 8 := by
  revert n; decide +kernel
theorem u8_127 (n : Nat) (h : n < 256) : bits .and .u8 (n : Int) 127 = (n : Int) % 128 := by
  revert n; decide +kernel
theorem u8_or64 (n : Nat) (h : n < 256) : bits .or .u8 ((n : Int) % 128) 64 = (n : Int) % 64 + 64 := by
  revert n; decide +kernel
theorem or_bit (x c : Int) (j : Nat) (hx : 0 ≤ x) (hx1 : x < 2 ^ j) (hc : 0 ≤ c ∧ c ≤ 1) (hj : j < 13) : bits .or .u32 x (c * 2 ^ j) = x + c * 2 ^ j := by
  have h2 : (2 : Int) ^ j ≤ 4096 := by
    have : j = 0 ∨ j = 1 ∨ j = 2 ∨ j = 3 ∨ j = 4 ∨ j = 5 ∨ j = 6 ∨ j = 7 ∨ j = 8 ∨ j = 9 ∨ j = 10 ∨ j = 11 ∨ j = 12 := by omega
    rcases this with e | e | e | e | e | e | e | e | e | e | e | e | e <;> rw [e] <;> decide
  have hp : (0 : Int) < 2 ^ j := Int.pow_pos (by omega)
  have h4 : 0 ≤ c * 2 ^ j ∧ c * 2 ^ j ≤ 2 ^ j := by
    have : c = 0 ∨ c = 1 := by omega
    rcases this with e | e <;> rw [e] <;> omega
  have hcm : bits .or .u32 x (c * 2 ^ j) = bits .or .u32 (c * 2 ^ j) x := by simp only [bits, BitVec.or_comm]
  rw [hcm, bits_join .u32 32 (by decide) wraps_u32 j (c * 2 ^ j) x h4.1 (by simp) (by omega) hx hx1 (by omega), Int.add_comm]
theorem or_bit8 (x c : Int) (j : Nat) (hx : 0 ≤ x) (hx1 : x < 2 ^ j) (hc : 0 ≤ c ∧ c ≤ 1) (hj : j < 8) : bits .or .u8 x (c * 2 ^ j) = x + c * 2 ^ j := by
  have h2 := (pow8 j hj).2
  have hp : (0 : Int) < 2 ^ j := Int.pow_pos (by omega)
  have h4 : 0 ≤ c * 2 ^ j ∧ c * 2 ^ j ≤ 2 ^ j := by
    have : c = 0 ∨ c = 1 := by omega
    rcases this with e | e <;> rw [e] <;> omega
  have hcm : bits .or .u8 x (c * 2 ^ j) = bits .or .u8 (c * 2 ^ j) x := by simp only [bits, BitVec.or_comm]
  rw [hcm, bits_join .u8 8 (by decide) wraps_u8 j (c * 2 ^ j) x h4.1 (by simp) (by omega) hx hx1 (by omega), Int.add_comm]
theorem bit_pow {c : Int} (j : Nat) (hc : 0 ≤ c ∧ c ≤ 1) (hj : j < 13) : c * 2 ^ j % 4294967296 = c * 2 ^ j := by
  have h2 : (2 : Int) ^ j ≤ 4096 := by
    have : j = 0 ∨ j = 1 ∨ j = 2 ∨ j = 3 ∨ j = 4 ∨ j = 5 ∨ j = 6 ∨ j = 7 ∨ j = 8 ∨ j = 9 ∨ j = 10 ∨ j = 11 ∨ j = 12 := by omega
    rcases this with e | e | e | e | e | e | e | e | e | e | e | e | e <;> rw [e] <;> decide
  have hp : (0 : Int) < 2 ^ j := Int.pow_pos (by omega)
  have : c = 0 ∨ c = 1 := by omega
  rcases this with e | e <;> rw [e] <;> omega
theorem bit_pow8 {c : Int} (j : Nat) (hc : 0 ≤ c ∧ c ≤ 1) (hj : j < 8) : c * 2 ^ j % 256 = c * 2 ^ j := by
  have h2 := (pow8 j hj).2
  have hp : (0 : Int) < 2 ^ j := Int.pow_pos (by omega)
  have : c = 0 ∨ c = 1 := by omega
  rcases this with e | e <;> rw [e] <;> omega
end Go.Msg
namespace Go
open Go.RowKit
theorem rowOf_lt {w : World} {g : Nat} (h : 0 < (w.rowOf g).size) : g < w.heap.size := by
  obtain ⟨t, ht⟩ := rowOf_heap (w := w) (g := g) rfl h
  exact (Array.getElem?_eq_some_iff.1 ht).1
theorem rowOf_block {w : World} {g : Nat} {c : Array Value} {t : TypeId} (h : w.heap[g]? = some (.cells c t (0, 0))) : w.rowOf g = c := by simp [World.rowOf, h]
theorem below_row {V V' : World} (h : Below V.heap.size V V') {g : Nat} (hs : 0 < (V.rowOf g).size) : V'.rowOf g = V.rowOf g := by
  simp only [World.rowOf, h.block g (rowOf_lt hs)]
theorem rowOf_setRow_same {w : World} {g : Nat} {c : Array Value} (h : 0 < (w.rowOf g).size) : (w.setRow g c).rowOf g = c := by
  obtain ⟨t, ht⟩ := rowOf_heap (w := w) (g := g) rfl h
  exact rowOf_block (setRow_heap w g _ c t (0, 0) ht)
theorem rowOf_setRow_other {w : World} {g k : Nat} {c : Array Value} (h : k ≠ g) : (w.setRow g c).rowOf k = w.rowOf k := by
  simp only [World.rowOf, setRow_other w g k c h]
theorem below_setRow {B : Nat} {w V : World} (h : Below B w V) {g : Nat} (hg : B ≤ g) (c : Array Value) : Below B w (V.setRow g c) :=
  h.trans ⟨rfl, rfl, rfl, by simp [World.setRow], fun k hk => setRow_other V g k c (by omega)⟩
theorem below_lift {B : Nat} {w V V' : World} (h : Below B w V) (hB : B ≤ V.heap.size) (h2 : Below V.heap.size V V') : Below B w V' := h.trans (h2.mono hB)
def Rowz (V : World) (l : List (Nat × Array Value)) : Prop := ∀ p ∈ l, V.rowOf p.1 = p.2 ∧ 0 < p.2.size
theorem Rowz.nil (V : World) : Rowz V [] := fun p h => by cases h
theorem Rowz.cons {V : World} {g : Nat} {c : Array Value} {l : List (Nat × Array Value)} (h : V.rowOf g = c) (hc : 0 < c.size) (hl : Rowz V l) : Rowz V ((g, c) :: l) := fun p hp => by
  rcases List.mem_cons.1 hp with rfl | hp
  · exact ⟨h, hc⟩
  · exact hl p hp
theorem Rowz.below {V V' : World} {l : List (Nat × Array Value)} (h : Rowz V l) (hb : Below V.heap.size V V') : Rowz V' l := fun p hp => by
  obtain ⟨h1, h2⟩ := h p hp
  exact ⟨by rw [below_row hb (by rw [h1]; exact h2), h1], h2⟩
theorem Rowz.alloc {V : World} {l : List (Nat × Array Value)} (h : Rowz V l) (c : Array Value) (t : TypeId) (hc : 0 < c.size) : Rowz (V.alloc (.cells c t)) ((V.heap.size, c) :: l) := by
  refine Rowz.cons (World.rowOf_alloc_at V c t _ rfl) hc fun p hp => ?_
  obtain ⟨h1, h2⟩ := h p hp
  exact ⟨by rw [World.rowOf_alloc_past V _ _ (rowOf_lt (by rw [h1]; exact h2)), h1], h2⟩
theorem Rowz.setRow {V : World} {l : List (Nat × Array Value)} (h : Rowz V l) (g : Nat) (c c0 : Array Value) (hc : 0 < c.size) (hg : V.rowOf g = c0) (h0 : 0 < c0.size) (hne : ∀ p ∈ l, p.1 ≠ g) : Rowz (V.setRow g c) ((g, c) :: l) := by
  refine Rowz.cons (rowOf_setRow_same (by rw [hg]; exact h0)) hc fun p hp => ?_
  obtain ⟨h1, h2⟩ := h p hp
  exact ⟨by rw [rowOf_setRow_other (hne p hp), h1], h2⟩
theorem Rowz.sub {V : World} {l m : List (Nat × Array Value)} (h : Rowz V l) (hm : ∀ p ∈ m, p ∈ l) : Rowz V m := fun p hp => h p (hm p hp)
theorem cell_of_rowOf {w : World} {g : Nat} {c : Array Value} (h : w.rowOf g = c) (i : Nat) (hi : i < c.size) : w.cell? ⟨g, i, none⟩ = c[i]? ∧ w.frozen? ⟨g, i, none⟩ = false := by
  obtain ⟨t, ht⟩ := rowOf_heap (w := w) (g := g) rfl (by rw [h]; omega)
  rw [h] at ht
  exact ⟨cell_of_row w g i c t (0, 0) ht, frozen_of_row w g i c t ht⟩
theorem run_load_seg {P : Program} {t n : Nat} (ht : RowTy P t n) (w : World) (g o : Nat) (k : IntKind) (N : Nat) (F : Nat → Int) (h : w.rowOf g = tab k N F) (ho : o + n ≤ N) :
    (Instr.loadAt t (.pointer (some ⟨g, o, none⟩))).run P w = .ok (.agg (tab k n (fun i => F (o + i)))) w := by
  obtain ⟨hn, hi, d, hu, hd⟩ := ht
  have := run_loadAt_mid (P := P) w g o t (tab k n (fun i => F (o + i))).toList d (fun j v hv => by
    have hj : j < n := by have := (List.getElem?_eq_some_iff.1 hv).1; simpa [tab_size] using this
    have e : (tab k n (fun i => F (o + i)))[j]? = some v := by simpa using hv
    rw [tab_get k n _ j hj] at e
    rw [(cell_of_rowOf h (o + j) (by rw [tab_size]; omega)).1, tab_get k N F (o + j) (by omega)]; exact e) hu hd (by rw [hi]; simp [tab_size])
  simpa using this
def splice (F : Nat → Int) (o n : Nat) (x : Nat → Int) : Nat → Int := fun j => if o ≤ j ∧ j < o + n then x (j - o) else F j
theorem setCells_row (g : Nat) (k : IntKind) (N : Nat) : ∀ (m o : Nat) (w : World) (F x : Nat → Int), w.rowOf g = tab k N F → o + m ≤ N → 0 < N →
    w.setCells g o ((List.range m).map fun i => Value.int k (x i)) = w.setRow g (tab k N (splice F o m x)) := by
  intro m
  induction m with
  | zero =>
    intro o w F x h ho hN
    obtain ⟨t, ht⟩ := rowOf_heap (w := w) (g := g) rfl (by rw [h, tab_size]; exact hN)
    have e : splice F o 0 x = F := by funext j; simp [splice]; omega
    rw [e, ← h, show (List.range 0).map (fun i => Value.int k (x i)) = [] by rfl]
    show w = _
    exact (setRow_self w g _ t (0, 0) ht).symm
  | succ m ih =>
    intro o w F x h ho hN
    obtain ⟨t, ht⟩ := rowOf_heap (w := w) (g := g) rfl (by rw [h, tab_size]; exact hN)
    rw [List.range_succ_eq_map]
    simp only [List.map_cons, List.map_map]
    show (w.setCell ⟨g, o, none⟩ (.int k (x 0))).setCells g (o + 1) _ = _
    rw [setCell_eq_setRow w g o _ t (0, 0) _ ht, h, tab_set]
    have h2 : (w.setRow g (tab k N (upd F o (x 0)))).rowOf g = tab k N (upd F o (x 0)) := rowOf_setRow_same (by rw [h, tab_size]; exact hN)
    have := ih (o + 1) _ (upd F o (x 0)) (fun i => x (i + 1)) h2 (by omega) hN
    rw [show (List.range m).map ((fun i => Value.int k (x i)) ∘ Nat.succ) = (List.range m).map (fun i => Value.int k (x (i + 1))) by rfl, this, setRow_setRow]
    congr 1
    refine tab_congr fun j _ => ?_
    unfold splice upd
    by_cases e1 : o + 1 ≤ j ∧ j < o + 1 + m
    · rw [if_pos e1, if_pos (by omega)]; show x (j - (o + 1) + 1) = x (j - o); congr 1; omega
    · rw [if_neg e1]
      by_cases e2 : j = o
      · subst e2; rw [if_pos rfl, if_pos (by omega)]; simp
      · rw [if_neg e2, if_neg (by omega)]
theorem run_store_seg {P : Program} {t n : Nat} (ht : RowTy P t n) (w : World) (g o : Nat) (k : IntKind) (N : Nat) (F x : Nat → Int) (h : w.rowOf g = tab k N F) (ho : o + n ≤ N) :
    (Instr.storeAt t (.pointer (some ⟨g, o, none⟩)) (.agg (tab k n x))).run P w = .ok () (w.setRow g (tab k N (splice F o n x))) := by
  obtain ⟨hn, hi, d, hu, hd⟩ := ht
  rw [run_storeAt_mid (P := P) w g o t (tab k n x) (fun j hj => by
    rw [tab_size] at hj
    have := cell_of_rowOf h (o + j) (by rw [tab_size]; omega)
    rw [this.1, this.2, tab_get k N F (o + j) (by omega)]; exact ⟨rfl, rfl⟩) (by rw [hi, tab_size]) (tab_all _ _ _)]
  rw [tab_eq k n x, List.toList_toArray, setCells_row g k N n o w F x h ho (by omega)]
theorem wpl_load_seg {P : Program} {t n : Nat} (ht : RowTy P t n) {ops : Array Oper} {rest : List Oper} {op : Oper} {a : Act} {w : World} {Q : Exit → Act → World → Prop} (hgd : op.guard = none) (x : Operand) (hop : op.op = .load t x)
    (g o : Nat) (hx : a.eval x = .pointer (some ⟨g, o, none⟩)) (k : IntKind) (N : Nat) (F : Nat → Int) (hc : w.rowOf g = tab k N F) (ho : o + n ≤ N)
    (h : wpList P ops Q rest (a.put op.dst (.agg (tab k n (fun i => F (o + i))))) w) : wpList P ops Q (op :: rest) a w := by
  refine wpList_plain hgd fun _ hK => ?_
  unfold Oper.wp execOp
  simp only [hop, hx]
  rw [Sem.run_bind, run_load_seg ht w g o k N F hc ho]
  exact hK _ _ h
theorem wpl_store_seg {P : Program} {t n : Nat} (ht : RowTy P t n) {ops : Array Oper} {rest : List Oper} {op : Oper} {a : Act} {w : World} {Q : Exit → Act → World → Prop} (hgd : op.guard = none) (x y : Operand) (hop : op.op = .store t x y)
    (g o : Nat) (hx : a.eval x = .pointer (some ⟨g, o, none⟩)) (k : IntKind) (N : Nat) (F z : Nat → Int) (hy : a.eval y = .agg (tab k n z)) (hc : w.rowOf g = tab k N F) (ho : o + n ≤ N)
    (h : wpList P ops Q rest (a.put op.dst undef) (w.setRow g (tab k N (splice F o n z)))) : wpList P ops Q (op :: rest) a w := by
  refine wpList_plain hgd fun _ hK => ?_
  unfold Oper.wp execOp
  simp only [hop, hx, hy]
  rw [Sem.run_bind, run_store_seg ht w g o k N F z hc ho]
  exact hK _ _ h
end Go
namespace Go.Msg
def Eqv (a b : Int) : Prop := a % P25519 = b % P25519
theorem Eqv.refl (a : Int) : Eqv a a := Eq.refl _
theorem Eqv.symm {a b : Int} (h : Eqv a b) : Eqv b a := Eq.symm h
theorem Eqv.trans {a b c : Int} (h : Eqv a b) (k : Eqv b c) : Eqv a c := Eq.trans h k
theorem Eqv.mul {a b c d : Int} (h : Eqv a b) (k : Eqv c d) : Eqv (a * c) (b * d) := mul_cong h k
theorem Eqv.add {a b c d : Int} (h : Eqv a b) (k : Eqv c d) : Eqv (a + c) (b + d) := add_cong h k
theorem Eqv.sub {a b c d : Int} (h : Eqv a b) (k : Eqv c d) : Eqv (a - c) (b - d) := sub_cong h k
theorem Eqv.of_eq {a b : Int} (h : a = b) : Eqv a b := h ▸ Eqv.refl a
theorem Eqv.mod (a : Int) : Eqv (a % P25519) a := Int.emod_emod ..
theorem Eqv.pow {a b : Int} (h : Eqv a b) (n : Nat) : Eqv (a ^ n) (b ^ n) := by
  induction n with
  | zero => rw [Int.pow_zero, Int.pow_zero]; exact Eqv.refl _
  | succ n ih => rw [Int.pow_succ, Int.pow_succ]; exact ih.mul h
def tw1 (x z : Int) : Int := (x * x - z * z) * (x * x - z * z)
def tw2 (x z : Int) : Int := 4 * (x * z) * (x * x + 486662 * (x * z) + z * z)
def bt1 (x z p q : Int) : Int := (x * p - z * q) * (x * p - z * q)
def bt2 (u x z p q : Int) : Int := u * ((x * q - z * p) * (x * q - z * p))
theorem Eqv.tw1 {x z x' z' : Int} (h : Eqv x x') (k : Eqv z z') : Eqv (Msg.tw1 x z) (Msg.tw1 x' z') := ((h.mul h).sub (k.mul k)).mul ((h.mul h).sub (k.mul k))
theorem Eqv.tw2 {x z x' z' : Int} (h : Eqv x x') (k : Eqv z z') : Eqv (Msg.tw2 x z) (Msg.tw2 x' z') :=
  ((Eqv.refl 4).mul (h.mul k)).mul (((h.mul h).add ((Eqv.refl 486662).mul (h.mul k))).add (k.mul k))
theorem Eqv.bt1 {x z p q x' z' p' q' : Int} (h : Eqv x x') (k : Eqv z z') (hp : Eqv p p') (hq : Eqv q q') : Eqv (Msg.bt1 x z p q) (Msg.bt1 x' z' p' q') :=
  ((h.mul hp).sub (k.mul hq)).mul ((h.mul hp).sub (k.mul hq))
theorem Eqv.bt2 {u x z p q u' x' z' p' q' : Int} (hu : Eqv u u') (h : Eqv x x') (k : Eqv z z') (hp : Eqv p p') (hq : Eqv q q') : Eqv (Msg.bt2 u x z p q) (Msg.bt2 u' x' z' p' q') :=
  hu.mul (((h.mul hq).sub (k.mul hp)).mul ((h.mul hq).sub (k.mul hp)))
theorem step_math {X2 Z2 X3 Z3 u a b c d aa bb ee da cb sum df df2 inn in2 nx3 nz3 nx2 nz2 : Int}
    (va : Eqv a (X2 + Z2)) (vb : Eqv b (X2 - Z2)) (vc : Eqv c (X3 + Z3)) (vd : Eqv d (X3 - Z3)) (vaa : Eqv aa (a * a)) (vbb : Eqv bb (b * b)) (vee : Eqv ee (aa - bb)) (vda : Eqv da (d * a)) (vcb : Eqv cb (c * b))
    (vsum : Eqv sum (da + cb)) (vdf : Eqv df (da - cb)) (vdf2 : Eqv df2 (df * df)) (vinn : Eqv inn (121665 * ee)) (vin2 : Eqv in2 (aa + inn)) (vnx3 : Eqv nx3 (sum * sum)) (vnz3 : Eqv nz3 (u * df2)) (vnx2 : Eqv nx2 (aa * bb)) (vnz2 : Eqv nz2 (ee * in2)) :
    Eqv nx2 (tw1 X2 Z2) ∧ Eqv nz2 (tw2 X2 Z2) ∧ Eqv nx3 (4 * bt1 X2 Z2 X3 Z3) ∧ Eqv nz3 (4 * bt2 u X2 Z2 X3 Z3) := by
  have haa := vaa.trans (va.mul va)
  have hbb := vbb.trans (vb.mul vb)
  have hee := vee.trans (haa.sub hbb)
  have hda := vda.trans (vd.mul va)
  have hcb := vcb.trans (vc.mul vb)
  have hsum := vsum.trans (hda.add hcb)
  have hdf := vdf.trans (hda.sub hcb)
  have hin2 := vin2.trans (haa.add (vinn.trans ((Eqv.refl 121665).mul hee)))
  refine ⟨(vnx2.trans (haa.mul hbb)).trans (Eqv.of_eq (by unfold tw1; grind)), (vnz2.trans (hee.mul hin2)).trans (Eqv.of_eq (by unfold tw2; grind)),
    (vnx3.trans (hsum.mul hsum)).trans (Eqv.of_eq (by unfold bt1; grind)), (vnz3.trans ((Eqv.refl u).mul (vdf2.trans (hdf.mul hdf)))).trans (Eqv.of_eq (by unfold bt2; grind))⟩
structure Pair where
  n : Int
  d : Int
  m : Int
  e : Int
def lstep (u b : Int) (s : Pair) : Pair :=
  if b = 1 then ⟨bt1 s.n s.d s.m s.e % P25519, bt2 u s.n s.d s.m s.e % P25519, tw1 s.m s.e % P25519, tw2 s.m s.e % P25519⟩
  else ⟨tw1 s.n s.d % P25519, tw2 s.n s.d % P25519, bt1 s.n s.d s.m s.e % P25519, bt2 u s.n s.d s.m s.e % P25519⟩
def lrun (bit : Nat → Int) (u : Int) : Nat → Pair
  | 0 => ⟨1, 0, u, 1⟩
  | j + 1 => lstep u (bit (255 - j)) (lrun bit u j)
def lout (bit : Nat → Int) (u : Int) : Int := (lrun bit u 256).n * (lrun bit u 256).d ^ E2 % P25519
structure Scaled (s : Pair) (X2 Z2 X3 Z3 : Int) : Prop where
  one : ∃ p : Nat, Eqv X2 (2 ^ p * s.n) ∧ Eqv Z2 (2 ^ p * s.d)
  two : ∃ q : Nat, Eqv X3 (2 ^ q * s.m) ∧ Eqv Z3 (2 ^ q * s.e)
theorem tw_scaled {X Z x z : Int} {p : Nat} (h : Eqv X (2 ^ p * x)) (k : Eqv Z (2 ^ p * z)) {A B : Int} (hA : Eqv A (tw1 X Z)) (hB : Eqv B (tw2 X Z)) : ∃ r : Nat, Eqv A (2 ^ r * (tw1 x z % P25519)) ∧ Eqv B (2 ^ r * (tw2 x z % P25519)) := by
  refine ⟨p + p + (p + p), (hA.trans (h.tw1 k)).trans ?_, (hB.trans (h.tw2 k)).trans ?_⟩
  · refine (Eqv.of_eq ?_).trans ((Eqv.refl _).mul (Eqv.mod _).symm)
    unfold tw1; rw [Int.pow_add, Int.pow_add]; grind
  · refine (Eqv.of_eq ?_).trans ((Eqv.refl _).mul (Eqv.mod _).symm)
    unfold tw2; rw [Int.pow_add, Int.pow_add]; grind
theorem bt_scaled {u u' X Z Y W x z y v : Int} {p q : Nat} (hu : Eqv u u') (h : Eqv X (2 ^ p * x)) (k : Eqv Z (2 ^ p * z)) (h2 : Eqv Y (2 ^ q * y)) (k2 : Eqv W (2 ^ q * v)) {A B : Int} (hA : Eqv A (4 * bt1 X Z Y W)) (hB : Eqv B (4 * bt2 u X Z Y W)) :
    ∃ r : Nat, Eqv A (2 ^ r * (bt1 x z y v % P25519)) ∧ Eqv B (2 ^ r * (bt2 u' x z y v % P25519)) := by
  refine ⟨2 + (p + p + (q + q)), (hA.trans ((Eqv.refl 4).mul (h.bt1 k h2 k2))).trans ?_, (hB.trans ((Eqv.refl 4).mul (hu.bt2 h k h2 k2))).trans ?_⟩
  · refine (Eqv.of_eq ?_).trans ((Eqv.refl _).mul (Eqv.mod _).symm)
    unfold bt1; rw [Int.pow_add, Int.pow_add, Int.pow_add, Int.pow_add]; grind
  · refine (Eqv.of_eq ?_).trans ((Eqv.refl _).mul (Eqv.mod _).symm)
    unfold bt2; rw [Int.pow_add, Int.pow_add, Int.pow_add, Int.pow_add]; grind
theorem bt1_comm (x z p q : Int) : bt1 x z p q = bt1 p q x z := by unfold bt1; grind
theorem bt2_comm (u x z p q : Int) : bt2 u x z p q = bt2 u p q x z := by unfold bt2; grind
theorem Scaled.zero {s : Pair} {X2 Z2 X3 Z3 u u' : Int} (hs : Scaled s X2 Z2 X3 Z3) (hu : Eqv u u') {b : Int} (hb : ¬ b = 1) {A B C D : Int} (h1 : Eqv A (tw1 X2 Z2)) (h2 : Eqv B (tw2 X2 Z2)) (h3 : Eqv C (4 * bt1 X2 Z2 X3 Z3)) (h4 : Eqv D (4 * bt2 u X2 Z2 X3 Z3)) :
    Scaled (lstep u' b s) A B C D := by
  obtain ⟨⟨p, p1, p2⟩, ⟨q, q1, q2⟩⟩ := hs
  unfold lstep; rw [if_neg hb]
  exact ⟨tw_scaled p1 p2 h1 h2, bt_scaled hu p1 p2 q1 q2 h3 h4⟩
theorem Scaled.one' {s : Pair} {X2 Z2 X3 Z3 u u' : Int} (hs : Scaled s X2 Z2 X3 Z3) (hu : Eqv u u') {A B C D : Int} (h1 : Eqv A (tw1 X3 Z3)) (h2 : Eqv B (tw2 X3 Z3)) (h3 : Eqv C (4 * bt1 X3 Z3 X2 Z2)) (h4 : Eqv D (4 * bt2 u X3 Z3 X2 Z2)) :
    Scaled (lstep u' 1 s) C D A B := by
  obtain ⟨⟨p, p1, p2⟩, ⟨q, q1, q2⟩⟩ := hs
  unfold lstep; rw [if_pos rfl]
  rw [bt1_comm] at h3; rw [bt2_comm] at h4
  exact ⟨bt_scaled hu p1 p2 q1 q2 h3 h4, tw_scaled q1 q2 h1 h2⟩
def pmod (a : Int) : Nat → Nat → Int
  | 0, _ => 1
  | f + 1, e => if e = 0 then 1 else let h := pmod a f (e / 2); if e % 2 = 1 then h * h % P25519 * a % P25519 else h * h % P25519
theorem pmod_spec (a : Int) : ∀ f e, e < 2 ^ f → Eqv (pmod a f e) (a ^ e) := by
  intro f
  induction f with
  | zero => intro e he; have : e = 0 := by simpa using he
            subst this; rw [Int.pow_zero]; exact Eqv.refl 1
  | succ f ih =>
    intro e he
    unfold pmod
    by_cases h0 : e = 0
    · subst h0; rw [if_pos rfl, Int.pow_zero]; exact Eqv.refl 1
    · rw [if_neg h0]
      have hh := ih (e / 2) (by rw [Nat.pow_succ] at he; omega)
      have sq := hh.mul hh
      rw [← Int.pow_add] at sq
      by_cases h1 : e % 2 = 1
      · simp only [h1, if_true]
        refine (Eqv.mod _).trans (((Eqv.mod _).trans sq).mul (Eqv.refl a) |>.trans ?_)
        rw [← Int.pow_succ]; exact Eqv.of_eq (by congr 1; omega)
      · simp only [h1, if_false]
        refine (Eqv.mod _).trans (sq.trans ?_)
        exact Eqv.of_eq (by congr 1; omega)
theorem two_fermat : Eqv (2 ^ (E2 + 1)) 1 := by
  refine (pmod_spec 2 256 (E2 + 1) (by decide +kernel)).symm.trans ?_
  have : pmod 2 256 (E2 + 1) = 1 := by decide +kernel
  rw [this]; exact Eqv.refl _
theorem pow_fermat (p : Nat) : Eqv ((2 ^ p) ^ (E2 + 1)) 1 := by
  rw [← Int.pow_mul, Nat.mul_comm, Int.pow_mul]
  refine (two_fermat.pow p).trans ?_
  rw [Int.one_pow]; exact Eqv.refl _
theorem Scaled.out {s : Pair} {X2 Z2 X3 Z3 : Int} (hs : Scaled s X2 Z2 X3 Z3) : Eqv (X2 * Z2 ^ E2) (s.n * s.d ^ E2) := by
  obtain ⟨⟨p, p1, p2⟩, _⟩ := hs
  refine (p1.mul (p2.pow E2)).trans ?_
  have e : 2 ^ p * s.n * (2 ^ p * s.d) ^ E2 = (2 ^ p) ^ (E2 + 1) * (s.n * s.d ^ E2) := by
    rw [Int.mul_pow, Int.pow_succ]
    generalize ((2 : Int) ^ p) ^ E2 = A
    generalize s.d ^ E2 = B
    grind
  rw [e]
  refine ((pow_fermat p).mul (Eqv.refl _)).trans ?_
  rw [Int.one_mul]; exact Eqv.refl _
end Go.Msg
namespace Go
open Go.RowKit
def bstr (n : Nat) (f : Nat → Int) : ByteArray := strOfNums ((List.range n).map f)
theorem bstr_size (n : Nat) (f : Nat → Int) : (bstr n f).size = n := by unfold bstr; rw [strOfNums_size]; simp
theorem bstr_congr {n : Nat} {f g : Nat → Int} (h : ∀ i, i < n → f i = g i) : bstr n f = bstr n g := by
  unfold bstr; congr 1; apply List.map_congr_left; intro i hi; exact h i (by simpa using hi)
theorem bstr_get (n : Nat) (f : Nat → Int) (i : Nat) (h : i < (bstr n f).size) : ((bstr n f)[i]'h).toNat = (f i).toNat % 256 := by
  have hn : i < n := by rw [bstr_size] at h; exact h
  have : (bstr n f)[i] = (bstr n f).data[i]'(by simpa using h) := rfl
  rw [this]
  simp [bstr, strOfNums]
theorem run_convert_row {P : Program} (w : World) (src dst e : TypeId) (hs : P.underlying src = some (.slice e)) (he : P.underlying e = some (.int .u8)) (hd : P.underlying dst = some .string) (g o N len cap : Nat) (f : Nat → Int)
    (hr : w.rowOf g = tab .u8 N f) (ho : o + len ≤ N) : (convert src dst (.slice (some ⟨g, o, none⟩) len cap)).run P w = .ok (.string (bstr len (fun i => f (o + i)))) w := by
  refine run_convert_bytes_arg w src e hs he g o len cap ((List.range len).map fun i => f (o + i)) (by simp) (fun i hi => ?_) dst hd
  rw [(cell_of_rowOf hr (o + i) (by rw [tab_size]; omega)).1, tab_get _ _ _ _ (by omega)]
  simp [hi]
theorem wpl_convert {P : Program} {ops : Array Oper} {rest : List Oper} {op : Oper} {a : Act} {w : World} {Q : Exit → Act → World → Prop} (hgd : op.guard = none) (src dst e : TypeId) (x : Operand) (hop : op.op = .convert src dst x)
    (hs : P.underlying src = some (.slice e)) (he : P.underlying e = some (.int .u8)) (hd : P.underlying dst = some .string) (g o len cap : Nat) (hx : a.eval x = .slice (some ⟨g, o, none⟩) len cap) (N : Nat) (f : Nat → Int) (hr : w.rowOf g = tab .u8 N f) (ho : o + len ≤ N)
    (h : wpList P ops Q rest (a.put op.dst (.string (bstr len (fun i => f (o + i))))) w) : wpList P ops Q (op :: rest) a w := by
  refine wpList_plain hgd fun _ hK => ?_
  unfold Oper.wp execOp
  simp only [hop, hx]
  rw [Sem.run_bind, run_convert_row w src dst e hs he hd g o N len cap f hr ho]
  exact hK _ _ h
end Go
namespace Go.Msg
open Go.RowKit
def dval : Nat → (Nat → Int) → Int
  | 0, _ => 0
  | n + 1, f => dval n f + f n * 65536 ^ n
theorem dval_congr {n : Nat} {f g : Nat → Int} (h : ∀ i, i < n → f i = g i) : dval n f = dval n g := by
  induction n with
  | zero => rfl
  | succ n ih => simp only [dval]; rw [ih (fun i hi => h i (by omega)), h n (by omega)]
theorem dval_upd (n : Nat) (f : Nat → Int) (i : Nat) (z : Int) (h : i < n) : dval n (upd f i z) = dval n f + (z - f i) * 65536 ^ i := by
  induction n with
  | zero => omega
  | succ n ih =>
    simp only [dval]
    by_cases hi : i = n
    · subst hi
      rw [dval_congr (g := f) (fun j hj => by simp [upd]; omega)]
      simp [upd]; grind
    · rw [ih (by omega)]
      have : upd f i z n = f n := by simp [upd]; omega
      rw [this]; omega
theorem dval_zero (n : Nat) : dval n (fun _ => 0) = 0 := by
  induction n with
  | zero => rfl
  | succ n ih => simp [dval, ih]
def Dig (n : Nat) (f : Nat → Int) : Prop := ∀ i, i < n → 0 ≤ f i ∧ f i < 65536
theorem dval_bd {n : Nat} {f : Nat → Int} (h : Dig n f) : 0 ≤ dval n f ∧ dval n f < 65536 ^ n := by
  induction n with
  | zero => simp [dval]
  | succ n ih =>
    have h1 := ih (fun i hi => h i (by omega))
    have h2 := h n (by omega)
    have hp : (0 : Int) < 65536 ^ n := Int.pow_pos (by omega)
    have h3 : f n * 65536 ^ n ≤ 65535 * 65536 ^ n := Int.mul_le_mul_of_nonneg_right (by omega) (by omega)
    have h4 : 0 ≤ f n * 65536 ^ n := Int.mul_nonneg h2.1 (by omega)
    simp only [dval]; rw [Int.pow_succ]; omega
theorem dval_shift (m n : Nat) (f : Nat → Int) : dval (m + n) f = dval m f + 65536 ^ m * dval n (fun i => f (m + i)) := by
  induction n with
  | zero => simp [dval]
  | succ n ih =>
    rw [show m + (n + 1) = (m + n) + 1 by omega]
    simp only [dval]; rw [ih, Int.pow_add]; grind
def Trim (n : Nat) (f : Nat → Int) : Prop := 0 < n → f (n - 1) ≠ 0
theorem dval_top {n : Nat} {f : Nat → Int} (h : Dig n f) (ht : Trim n f) (hn : 0 < n) : 65536 ^ (n - 1) ≤ dval n f := by
  obtain ⟨m, rfl⟩ : ∃ m, n = m + 1 := ⟨n - 1, by omega⟩
  have h1 := (dval_bd (n := m) (fun i hi => h i (by omega))).1
  have h2 := h m (by omega)
  have h3 := ht (by omega)
  simp only [Nat.add_sub_cancel] at *
  have hp : (0 : Int) < 65536 ^ m := Int.pow_pos (by omega)
  have h4 : 1 * 65536 ^ m ≤ f m * 65536 ^ m := Int.mul_le_mul_of_nonneg_right (by omega) (by omega)
  simp only [dval]; omega
theorem pow_mono {a b : Nat} (h : a ≤ b) : (65536 : Int) ^ a ≤ 65536 ^ b := by
  obtain ⟨c, rfl⟩ : ∃ c, b = a + c := ⟨b - a, by omega⟩
  rw [Int.pow_add]
  have hp : (0 : Int) < 65536 ^ a := Int.pow_pos (by omega)
  have hq : (0 : Int) < 65536 ^ c := Int.pow_pos (by omega)
  have h1 : (1 : Int) ≤ 65536 ^ c := by omega
  have := Int.mul_le_mul_of_nonneg_left h1 (show (0 : Int) ≤ 65536 ^ a by omega)
  omega
theorem trim_len {n N : Nat} {f : Nat → Int} (h : Dig n f) (ht : Trim n f) (hx : dval n f < 65536 ^ N) : n ≤ N := by
  by_cases hn : 0 < n
  · have h1 := dval_top h ht hn
    by_cases hc : n ≤ N
    · exact hc
    · have := pow_mono (show N ≤ n - 1 by omega); omega
  · omega
theorem len_lt {n m : Nat} {f g : Nat → Int} (hf : Dig n f) (hg : Dig m g) (htg : Trim m g) (h : n < m) : dval n f < dval m g := by
  have h1 := (dval_bd hf).2
  have h2 := dval_top hg htg (by omega)
  have := pow_mono (show n ≤ m - 1 by omega)
  omega
theorem dval_top_lt {n : Nat} {f g : Nat → Int} (hf : Dig n f) (hg : Dig n g) (k : Nat) (hk : k < n) (he : ∀ i, k < i → i < n → f i = g i) (hl : f k < g k) : dval n f < dval n g := by
  have e1 := dval_shift (k + 1) (n - (k + 1)) f
  have e2 := dval_shift (k + 1) (n - (k + 1)) g
  rw [show k + 1 + (n - (k + 1)) = n by omega] at e1 e2
  rw [e1, e2, dval_congr (f := fun i => f (k + 1 + i)) (g := fun i => g (k + 1 + i)) (fun i hi => he _ (by omega) (by omega))]
  have b1 := dval_bd (n := k) (fun i hi => hf i (by omega))
  have b2 := dval_bd (n := k) (fun i hi => hg i (by omega))
  have hp : (0 : Int) < 65536 ^ k := Int.pow_pos (by omega)
  have : (f k + 1) * 65536 ^ k ≤ g k * 65536 ^ k := Int.mul_le_mul_of_nonneg_right (by omega) (by omega)
  rw [Int.add_mul] at this
  simp only [dval]; omega
theorem dval_snoc (k : Nat) (f : Nat → Int) (d : Int) : dval (k + 1) (upd f k d) = dval k f + d * 65536 ^ k := by
  simp only [dval]
  rw [dval_congr (g := f) (fun j hj => by simp [upd]; omega)]
  simp [upd]
theorem Dig.snoc {k : Nat} {f : Nat → Int} (h : Dig k f) {d : Int} (hd : 0 ≤ d ∧ d < 65536) : Dig (k + 1) (upd f k d) := fun i hi => by
  by_cases e : i = k
  · subst e; simp [upd]; exact hd
  · simp [upd, e]; exact h i (by omega)
theorem trim_snoc {k : Nat} {f : Nat → Int} {d : Int} (hd : d ≠ 0) : Trim (k + 1) (upd f k d) := fun _ => by simp [upd]; exact hd
theorem split_digit (y : Int) (k : Nat) : y % 65536 * 65536 ^ k + y / 65536 * 65536 ^ (k + 1) = y * 65536 ^ k := by
  have := Int.mul_ediv_add_emod y 65536
  rw [Int.pow_succ]
  generalize y / 65536 = q at *
  generalize y % 65536 = r at *
  rw [← this]; grind
structure Muls (n m : Nat) (a b : Nat → Int) (i j : Nat) (c : Int) (F : Nat → Int) : Prop where
  dig : Dig (n + m + 1) F
  c0 : 0 ≤ c ∧ c < 65536
  z : ∀ t, i + m ≤ t → t < n + m + 1 → F t = 0
  vl : dval (n + m + 1) F + c * 65536 ^ (i + j) = dval i a * dval m b + a i * 65536 ^ i * dval j b
theorem Muls.start (n m : Nat) (a b : Nat → Int) : Muls n m a b 0 0 0 (fun _ => 0) := ⟨fun i _ => by omega, by omega, fun _ _ _ => rfl, by rw [dval_zero]; simp [dval]⟩
theorem mul16 {x y : Int} (h1 : 0 ≤ x ∧ x < 65536) (h2 : 0 ≤ y ∧ y < 65536) : 0 ≤ x * y ∧ x * y ≤ 4294836225 :=
  ⟨Int.mul_nonneg h1.1 h2.1, by have := Int.mul_le_mul (show x ≤ 65535 by omega) (show y ≤ 65535 by omega) h2.1 (by omega); omega⟩
theorem Muls.step {n m : Nat} {a b : Nat → Int} {i j : Nat} {c : Int} {F : Nat → Int} (h : Muls n m a b i j c F) (hi : i < n) (hj : j < m) (da : Dig n a) (db : Dig m b) {s : Int} (hs : s = c + F (i + j) + a i * b j) :
    Muls n m a b i (j + 1) (s / 65536) (upd F (i + j) (s % 65536)) := by
  have h1 := h.dig (i + j) (by omega)
  have h2 := mul16 (da i hi) (db j hj)
  have h3 := h.c0
  refine ⟨fun t ht => ?_, by omega, fun t h1 h2 => ?_, ?_⟩
  · by_cases e : t = i + j
    · subst e; simp [upd]; omega
    · simp [upd, e]; exact h.dig t ht
  · have e : ¬ t = i + j := by omega
    simp only [upd, e, if_false]; exact h.z t h1 h2
  · rw [dval_upd _ _ _ _ (by omega)]
    have e := split_digit s (i + j)
    have v := h.vl
    rw [show dval (j + 1) b = dval j b + b j * 65536 ^ j from rfl]
    have e1 : s * 65536 ^ (i + j) = c * 65536 ^ (i + j) + F (i + j) * 65536 ^ (i + j) + a i * 65536 ^ i * (b j * 65536 ^ j) := by rw [hs, Int.pow_add]; grind
    have e2 : (s % 65536 - F (i + j)) * 65536 ^ (i + j) = s % 65536 * 65536 ^ (i + j) - F (i + j) * 65536 ^ (i + j) := Int.sub_mul ..
    have e3 : a i * 65536 ^ i * (dval j b + b j * 65536 ^ j) = a i * 65536 ^ i * dval j b + a i * 65536 ^ i * (b j * 65536 ^ j) := Int.mul_add ..
    rw [← Nat.add_assoc, e2, e3]
    omega
theorem Muls.row {n m : Nat} {a b : Nat → Int} {i : Nat} {c : Int} {F : Nat → Int} (h : Muls n m a b i m c F) (hi : i < n) : Muls n m a b (i + 1) 0 0 (upd F (i + m) c) := by
  have h3 := h.c0
  refine ⟨fun t ht => ?_, by omega, fun t h1 h2 => ?_, ?_⟩
  · by_cases e : t = i + m
    · subst e; simp [upd]; omega
    · simp [upd, e]; exact h.dig t ht
  · have e : ¬ t = i + m := by omega
    simp only [upd, e, if_false]; exact h.z t (by omega) h2
  · rw [dval_upd _ _ _ _ (by omega), h.z (i + m) (by omega) (by omega)]
    have v := h.vl
    rw [show dval (i + 1) a = dval i a + a i * 65536 ^ i from rfl, show dval 0 b = 0 from rfl]
    have e3 : (dval i a + a i * 65536 ^ i) * dval m b = dval i a * dval m b + a i * 65536 ^ i * dval m b := Int.add_mul ..
    rw [e3]
    simp only [Int.sub_zero, Int.zero_mul, Int.mul_zero, Int.add_zero]
    omega
theorem Muls.done {n m : Nat} {a b : Nat → Int} {F : Nat → Int} (h : Muls n m a b n 0 0 F) : dval (n + m + 1) F = dval n a * dval m b := by
  have v := h.vl
  rw [show dval 0 b = 0 from rfl] at v
  simp only [Int.zero_mul, Int.mul_zero, Int.add_zero] at v
  exact v
def NumAt (w : World) (v : Value) (n : Nat) (f : Nat → Int) : Prop :=
  ∃ ao cap g, v = .slice ao n cap ∧ n ≤ cap ∧ (0 < n → ao = some ⟨g, 0, none⟩) ∧ ∀ i, i < n → w.cell? ⟨g, i, none⟩ = some (.int .i64 (f i))
def IsNum (w : World) (v : Value) (x : Int) : Prop := ∃ n f, NumAt w v n f ∧ Dig n f ∧ Trim n f ∧ dval n f = x
theorem NumAt.below {w w' : World} {v : Value} {n : Nat} {f : Nat → Int} (h : NumAt w v n f) (hb : Below w.heap.size w w') : NumAt w' v n f := by
  obtain ⟨ao, cap, g, hv, hc, ha, hcell⟩ := h
  exact ⟨ao, cap, g, hv, hc, ha, fun i hi => by rw [hb.cell (p := ⟨g, i, none⟩) (World.block_lt_of_cell? w _ (hcell i hi))]; exact hcell i hi⟩
theorem IsNum.below {w w' : World} {v : Value} {x : Int} (h : IsNum w v x) (hb : Below w.heap.size w w') : IsNum w' v x := by
  obtain ⟨n, f, h1, h2⟩ := h
  exact ⟨n, f, h1.below hb, h2⟩
theorem NumAt.of_row {w : World} {g n cap N : Nat} {f F : Nat → Int} (hr : w.rowOf g = tab .i64 N F) (hn : n ≤ cap) (hN : n ≤ N) (he : ∀ i, i < n → F i = f i) : NumAt w (.slice (some ⟨g, 0, none⟩) n cap) n f :=
  ⟨_, cap, g, rfl, hn, fun _ => rfl, fun i hi => by rw [(cell_of_rowOf hr i (by rw [tab_size]; omega)).1, tab_get _ _ _ _ (by omega), he i hi]⟩
theorem NumAt.nil (w : World) (ao : Option Addr) (cap : Nat) (f : Nat → Int) : NumAt w (.slice ao 0 cap) 0 f := ⟨ao, cap, 0, rfl, by omega, fun h => by omega, fun i hi => by omega⟩
end Go.Msg
namespace Go
open Go.RowKit Go.Msg
def SliceTy (P : Program) (t e : Nat) (k : IntKind) (B : Nat) : Prop := P.underlying t = some (.slice e) ∧ (P.info? e).map (fun i => (i.zero, i.size, i.bytes)) = some (some (.int k 0), 1, B) ∧ B ≤ 8
def ints (k : IntKind) (n : Nat) (f : Nat → Int) : List Value := (List.range n).map fun i => .int k (f i)
theorem ints_length (k : IntKind) (n : Nat) (f : Nat → Int) : (ints k n f).length = n := by simp [ints]
theorem ints_get (k : IntKind) (n : Nat) (f : Nat → Int) (i : Nat) (h : i < n) : (ints k n f)[i]? = some (.int k (f i)) := by simp [ints, h]
theorem ints_snoc (k : IntKind) (n : Nat) (f : Nat → Int) (z : Int) : ints k n f ++ [.int k z] = ints k (n + 1) (upd f n z) := by
  unfold ints
  rw [List.range_succ, List.map_append]
  congr 1
  · apply List.map_congr_left; intro i hi; have : i ≠ n := by have := List.mem_range.1 hi; omega
    simp [upd, this]
  · simp [upd]
theorem NumAt.of_owns {w : World} {B e : Nat} {v : Value} {n : Nat} {f : Nat → Int} (h : w.ownsRow B e 1 v n (ints .i64 n f)) : NumAt w v n f := by
  obtain ⟨h1, h2⟩ := h
  rcases h2 with ⟨rfl, rfl⟩ | ⟨g, cap, cur, rfl, hg, hh, hc, hm, hs, ht⟩
  · exact NumAt.nil _ _ _ _
  · refine ⟨_, cap, g, rfl, hc, fun _ => rfl, fun i hi => ?_⟩
    have hown : w.ownsRow B e 1 (.slice (some ⟨g, 0, none⟩) n cap) n (ints .i64 n f) := ⟨h1, Or.inr ⟨g, cap, cur, rfl, hg, hh, hc, hm, hs, ht⟩⟩
    rw [hown.cellAt i (by omega), ints_get _ _ _ _ hi]
theorem wpl_make {P : Program} {t e : Nat} {k : IntKind} {B : Nat} (hS : SliceTy P t e k B) {ops : Array Oper} {rest : List Oper} {o : Oper} {a : Act} {w : World} {Q : Exit → Act → World → Prop} (hgd : o.guard = none) (l c : Operand) (ho : o.op = .makeSlice t l c)
    (n : Nat) (L C : Int) (hl : a.eval l = .int .i64 L) (hc : a.eval c = .int .i64 C) (hL : L = n) (hC : C = n) (hn : n ≤ 1000000)
    (h : wpList P ops Q rest (a.put o.dst (.slice (some ⟨w.heap.size, 0, none⟩) n n)) (w.alloc (.cells (tab k n (fun _ => 0)) e))) : wpList P ops Q (o :: rest) a w := by
  subst hL hC
  obtain ⟨ht, hi, hB⟩ := hS
  refine wpList_plain hgd fun _ hK => ?_
  cases hq : P.info? e with
  | none => simp [hq] at hi
  | some i =>
    simp [hq] at hi
    obtain ⟨i1, i2, i3⟩ := hi
    have hb : (i.bytes : Int) * (n : Int) ≤ 281474976710656 := by
      rw [i3]
      have : (B : Int) * (n : Int) ≤ 8 * 1000000 := Int.mul_le_mul (by omega) (by omega) (by omega) (by omega)
      omega
    have hr := run_make (P := P) w t e i (.int k 0) ht hq i1 .i64 .i64 n n (by omega) (by omega) hb (by omega)
    unfold Oper.wp execOp
    simp only [ho, hl, hc]
    rw [Sem.run_bind, hr]
    have e1 : madeCells (Value.int k 0).cells ((n : Int).toNat * i.size) = tab k n (fun _ => 0) := by
      rw [i2, tab_eq]
      simp only [Int.toNat_natCast, Nat.mul_one, madeCells, Value.cells]
      apply Array.ext'
      simp [Nat.mod_one]
    rw [e1]
    exact hK _ _ h
theorem wpl_append1 {P : Program} {t e : Nat} {k : IntKind} {B : Nat} (hS : SliceTy P t e k B) {ops : Array Oper} {rest : List Oper} {o : Oper} {a : Act} {w : World} {Q : Exit → Act → World → Prop} (hgd : o.guard = none) (s x : Operand)
    (ho : o.op = .call { callee := .builtin .append, args := #[s, x], argTypes := #[t, t] }) (base : Nat) (v : Value) (n : Nat) (f : Nat → Int) (hs : a.eval s = v) (hown : w.ownsRow base e 1 v n (ints k n f)) (g1 : Nat) (z : Int)
    (hx : a.eval x = .slice (some ⟨g1, 0, none⟩) 1 1) (hz : w.cell? ⟨g1, 0, none⟩ = some (.int k z)) (hn : n ≤ 1000000) (hb : base ≤ w.heap.size)
    (h : ∀ v' w', w'.ownsRow base e 1 v' (n + 1) (ints k (n + 1) (upd f n z)) → (∀ w0, Below base w0 w → Below base w0 w') → w.heap.size ≤ w'.heap.size → wpList P ops Q rest (a.put o.dst v') w') : wpList P ops Q (o :: rest) a w := by
  obtain ⟨ht, hi, hB⟩ := hS
  cases hq : P.info? e with
  | none => simp [hq] at hi
  | some i =>
    simp [hq] at hi
    obtain ⟨i1, i2, i3⟩ := hi
    refine wpList_append_own _ hgd s x t ho base e i (.int k 0) 1 B ht hq i1 i2 i3 rfl (by omega) v n (ints k n f) hs hown ⟨g1, 0, none⟩ 1 1 [.int k z] hx rfl ?_ ?_ ?_ ?_ hb ?_
    · intro j u hj
      match j, hj with
      | 0, hj => simp at hj; subst hj; simp [Addr.add]; exact hz
    · intro u hu; simp at hu; subst hu; rfl
    · unfold maxLen; omega
    · have : (n + 1) * B ≤ 1000001 * 8 := Nat.mul_le_mul (by omega) (by omega)
      omega
    · intro v' w' h1 h2 _
      rw [ints_snoc] at h1
      refine h v' w' h1 (fun w0 hb0 => hb0.grown h2 hb (fun q hq' => (hown.lt q hq').1)) h2.size
end Go
namespace Go
open Go.RowKit
section
variable {P : Program} {ops : Array Oper} {md : Region.Mode} {C : World → Prop} {n : Nat}
def headAny (P : Program) (md : Region.Mode) (ops : Array Oper) (C : World → Prop) (n : Nat) (L : Array Bool → Act → Prop) : Nat → Array Bool → Act → Prop
  | 0, listed, a => L listed a
  | f + 1, listed, a => Region.ready md ops listed ≠ [] ∧ ∀ i, i ∈ Region.ready md ops listed → i < n ∧ qOp P ops C i (headAny P md ops C n L f (listed.setIfInBounds i true)) a
theorem headAny_run {g : Nat} {L : Array Bool → Act → Prop} {Q : Exit → Act → World → Prop} (hL : ∀ listed a w, C w → L listed a → wpAny P md ops Q g listed a w) (f : Nat) :
    ∀ (listed : Array Bool) (a : Act) (w : World), C w → headAny P md ops C n L f listed a → wpAny P md ops Q (f + g) listed a w := by
  induction f with
  | zero => intro listed a w hw h; rw [Nat.zero_add]; exact hL _ _ _ hw h
  | succ f ih =>
    intro listed a w hw h
    rw [show f + 1 + g = (f + g) + 1 by omega]
    exact ⟨fun e => absurd e h.1, fun i hi => wpOp_of_qOp hw (fun a' w' hw' h' => ih _ a' w' hw' h') (h.2 i hi).2⟩
theorem headAny_take {i : Nat} {oi : Oper} {v : Value} {L : Array Bool → Act → Prop} (hi : ops[i]? = some oi) (hsel : Region.noSelect ops = true)
    (hs : Region.sinkB md ops n = true) (hc : Region.chainB md ops n = true) (hn : n < ops.size) (hin : i < n)
    (hdone : ∀ listed a, L listed a → ∀ j, j ∈ Region.ready md ops listed → n ≤ j) (f : Nat) :
    ∀ (listed : Array Bool) (a : Act), HeadInv md ops n listed →
      (∀ j oj, ops[j]? = some oj → j ≠ i → listed.getD j true = false → (∀ e ∈ oj.after, Region.binds md e = true → e.on ≠ i) → oi.apart ops oj = true) →
      i ∈ Region.ready md ops listed → YieldsIn P ops C oi v a →
      headAny P md ops C n L f (listed.setIfInBounds i true) (a.put oi.dst v) → headAny P md ops C n L (f + 1) listed a := by
  induction f with
  | zero =>
    intro listed a inv _ hr hy H
    have hun := (mem_ready.1 hr).1
    refine ⟨fun h => (by rw [h] at hr; cases hr), fun j hj => ?_⟩
    have hjn : j < n := by
      by_cases h : j < n
      · exact h
      · exact absurd hj (tail_waits hs hc hn inv _ i rfl hin hun j (by omega))
    refine ⟨hjn, ?_⟩
    by_cases hji : j = i
    · subst hji; exact hy.qOp hi H
    · have := hdone _ _ H j (ready_mono hj hji); omega
  | succ f ih =>
    intro listed a inv hfree hr hy H
    have hun := (mem_ready.1 hr).1
    refine ⟨fun h => (by rw [h] at hr; cases hr), fun j hj => ?_⟩
    have hjn : j < n := by
      by_cases h : j < n
      · exact h
      · exact absurd hj (tail_waits hs hc hn inv _ i rfl hin hun j (by omega))
    refine ⟨hjn, ?_⟩
    by_cases hji : j = i
    · subst hji; exact hy.qOp hi H
    · have h1 := (H.2 j (ready_mono hj hji)).2
      obtain ⟨hjun, oj, hoj, hall⟩ := mem_ready.1 hj
      have hnot : ∀ e ∈ oj.after, Region.binds md e = true → e.on ≠ i := fun e he hb heq => by
        have h1 := hall e he hb
        rw [heq, getD_both hun] at h1
        cases h1
      have h2 := qOp_put hoj (hfree j oj hoj hji hjun hnot) (fun cs b => Region.noSelect_spec hsel i oi cs b hi) (fun cs b => Region.noSelect_spec hsel j oj cs b hoj) hy h1
      have hfree' : ∀ k ok, ops[k]? = some ok → k ≠ i → (listed.setIfInBounds j true).getD k true = false →
          (∀ e ∈ ok.after, Region.binds md e = true → e.on ≠ i) → oi.apart ops ok = true := fun k ok hk hki hun' hno => by
        refine hfree k ok hk hki ?_ hno
        by_cases hjk : j = k
        · subst hjk; exact hjun
        · rw [getD_set_ne true hjk] at hun'; exact hun'
      refine qOp_mono (fun a' h3 => ih (listed.setIfInBounds j true) a' (inv.set hj hjn) hfree' (ready_mono hr (Ne.symm hji)) h3.1 ?_) h2
      rw [Array.setIfInBounds_comm _ _ hji]
      exact h3.2
theorem headAny_text {g : Nat} {Lq : Act → Prop} (hsel : Region.noSelect ops = true) (hs : Region.sinkB md ops n = true) (hc : Region.chainB md ops n = true) (hn : n < ops.size) (l : List Oper) :
    ∀ (k : Nat) (listed : Array Bool) (a : Act), (∀ j, j < l.length → l[j]? = ops[k + j]?) → k + l.length = n → HeadInv md ops n listed →
    Region.lexHead md ops g l.length k listed = true → wpQuiet P ops C Lq l a →
    headAny P md ops C n (fun listed' a' => Region.seqB md ops g n listed' = true ∧ Lq a') l.length listed a := by
  induction l with
  | nil =>
    intro k listed a _ hk _ hB h
    have : k = n := by simpa using hk
    subst this
    exact ⟨by simpa [Region.lexHead] using hB, h⟩
  | cons o l ih =>
    intro k listed a hl hk inv hB h
    have h0 : ops[k]? = some o := by simpa using (hl 0 (by simp)).symm
    simp only [List.length_cons, Region.lexHead, Bool.and_eq_true] at hB
    obtain ⟨⟨hr, hf⟩, hB'⟩ := hB
    have hkn : k < n := by simp only [List.length_cons] at hk; omega
    have hr' : k ∈ Region.ready md ops listed := by simpa using hr
    have hst : qOp P ops C k (wpQuiet P ops C Lq l) a := by unfold qOp; simp only [h0]; exact h
    obtain ⟨v, hy, hK⟩ := yieldsIn_of_qOp h0 hst
    refine headAny_take h0 hsel hs hc hn hkn (fun listed' a' hL => seqB_ready hL.1) l.length listed a inv (Region.free_spec h0 hf) hr' hy ?_
    exact ih (k + 1) _ _ (fun j hj => by have := hl (j + 1) (by simp; omega); simpa [Nat.add_assoc, Nat.add_comm 1 j] using this) (by simp only [List.length_cons] at hk; omega) (inv.set hr' hkn) hB' hK
theorem wp_region_quiet_tail {id : Nat} {Q : Exit → Act → World → Prop} {a : Act} {w : World} {l : List Oper} (n : Nat) (C : World → Prop) (hm : P.follows .mixedOrders = true) (hB : Region.lexTailB .any l.toArray n = true) (hC : C w.drew)
    (h : wpQuiet P l.toArray C (fun a' => ∀ w', C w' → wpList P l.toArray Q (l.drop n) a' w') (l.take n) a) : (Code.region id l.toArray true).wp P Q a w := by
  simp only [Region.lexTailB, Bool.and_eq_true, decide_eq_true_eq] at hB
  obtain ⟨⟨⟨⟨hsel, hn⟩, hs⟩, hc⟩, hlex⟩ := hB
  have hn' : n < l.length := by simpa using hn
  have htl : (l.take n).length = n := by simp; omega
  have hdl : (l.drop n).length = l.toArray.size - n := by simp
  have inv0 : HeadInv .any l.toArray n (Array.replicate l.toArray.size false) :=
    ⟨by simp, fun j oj _ hl => (by rw [getD_replicate_false] at hl; cases hl), fun t _ ht => getD_in (by simpa using ht) (getD_replicate_false _ _)⟩
  have H := headAny_text (md := .any) (g := l.toArray.size - n) hsel hs hc hn (l.take n) 0 _ a (fun j hj => by
    have hj' : j < n := by rw [htl] at hj; exact hj
    simp [hj']) (by simpa using htl) inv0 (by rw [htl]; exact hlex) h
  refine wp_region_any hm ?_
  have := headAny_run (Q := Q) (g := l.toArray.size - n) (fun listed a' w' hw' hL => by
    have := wpAny_of_seq (md := .any) (Q' := Q) (l.drop n) n listed a' w' (fun j => by simp [List.getElem?_drop]) (by rw [hdl]; exact hL.1) (hL.2 w' hw')
    rwa [hdl] at this) _ _ _ w.drew hC H
  rw [htl, show n + (l.toArray.size - n) = l.toArray.size by omega] at this
  exact this
variable {o : Oper} {rest : List Oper} {a : Act} {Q : Act → Prop}
theorem quiet_value (hg : o.guard = none) (v : Value) (hv : ∀ w, C w → ∃ w', (execOp a.eval o).run P w = .ok (.value v) w' ∧ w' = w) (h : wpQuiet P ops C Q rest (a.put o.dst v)) : wpQuiet P ops C Q (o :: rest) a := by
  have hw : Region.wanted o (yielded ops a.tmps) = true := by simp [Region.wanted, hg]
  unfold wpQuiet
  rw [if_pos hw]
  refine ⟨v, fun w hw' => ?_, h⟩
  obtain ⟨w', h1, h2⟩ := hv w hw'
  unfold Oper.quietAt
  rw [h1]
  exact ⟨h2, rfl⟩
theorem quiet_call (hg : o.guard = none) (v : Value) (f : FuncId) (args : Array Value) (hv : ∀ w, (execOp a.eval o).run P w = .ok (.enter f args) w) (hc : ∀ w, C w → Calls P f args w (fun e w' => e = .returned v ∧ C w')) (h : wpQuiet P ops C Q rest (a.put o.dst v)) : wpQuiet P ops C Q (o :: rest) a := by
  have hw : Region.wanted o (yielded ops a.tmps) = true := by simp [Region.wanted, hg]
  unfold wpQuiet
  rw [if_pos hw]
  refine ⟨v, fun w hw' => ?_, h⟩
  unfold Oper.quietAt
  rw [hv w]
  exact ⟨rfl, hc w hw'⟩
theorem quiet_load_row {t m : Nat} (ht : RowTy P t m) (hg : o.guard = none) (x : Operand) (ho : o.op = .load t x) (g : Nat) (hx : a.eval x = .pointer (some ⟨g, 0, none⟩)) (c : Array Value) (hn : c.size = m)
    (hc : ∀ w, C w → w.rowOf g = c) (h : wpQuiet P ops C Q rest (a.put o.dst (.agg c))) : wpQuiet P ops C Q (o :: rest) a := by
  refine quiet_value hg _ (fun w hw => ⟨w, ?_, rfl⟩) h
  unfold execOp
  simp only [ho, hx]
  rw [Sem.run_bind, run_load_row ht w g (by rw [hc w hw, hn]), hc w hw]; rfl
end
end Go
namespace Go.Proofs.YteghoooelgcpkaaGreatDoor
open Go.RowKit Go.Msg
theorem ret_bool {a b : Bool} (h : a = b) : Ending.returned (.bool a) = .returned (.bool b) := by rw [h]
set_option maxHeartbeats 1000000 in
theorem less_at (w : World) (v1 v2 : Value) (n m : Nat) (f g : Nat → Int) (h1 : NumAt w v1 n f) (h2 : NumAt w v2 m g) (d1 : Dig n f) (d2 : Dig m g) (t1 : Trim n f) (t2 : Trim m g) (hn : n ≤ 100000) (hm : m ≤ 100000) :
    Calls Tryz.prog 47 #[v1, v2] w fun e w' => e = .returned (.bool (decide (dval n f < dval m g))) ∧ Below w.heap.size w w' := by
  obtain ⟨ao1, cap1, g1, rfl, hc1, ha1, hx1⟩ := h1
  obtain ⟨ao2, cap2, g2, rfl, hc2, ha2, hx2⟩ := h2
  by_cases hnm : n = m
  · subst hnm
    have hq : ((n : Int) != n) = false := by simp
    go_enter Tryz.func47, Tryz.ntmps47
    go_wp2
    go_loopw [5] (fun i wr => ∃ (k d : Nat), k ≤ n ∧ i = .int .i64 ((k : Int) - 1) ∧ (∀ i, k ≤ i → i < n → f i = g i) ∧ wr = w.dr d) (fun i _ => (intOf i + 1).toNat)
    case atStart => exact ⟨n, _, by omega, rfl, fun i h1 h2 => by omega, (World.dr_self _).symm⟩
    case round =>
      obtain ⟨k, d, hk, rfl, heq, rfl⟩ := hrel
      by_cases hlt : 1 ≤ k
      · have e1 := ha1 (by omega)
        have e2 := ha2 (by omega)
        subst e1 e2
        obtain ⟨j, rfl⟩ : ∃ j, k = j + 1 := ⟨k - 1, by omega⟩
        have cj : ((j + 1 : Nat) : Int) - 1 = j := by omega
        rw [cj]
        have c1 : (0:Int) ≤ j := by omega
        have c2 : (j:Int) < n := by omega
        have c3 := hx1 j (by omega)
        have c4 := hx2 j (by omega)
        clear hx1 hx2 ha1 ha2 cj
        by_cases hd : f j = g j
        · have hd' : (f j != g j) = false := by simp [hd]
          have HD : Hid (f j = g j) := hd
          clear hd
          go_wp2
          go_region
          go_wp2
          go_roundw
          case rel => exact ⟨j, _, by omega, by go_num, fun i h1 h2 => by
            by_cases e : i = j
            · subst e; exact HD.out
            · exact heq i (by omega) h2, rfl⟩
          case measure => simp [intOf]
        · have hd' : (f j != g j) = true := by simp [hd]
          go_wp2
          go_region
          go_wp2
          go_region
          go_wp2
          go_ret
          refine ⟨ret_bool ?_, below_dr (Below.refl _ _) _⟩
          by_cases hl : f j < g j
          · have := dval_top_lt d1 d2 j (by omega) (fun i h1 h2 => heq i (by omega) h2) hl
            simp [hl, this]
          · have := dval_top_lt d2 d1 j (by omega) (fun i h1 h2 => (heq i (by omega) h2).symm) (by omega)
            simp [hl]; omega
      · have hk0 : k = 0 := by omega
        subst hk0
        have he := dval_congr (n := n) (f := f) (g := g) (fun i hi => heq i (by omega) hi)
        have HE : Hid (dval n f = dval n g) := he
        clear he
        go_wp2
        go_ret
        exact ⟨ret_bool (by rw [HE.out]; simp), below_dr (Below.refl _ _) _⟩
  · have hq : ((n : Int) != m) = true := by simp; omega
    go_enter Tryz.func47, Tryz.ntmps47
    go_wp2
    go_ret
    refine ⟨ret_bool ?_, Below.refl _ _⟩
    by_cases hl : n < m
    · have := len_lt d1 d2 t2 hl
      simp [hl, this]
    · have := len_lt d2 d1 t1 (by omega)
      simp [hl]; omega
theorem less_any {w : World} {v1 v2 : Value} {x y : Int} (h1 : IsNum w v1 x) (h2 : IsNum w v2 y) (hx : x < 65536 ^ 1000) (hy : y < 65536 ^ 1000) :
    Calls Tryz.prog 47 #[v1, v2] w fun e w' => e = .returned (.bool (decide (x < y))) ∧ Below w.heap.size w w' := by
  obtain ⟨n, f, a1, a2, a3, rfl⟩ := h1
  obtain ⟨m, g, b1, b2, b3, rfl⟩ := h2
  have := trim_len a2 a3 hx
  have := trim_len b2 b3 hy
  exact less_at w v1 v2 n m f g a1 b1 a2 b2 a3 b3 (by omega) (by omega)
set_option maxHeartbeats 1000000 in
theorem trim_at (w : World) (g n cap : Nat) (f : Nat → Int) (hx : ∀ i, i < n → w.cell? ⟨g, i, none⟩ = some (.int .i64 (f i))) (hc : n ≤ cap) (hn : n ≤ 1000000) :
    Calls Tryz.prog 79 #[.slice (some ⟨g, 0, none⟩) n cap] w fun e w' => ∃ k, k ≤ n ∧ e = .returned (.slice (some ⟨g, 0, none⟩) k cap) ∧ Trim k f ∧ (∀ i, k ≤ i → i < n → f i = 0) ∧ w' = w := by
  go_enter Tryz.func79, Tryz.ntmps79
  go_wp2
  go_loop [3] (fun i => ∃ k : Nat, k ≤ n ∧ i = .int .i64 k ∧ (∀ i, k ≤ i → i < n → f i = 0)) (fun i => (intOf i).toNat)
  case atStart => exact ⟨n, by omega, rfl, fun i h1 h2 => by omega⟩
  case round =>
    obtain ⟨k, hk, rfl, hz⟩ := hrel
    by_cases hlt : 1 ≤ k
    · have c1 : (0:Int) < k := by omega
      have c2 : (0:Int) ≤ (k:Int) - 1 := by omega
      have c3 := hx (k - 1) (by omega)
      have c4 : ((k:Int) - 1).toNat = k - 1 := by omega
      by_cases h0 : f (k - 1) = 0
      · have h0' : (f (k - 1) == 0) = true := by simp [h0]
        have H0 : Hid (f (k - 1) = 0) := h0
        clear h0 hx
        go_wp2
        go_round
        case rel => exact ⟨k - 1, by omega, by go_num, fun i h1 h2 => by
          by_cases e : i = k - 1
          · subst e; exact H0.out
          · exact hz i (by omega) h2⟩
        case measure => simp [intOf]; omega
      · have h0' : (f (k - 1) == 0) = false := by simp [h0]
        clear hx
        go_wp2
        go_ret
        exact ⟨k, hk, rfl, fun _ => h0, hz, rfl⟩
    · have hk0 : k = 0 := by omega
      subst hk0
      clear hx
      go_wp2
      go_ret
      exact ⟨0, by omega, rfl, fun h => by omega, hz, rfl⟩
theorem nums : SliceTy Tryz.prog 72 3 .i64 8 := ⟨Tryz.underlying72, by kernel_rfl, by omega⟩
set_option maxHeartbeats 1000000 in
theorem int_any (x : Int) (h0 : 0 ≤ x) (hx : x ≤ 9223372036854775807) (w : World) : Calls Tryz.prog 45 #[.int .i64 x] w fun e w' => ∃ v, e = .returned v ∧ IsNum w' v x ∧ Below w.heap.size w w' := by
  go_enter Tryz.func45, Tryz.ntmps45
  go_wp2
  go_loopw [0, 3] (fun i v wr => ∃ (y : Int) (k : Nat) (f : Nat → Int), 0 ≤ y ∧ y ≤ x ∧ k ≤ 4 ∧ y * 65536 ^ k ≤ x ∧ i = .int .i64 y ∧ wr.ownsRow w.heap.size 3 1 v k (ints .i64 k f) ∧ Dig k f ∧ (y = 0 → Trim k f) ∧ dval k f + y * 65536 ^ k = x ∧ Below w.heap.size w wr) (fun i _ _ => (intOf i).toNat)
  case atStart => exact ⟨x, 0, fun _ => 0, h0, by omega, by omega, by simp, rfl, World.ownsRow_nil _ _ _ _, fun i hi => by omega, fun _ h => by omega, by simp [dval], Below.refl _ _⟩
  case round =>
    obtain ⟨y, k, f, hy0, hyx, hk4, hpow, rfl, hown, hdig, htr, hval, hbel⟩ := hrel
    have hbs := hbel.size
    by_cases hlt : 0 < y
    · have hk3 : k ≤ 3 := by
        by_cases e : k = 4
        · subst e
          have : (65536 : Int) ^ 4 = 18446744073709551616 := by decide
          rw [this] at hpow; omega
        · omega
      go_wp2_with (refine wpl_append1 nums rfl _ _ rfl w.heap.size _ k f rfl ?_ (wr.heap.size) (y % 65536) rfl ?_ (by omega) ?_ ?_; (focus (exact hown.alloc _)); (focus (simp [go_sem]; done)); (focus (simp; omega)); intro v' w' hown' hbel' hsz')
      go_roundw
      case rel =>
        refine ⟨y / 65536, k + 1, upd f k (y % 65536), by omega, by omega, by omega, ?_, rfl, hown', fun i hi => ?_, fun hy => ?_, ?_, hbel' _ (hbel.alloc hbs _)⟩
        · have h1 := split_digit y k
          have h2 : 0 ≤ y % 65536 * 65536 ^ k := Int.mul_nonneg (by omega) (Int.pow_nonneg (by omega))
          omega
        · exact hdig.snoc (by omega) i hi
        · exact trim_snoc (by omega)
        · rw [dval_snoc]; have := split_digit y k; omega
      case measure => simp [intOf]; omega
    · have hy : y = 0 := by omega
      subst hy
      have HT : Hid (Trim k f) := htr rfl
      go_wp2
      go_ret
      exact ⟨_, rfl, ⟨k, f, NumAt.of_owns hown, hdig, HT.out, by simpa using hval⟩, hbel⟩
end Go.Proofs.YteghoooelgcpkaaGreatDoor
namespace Go.Proofs.YteghoooelgcpkaaGreatDoor
open Go.RowKit Go.Msg
end Go.Proofs.YteghoooelgcpkaaGreatDoor
namespace Go.Proofs.YteghoooelgcpkaaGreatDoor
open Go.RowKit Go.Msg
set_option maxHeartbeats 2000000 in
theorem rtimes_at (w : World) (v1 v2 : Value) (n m : Nat) (a b : Nat → Int) (h1 : NumAt w v1 n a) (h2 : NumAt w v2 m b) (d1 : Dig n a) (d2 : Dig m b) (hn : n ≤ 100000) (hm : m ≤ 100000) :
    Calls Tryz.prog 46 #[v1, v2] w fun e w' => ∃ v, e = .returned v ∧ IsNum w' v (dval n a * dval m b) ∧ Below w.heap.size w w' := by
  obtain ⟨ao1, cap1, g1, rfl, hc1, ha1, hx1⟩ := h1
  obtain ⟨ao2, cap2, g2, rfl, hc2, ha2, hx2⟩ := h2
  go_enter Tryz.func46, Tryz.ntmps46
  go_wp2_with (refine wpl_make nums rfl _ _ rfl (n + m + 1) _ _ rfl rfl (by omega) (by omega) (by omega) ?_)
  go_loopw [6, 7, 8] (fun i _ _ wr => ∃ (k d : Nat) (F : Nat → Int), k ≤ n ∧ i = .int .i64 k ∧ Muls n m a b k 0 0 F ∧ wr = (w.alloc (.cells (tab .i64 (n + m + 1) F) 3)).dr d) (fun i _ _ _ => n - (intOf i).toNat)
  case atStart => exact ⟨0, _, _, by omega, rfl, Muls.start n m a b, (World.dr_self _).symm⟩
  case round =>
    obtain ⟨k, d, F, hk, rfl, hS, rfl⟩ := hrel
    by_cases hkn : k < n
    · have e1 := ha1 (by omega)
      subst e1
      have c1 : (k : Int) < n := by omega
      have b1 := d1 k hkn
      go_wp2
      go_loopw [7, 8] (fun c j wr => ∃ (q d : Nat) (y : Int) (F : Nat → Int), q ≤ m ∧ j = .int .i64 q ∧ c = .int .i64 y ∧ Muls n m a b k q y F ∧ wr = (w.alloc (.cells (tab .i64 (n + m + 1) F) 3)).dr d) (fun _ j _ => m - (intOf j).toNat)
      case atStart => exact ⟨0, _, 0, _, by omega, rfl, rfl, hS, rfl⟩
      case round =>
        clear hS
        obtain ⟨q, d, y, F, hq, rfl, rfl, hS, rfl⟩ := hrel
        have hc := hS.c0
        by_cases hqm : q < m
        · have e2 := ha2 (by omega)
          subst e2
          have l1 := World.block_lt_of_cell? w _ (hx1 k hkn)
          have l2 := World.block_lt_of_cell? w _ (hx2 q hqm)
          have y1 := hx1 k hkn
          have y2 := hx2 q hqm
          have c2 : (q : Int) < m := by omega
          have c3 : k + q < n + m + 1 := by omega
          have b2 := d2 q hqm
          have b3 := mul16 b1 b2
          have b4 := hS.dig (k + q) c3
          have ST := hS.step hkn hqm d1 d2 rfl
          have HST : Hid _ := ST
          clear ST hx1 hx2 ha1 ha2
          go_wp2
          go_region
          go_wp2
          go_roundw
          case rel => exact ⟨q + 1, _, _, _, by omega, by go_num, rfl, HST.out, rfl⟩
          case measure => simp [intOf]; omega
        · have hq' : q = m := by omega
          subst hq'
          have c3 : k + q < n + q + 1 := by omega
          have ST := hS.row hkn
          have HST : Hid _ := ST
          clear ST hx1 hx2
          go_wp2
          go_roundw
          case rel => exact ⟨k + 1, _, _, by omega, by go_num, HST.out, rfl⟩
          case measure => simp [intOf]; omega
    · have hk' : k = n := by omega
      subst hk'
      have D := hS.done
      have HD : Hid _ := D
      clear D
      have hcell : ∀ i, i < k + m + 1 → ((w.alloc (.cells (tab .i64 (k + m + 1) F) 3)).dr d).cell? ⟨w.heap.size, i, none⟩ = some (.int .i64 (F i)) := fun i hi => by simp [go_sem, hi]
      have HC : Hid _ := hcell
      clear hcell
      go_wp2_with (go_at_call 79; refine (trim_at _ _ _ _ F HC.out (by omega) (by omega)).mono ?_; rintro e w' ⟨j, hj, rfl, htr, hz, rfl⟩)
      go_ret
      refine ⟨_, rfl, ⟨j, F, NumAt.of_row (N := k + m + 1) (F := F) (by simp [go_sem]) (by omega) hj (fun _ _ => rfl), fun i hi => hS.dig i (by omega), htr, ?_⟩, below_dr ((Below.refl _ _).alloc (Nat.le_refl _) _) _⟩
      rw [← HD.out]
      obtain ⟨c, hc⟩ : ∃ c, k + m + 1 = j + c := ⟨k + m + 1 - j, by omega⟩
      rw [hc, dval_shift, dval_congr (n := c) (g := fun _ => 0) (fun i hi => hz _ (by omega) (by omega)), dval_zero]; omega
theorem rtimes_any {w : World} {v1 v2 : Value} {x y : Int} (h1 : IsNum w v1 x) (h2 : IsNum w v2 y) (hx : x < 65536 ^ 1000) (hy : y < 65536 ^ 1000) :
    Calls Tryz.prog 46 #[v1, v2] w fun e w' => ∃ v, e = .returned v ∧ IsNum w' v (x * y) ∧ Below w.heap.size w w' := by
  obtain ⟨n, f, a1, a2, a3, rfl⟩ := h1
  obtain ⟨m, g, b1, b2, b3, rfl⟩ := h2
  have := trim_len a2 a3 hx
  have := trim_len b2 b3 hy
  exact rtimes_at w v1 v2 n m f g a1 b1 a2 b2 (by omega) (by omega)
end Go.Proofs.YteghoooelgcpkaaGreatDoor
namespace Go.Proofs.YteghoooelgcpkaaGreatDoor
open Go.RowKit Go.Msg
end Go.Proofs.YteghoooelgcpkaaGreatDoor
namespace Go.Proofs.YteghoooelgcpkaaGreatDoor
open Go.RowKit Go.Msg
end Go.Proofs.YteghoooelgcpkaaGreatDoor
namespace Go.Proofs.YteghoooelgcpkaaGreatDoor
open Go.RowKit Go.Msg
end Go.Proofs.YteghoooelgcpkaaGreatDoor
namespace Go.Proofs.YteghoooelgcpkaaGreatDoor
open Go.RowKit Go.Msg
theorem by_alloc (w : World) (o : Obj) : Below w.heap.size w (w.alloc o) := (Below.refl _ _).alloc (Nat.le_refl _) _
end Go.Proofs.YteghoooelgcpkaaGreatDoor
namespace Go.Proofs.YteghoooelgcpkaaGreatDoor
open Go.RowKit Go.Msg
theorem rt117 : RowTy Tryz.prog 189 20 := ⟨by decide, by kernel_rfl, _, Tryz.underlying189, rfl⟩
abbrev c20 (f : Nat → Int) : Obj := .cells (tab .u32 20 f) 189
abbrev z20 : Obj := .cells (tab .u32 20 (fun _ => 0)) 189
@[go_sem] theorem zero20 : #[Value.int IntKind.u32 0, Value.int IntKind.u32 0, Value.int IntKind.u32 0, Value.int IntKind.u32 0, Value.int IntKind.u32 0, Value.int IntKind.u32 0, Value.int IntKind.u32 0, Value.int IntKind.u32 0, Value.int IntKind.u32 0, Value.int IntKind.u32 0, Value.int IntKind.u32 0, Value.int IntKind.u32 0, Value.int IntKind.u32 0, Value.int IntKind.u32 0, Value.int IntKind.u32 0, Value.int IntKind.u32 0, Value.int IntKind.u32 0, Value.int IntKind.u32 0, Value.int IntKind.u32 0, Value.int IntKind.u32 0] = tab .u32 20 (fun _ => 0) := by rw [tab_eq]; rfl
theorem below2 (w : World) (A B : Obj) (n : Nat) : Below w.heap.size w (((w.alloc A).alloc B).dr n) :=
  below_dr (((Below.refl _ _).alloc (Nat.le_refl _) _).alloc (by simp) _) n
set_option maxHeartbeats 400000 in
theorem carried_any (f : Nat → Int) (hf : ∀ i, i < 20 → 0 ≤ f i ∧ f i ≤ 4294443008) (w : World) :
    Calls Tryz.prog 189 #[.agg (tab .u32 20 f)] w fun e w' => ∃ x, e = .returned (.agg (tab .u32 20 x)) ∧ Carried 20 f 19 x ∧ Below w.heap.size w w' := by
  go_enter Tryz.func189, Tryz.ntmps189
  go_wp2
  go_loopw [3] (fun i wr => ∃ (k n : Nat) (x : Nat → Int), k ≤ 19 ∧ i = .int .i64 k ∧ Carried 20 f k x ∧ wr = ((w.alloc (.cells (tab .u32 20 x) 189)).alloc (.cells (tab .u32 20 (fun _ => 0)) 189)).dr n) (fun i _ => 19 - (intOf i).toNat)
  case atStart => exact ⟨0, _, f, by omega, rfl, Carried.start 20 f (hf 0 (by omega)).1, (World.dr_self _).symm⟩
  case round =>
    obtain ⟨k, n, x, hk, rfl, hc, rfl⟩ := hrel
    by_cases hlt : k < 19
    · have c0 : (0:Int) ≤ k := by omega
      have c1 : (k:Int) + 1 < 20 := by omega
      have c2 : k + 1 < 20 := by omega
      have c3 : k < 20 := by omega
      obtain ⟨b1, b2, b3, b4⟩ : 0 ≤ x k ∧ x k < 4294967296 ∧ 0 ≤ x (k + 1) ∧ x (k + 1) ≤ 4294443008 := by
        have h1 := hc.at_; have h2 := hc.high (k + 1) (by omega); have h3 := hf k c3; have h4 := hf (k + 1) c2
        rw [h2]; omega
      go_wp2
      go_region
      go_wp2
      go_roundw
      case rel => exact ⟨k + 1, _, carry1 x k, by omega, by go_num, hc.step c2 hf, by rw [bits_and_8191 _ b1 b2]; rfl⟩
      case measure => simp [intOf]; omega
    · have hk' : k = 19 := by omega
      subst hk'
      go_wp2_with (first | (refine wpl_load rt117 rfl _ rfl _ rfl (tab .u32 20 x) (by simp [go_sem]) (tab_size _ _ _) ?_) | (refine wpl_store rt117 rfl _ _ rfl _ rfl (tab .u32 20 x) rfl (by simp [go_sem]) (tab_size _ _ _) (tab_all _ _ _) (((w.alloc (.cells (tab .u32 20 x) 189)).alloc (.cells (tab .u32 20 x) 189)).dr n) (by simp [go_sem]) ?_))
      exact bodyPost_ret (v := .agg (tab .u32 20 x)) (by rw [results_row rt117 Tryz.results189 _ _ (w.heap.size + 1) rfl (by simp [go_sem])]; simp [go_sem]) rfl ⟨x, rfl, hc, below2 _ _ _ _⟩
end Go.Proofs.YteghoooelgcpkaaGreatDoor
namespace Go.Proofs.YteghoooelgcpkaaGreatDoor
open Go.RowKit Go.Msg
set_option maxHeartbeats 400000 in
theorem wrapped_any (x : Nat → Int) (h19 : 0 ≤ x 19) (h19' : x 19 < 4294967296) (h0 : 0 ≤ x 0) (h0' : x 0 + 19 * (x 19 / 256) < 4294967296) (w : World) :
    Calls Tryz.prog 190 #[.agg (tab .u32 20 x)] w fun e w' => e = .returned (.agg (tab .u32 20 (wrap1 x))) ∧ Below w.heap.size w w' := by
  go_enter Tryz.func190, Tryz.ntmps190
  have hw1 : upd (upd x 19 (bits .and .u32 (x 19) 255)) 0 (x 0 + 19 * (x 19 / 256)) = wrap1 x := by rw [bits_and_255 _ h19 h19']; rfl
  go_wp2_with (first | (refine wpl_load rt117 rfl _ rfl _ rfl (tab .u32 20 (wrap1 x)) ?_ (tab_size _ _ _) ?_; (focus (first | (simp [go_sem]; done) | (simp (disch := first | (simp [go_sem]; done) | (simp [go_sem]; omega)) [go_sem]; done)))) | (refine wpl_store rt117 rfl _ _ rfl _ rfl (tab .u32 20 (wrap1 x)) rfl ?_ (tab_size _ _ _) (tab_all _ _ _) ((w.alloc (.cells (tab .u32 20 (wrap1 x)) 189)).alloc (.cells (tab .u32 20 (wrap1 x)) 189)) ?_ ?_; (focus (first | (simp [go_sem]; done) | (simp (disch := first | (simp [go_sem]; done) | (simp [go_sem]; omega)) [go_sem]; done))); (focus (first | (simp [go_sem]; done) | (simp (disch := first | (simp [go_sem]; done) | (simp [go_sem]; omega)) [go_sem]; done)))))
  exact bodyPost_ret (v := .agg (tab .u32 20 (wrap1 x))) (by rw [results_row rt117 Tryz.results190 _ _ (w.heap.size + 1) rfl (by first | (simp [go_sem]; done) | (simp (disch := first | (simp [go_sem]; done) | (simp [go_sem]; omega)) [go_sem]; done))]; first | (simp [go_sem]; done) | (simp (disch := first | (simp [go_sem]; done) | (simp [go_sem]; omega)) [go_sem]; done)) rfl ⟨rfl, ((Below.refl _ _).alloc (Nat.le_refl _) _).alloc (by simp) _⟩
set_option maxHeartbeats 800000 in
theorem tidy_any (f : Nat → Int) (hf : ∀ i, i < 20 → 0 ≤ f i ∧ f i ≤ 4294443008) (w : World) :
    Calls Tryz.prog 188 #[.agg (tab .u32 20 f)] w fun e w' => ∃ x, e = .returned (.agg (tab .u32 20 x)) ∧ Tidy x ∧ lval 20 x % P25519 = lval 20 f % P25519 ∧ Below w.heap.size w w' := by
  go_enter Tryz.func188, Tryz.ntmps188
  go_wp2
  go_loopw [3] (fun i wr => ∃ (k n : Nat) (x : Nat → Int) (bs : List Obj), k ≤ 2 ∧ i = .int .i64 k ∧ TidyAt f k x ∧ wr = (((w.alloc (.cells (tab .u32 20 x) 189)).alloc (.cells (tab .u32 20 (fun _ => 0)) 189)).exts bs).dr n) (fun i _ => 2 - (intOf i).toNat)
  case atStart => exact ⟨0, _, f, [], by omega, rfl, TidyAt.start hf, by rw [World.exts_nil, World.dr_self]⟩
  case round =>
    obtain ⟨k, n, x, bs, hk, rfl, hc, rfl⟩ := hrel
    by_cases hlt : k < 2
    · go_wp2_with (first | (refine wpl_load rt117 rfl _ rfl _ rfl (tab .u32 20 x) ?_ (tab_size _ _ _) ?_; (focus (first | (simp [go_sem]; done) | (simp (disch := first | (simp [go_sem]; done) | (simp [go_sem]; omega)) [go_sem]; done)))) | (go_at_call 189; refine (carried_any x hc.bound _).mono ?_; rintro e w' ⟨x1, rfl, hc1, hb1⟩; obtain ⟨bs1, n1, rfl⟩ := below_form2 hb1; obtain ⟨hs1, hs2, hs3⟩ := hc.step hlt hc1) | (refine wpl_store rt117 rfl _ _ rfl _ rfl (tab .u32 20 x1) rfl ?_ (tab_size _ _ _) (tab_all _ _ _) ((((w.alloc (.cells (tab .u32 20 x1) 189)).alloc (.cells (tab .u32 20 (fun _ => 0)) 189)).exts bs1).dr n1) ?_ ?_; (focus (first | (simp [go_sem]; done) | (simp (disch := first | (simp [go_sem]; done) | (simp [go_sem]; omega)) [go_sem]; done))); (focus (first | (simp [go_sem]; done) | (simp (disch := first | (simp [go_sem]; done) | (simp [go_sem]; omega)) [go_sem]; done)))) | (refine wpl_load rt117 rfl _ rfl _ rfl (tab .u32 20 x1) ?_ (tab_size _ _ _) ?_; (focus (first | (simp [go_sem]; done) | (simp (disch := first | (simp [go_sem]; done) | (simp [go_sem]; omega)) [go_sem]; done)))) | (go_at_call 190; refine (wrapped_any x1 hc1.at_.1 hs2 (hc1.low 0 (by omega)).1 hs3 _).mono ?_; rintro e w' ⟨rfl, hb2⟩; obtain ⟨bs2, n2, rfl⟩ := below_form2 hb2) | (refine wpl_store rt117 rfl _ _ rfl _ rfl (tab .u32 20 (wrap1 x1)) rfl ?_ (tab_size _ _ _) (tab_all _ _ _) ((((w.alloc (.cells (tab .u32 20 (wrap1 x1)) 189)).alloc (.cells (tab .u32 20 (fun _ => 0)) 189)).exts bs2).dr n2) ?_ ?_; (focus (first | (simp [go_sem]; done) | (simp (disch := first | (simp [go_sem]; done) | (simp [go_sem]; omega)) [go_sem]; done))); (focus (first | (simp [go_sem]; done) | (simp (disch := first | (simp [go_sem]; done) | (simp [go_sem]; omega)) [go_sem]; done)))))
      go_roundw
      case rel => exact ⟨k + 1, _, _, _, by omega, by go_num, hs1, rfl⟩
      case measure => simp [intOf]; omega
    · have hk' : k = 2 := by omega
      subst hk'
      go_wp2_with (first | (refine wpl_load rt117 rfl _ rfl _ rfl (tab .u32 20 x) ?_ (tab_size _ _ _) ?_; (focus (first | (simp [go_sem]; done) | (simp (disch := first | (simp [go_sem]; done) | (simp [go_sem]; omega)) [go_sem]; done)))) | (refine wpl_store rt117 rfl _ _ rfl _ rfl (tab .u32 20 x) rfl ?_ (tab_size _ _ _) (tab_all _ _ _) ((((w.alloc (.cells (tab .u32 20 x) 189)).alloc (.cells (tab .u32 20 x) 189)).exts bs).dr n) ?_ ?_; (focus (first | (simp [go_sem]; done) | (simp (disch := first | (simp [go_sem]; done) | (simp [go_sem]; omega)) [go_sem]; done))); (focus (first | (simp [go_sem]; done) | (simp (disch := first | (simp [go_sem]; done) | (simp [go_sem]; omega)) [go_sem]; done)))))
      exact bodyPost_ret (v := .agg (tab .u32 20 x)) (by rw [results_row rt117 Tryz.results188 _ _ (w.heap.size + 1) rfl (by first | (simp [go_sem]; done) | (simp (disch := first | (simp [go_sem]; done) | (simp [go_sem]; omega)) [go_sem]; done))]; first | (simp [go_sem]; done) | (simp (disch := first | (simp [go_sem]; done) | (simp [go_sem]; omega)) [go_sem]; done)) rfl ⟨x, rfl, hc.tidy, hc.vl, below_dr (below_exts' (((Below.refl _ _).alloc (Nat.le_refl _) _).alloc (by simp) _) (by simp; omega) _) _⟩
end Go.Proofs.YteghoooelgcpkaaGreatDoor
namespace Go.Proofs.YteghoooelgcpkaaGreatDoor
open Go.RowKit Go.Msg
theorem below2e (w : World) (A B : Obj) (bs : List Obj) (n : Nat) : Below w.heap.size w ((((w.alloc A).alloc B).exts bs).dr n) :=
  below_dr (below_exts' (((Below.refl _ _).alloc (Nat.le_refl _) _).alloc (by simp) _) (by simp; omega) _) _
theorem below3e (w : World) (A B C : Obj) (bs : List Obj) (n : Nat) : Below w.heap.size w (((((w.alloc A).alloc B).alloc C).exts bs).dr n) :=
  below_dr (below_exts' ((((Below.refl _ _).alloc (Nat.le_refl _) _).alloc (by simp) _).alloc (by simp; omega) _) (by simp; omega) _) _
theorem below4e (w : World) (A B C D : Obj) (bs : List Obj) (n : Nat) : Below w.heap.size w ((((((w.alloc A).alloc B).alloc C).alloc D).exts bs).dr n) :=
  below_dr (below_exts' (((((Below.refl _ _).alloc (Nat.le_refl _) _).alloc (by simp) _).alloc (by simp; omega) _).alloc (by simp; omega) _) (by simp; omega) _) _
set_option maxHeartbeats 800000 in
theorem least_any (f : Nat → Int) (hf : Tidy f) (w : World) :
    Calls Tryz.prog 184 #[.agg (tab .u32 20 f)] w fun e w' => ∃ y, e = .returned (.agg (tab .u32 20 y)) ∧ (∀ i, i < 20 → 0 ≤ y i) ∧ (∀ i, i < 19 → y i ≤ 8191) ∧ y 19 ≤ 255 ∧ lval 20 y = lval 20 f % P25519 ∧ Below w.heap.size w w' := by
  have b0 : 0 ≤ f 0 := hf.nn 0 (by omega)
  have b1 : f 0 ≤ 8210 := hf.le0
  have hg : ∀ i, i < 20 → 0 ≤ upd f 0 (f 0 + 19) i ∧ upd f 0 (f 0 + 19) i ≤ 4294443008 := fun i hi => by
    have := hf.le' i hi
    by_cases e : i = 0
    · subst e; simp [upd]; omega
    · simp [upd, e]; omega
  have hg2 : ∀ q, 0 ≤ q → q ≤ 20000 → ∀ i, i < 20 → 0 ≤ upd f 0 (f 0 + 19 * q) i ∧ upd f 0 (f 0 + 19 * q) i ≤ 4294443008 := fun q h1 h2 i hi => by
    have := hf.le' i hi
    by_cases e : i = 0
    · subst e; simp [upd]; omega
    · simp [upd, e]; omega
  have f19 : upd f 0 (f 0 + 19) 19 = f 19 := by simp [upd]
  have t19 := hf.top
  go_enter Tryz.func184, Tryz.ntmps184
  go_wp2_with (first
    | (refine wpl_load rt117 rfl _ rfl _ rfl (tab .u32 20 f) ?_ (tab_size _ _ _) ?_; (focus (first | (simp [go_sem]; done) | (simp (disch := first | (simp [go_sem]; done) | (simp [go_sem]; omega)) [go_sem]; done))))
    | (refine wpl_store rt117 rfl _ _ rfl _ rfl (tab .u32 20 f) rfl ?_ (tab_size _ _ _) (tab_all _ _ _) (((w.alloc (c20 f)).alloc z20).alloc (c20 f)) ?_ ?_; (focus (first | (simp [go_sem]; done) | (simp (disch := first | (simp [go_sem]; done) | (simp [go_sem]; omega)) [go_sem]; done))); (focus (first | (simp [go_sem]; done) | (simp (disch := first | (simp [go_sem]; done) | (simp [go_sem]; omega)) [go_sem]; done))))
    | (refine wpl_load rt117 rfl _ rfl _ rfl (tab .u32 20 (upd f 0 (f 0 + 19))) ?_ (tab_size _ _ _) ?_; (focus (first | (simp [go_sem]; done) | (simp (disch := first | (simp [go_sem]; done) | (simp [go_sem]; omega)) [go_sem]; done))))
    | (go_at_call 189; refine (carried_any _ ?_ _).mono ?_; (focus (with_reducible exact hg)); rintro e w' ⟨x, rfl, hx, hb⟩; obtain ⟨bs, n, rfl⟩ := below_form hb; obtain ⟨hx1, hx2⟩ := hx.at_; rw [f19] at hx2)
    | (refine wpl_store rt117 rfl _ _ rfl _ rfl (tab .u32 20 x) rfl ?_ (tab_size _ _ _) (tab_all _ _ _) (((((w.alloc (c20 f)).alloc z20).alloc (c20 x)).exts bs).dr n) ?_ ?_; (focus (first | (simp [go_sem]; done) | (simp (disch := first | (simp [go_sem]; done) | (simp [go_sem]; omega)) [go_sem]; done))); (focus (first | (simp [go_sem]; done) | (simp (disch := first | (simp [go_sem]; done) | (simp [go_sem]; omega)) [go_sem]; done))))
    | (refine wpl_load rt117 rfl _ rfl _ rfl (tab .u32 20 (upd f 0 (f 0 + 19 * (x 19 / 256)))) ?_ (tab_size _ _ _) ?_; (focus (first | (simp [go_sem]; done) | (simp (disch := first | (simp [go_sem]; done) | (simp [go_sem]; omega)) [go_sem]; done))))
    | (go_at_call 189; refine (carried_any _ ?_ _).mono ?_; (focus (with_reducible exact hg2 _ (by omega) (by omega))); rintro e w' ⟨y, rfl, hy, hb⟩; obtain ⟨bs2, n2, rfl⟩ := below_form2 hb; obtain ⟨hy1, hy2⟩ := hy.at_)
    | (refine wpl_store rt117 rfl _ _ rfl _ rfl (tab .u32 20 y) rfl ?_ (tab_size _ _ _) (tab_all _ _ _) (((((w.alloc (c20 y)).alloc z20).alloc (c20 x)).exts bs2).dr n2) ?_ ?_; (focus (first | (simp [go_sem]; done) | (simp (disch := first | (simp [go_sem]; done) | (simp [go_sem]; omega)) [go_sem]; done))); (focus (first | (simp [go_sem]; done) | (simp (disch := first | (simp [go_sem]; done) | (simp [go_sem]; omega)) [go_sem]; done))))
    | (refine wpl_load rt117 rfl _ rfl _ rfl (tab .u32 20 (upd y 19 (bits .and .u32 (y 19) 255))) ?_ (tab_size _ _ _) ?_; (focus (first | (simp [go_sem]; done) | (simp (disch := first | (simp [go_sem]; done) | (simp [go_sem]; omega)) [go_sem]; done))))
    | (refine wpl_store rt117 rfl _ _ rfl _ rfl (tab .u32 20 (upd y 19 (bits .and .u32 (y 19) 255))) rfl ?_ (tab_size _ _ _) (tab_all _ _ _) (((((w.alloc (c20 (upd y 19 (bits .and .u32 (y 19) 255)))).alloc (c20 (upd y 19 (bits .and .u32 (y 19) 255)))).alloc (c20 x)).exts bs2).dr n2) ?_ ?_; (focus (first | (simp [go_sem]; done) | (simp (disch := first | (simp [go_sem]; done) | (simp [go_sem]; omega)) [go_sem]; done))); (focus (first | (simp [go_sem]; done) | (simp (disch := first | (simp [go_sem]; done) | (simp [go_sem]; omega)) [go_sem]; done)))))
  have hy19 : y 19 < 4294967296 := by have : upd f 0 (f 0 + 19 * (x 19 / 256)) 19 = f 19 := by simp [upd]
                                      omega
  have L := least_math hf rfl hx hy
  rw [bits_and_255 _ hy1 hy19]
  exact bodyPost_ret (v := .agg (tab .u32 20 (upd y 19 (y 19 % 256)))) (by rw [results_row rt117 Tryz.results184 _ _ (w.heap.size + 1) rfl (by first | (simp [go_sem]; done) | (simp (disch := first | (simp [go_sem]; done) | (simp [go_sem]; omega)) [go_sem]; done))]; first | (simp [go_sem]; done) | (simp (disch := first | (simp [go_sem]; done) | (simp [go_sem]; omega)) [go_sem]; done)) rfl ⟨_, rfl, L.1, L.2.1, L.2.2.1, L.2.2.2, below3e _ _ _ _ _ _⟩
end Go.Proofs.YteghoooelgcpkaaGreatDoor
namespace Go.Proofs.YteghoooelgcpkaaGreatDoor
open Go.RowKit Go.Msg
set_option maxHeartbeats 800000 in
theorem plus_any (f g : Nat → Int) (hf : Tidy f) (hg : Tidy g) (w : World) :
    Calls Tryz.prog 179 #[.agg (tab .u32 20 f), .agg (tab .u32 20 g)] w fun e w' => ∃ x, e = .returned (.agg (tab .u32 20 x)) ∧ Tidy x ∧ lval 20 x % P25519 = (lval 20 f + lval 20 g) % P25519 ∧ Below w.heap.size w w' := by
  go_enter Tryz.func179, Tryz.ntmps179
  go_wp2
  go_loopw [5] (fun i wr => ∃ (k n : Nat), k ≤ 20 ∧ i = .int .i64 k ∧ wr = (((w.alloc (c20 (addTo f g k))).alloc (c20 g)).alloc z20).dr n) (fun i _ => 20 - (intOf i).toNat)
  case atStart => exact ⟨0, _, by omega, rfl, by rw [addTo_zero, World.dr_self]⟩
  case round =>
    obtain ⟨k, n, hk, rfl, rfl⟩ := hrel
    by_cases hlt : k < 20
    · have c1 : (k:Int) < 20 := by omega
      have b1 := hf.le' k hlt
      have b2 := hg.le' k hlt
      have HA := addTo_at f g k
      go_wp2
      go_region
      go_wp2
      go_roundw
      case rel => exact ⟨k + 1, _, by omega, by go_num, by rw [addTo_step]⟩
      case measure => simp [intOf]; omega
    · have hk' : k = 20 := by omega
      subst hk'
      have hb : ∀ i, i < 20 → 0 ≤ addTo f g 20 i ∧ addTo f g 20 i ≤ 4294443008 := fun i hi => by
        have := hf.le' i hi; have := hg.le' i hi
        simp only [addTo, hi, if_true]; omega
      go_wp2_with (first | (refine wpl_load rt117 rfl _ rfl _ rfl (tab .u32 20 (addTo f g 20)) ?_ (tab_size _ _ _) ?_; (focus (first | (simp [go_sem]; done) | (simp (disch := first | (simp [go_sem]; done) | (simp [go_sem]; omega)) [go_sem]; done)))) | (go_at_call 188; refine (tidy_any _ ?_ _).mono ?_; (focus (with_reducible exact hb)); rintro e w' ⟨x, rfl, hx, hv, hb1⟩; obtain ⟨bs1, n1, rfl⟩ := below_form hb1) | (refine wpl_store rt117 rfl _ _ rfl _ rfl (tab .u32 20 x) rfl ?_ (tab_size _ _ _) (tab_all _ _ _) (((((w.alloc (c20 (addTo f g 20))).alloc (c20 g)).alloc (c20 x)).exts bs1).dr n1) ?_ ?_; (focus (first | (simp [go_sem]; done) | (simp (disch := first | (simp [go_sem]; done) | (simp [go_sem]; omega)) [go_sem]; done))); (focus (first | (simp [go_sem]; done) | (simp (disch := first | (simp [go_sem]; done) | (simp [go_sem]; omega)) [go_sem]; done)))))
      exact bodyPost_ret (v := .agg (tab .u32 20 x)) (by rw [results_row rt117 Tryz.results179 _ _ (w.heap.size + 1 + 1) rfl (by first | (simp [go_sem]; done) | (simp (disch := first | (simp [go_sem]; done) | (simp [go_sem]; omega)) [go_sem]; done))]; first | (simp [go_sem]; done) | (simp (disch := first | (simp [go_sem]; done) | (simp [go_sem]; omega)) [go_sem]; done)) rfl ⟨x, rfl, hx, by rw [hv, addTo_lval], below3e _ _ _ _ _ _⟩
set_option maxHeartbeats 800000 in
theorem minus_any (f g : Nat → Int) (hf : Tidy f) (hg : Tidy g) (w : World) :
    Calls Tryz.prog 180 #[.agg (tab .u32 20 f), .agg (tab .u32 20 g)] w fun e w' => ∃ x, e = .returned (.agg (tab .u32 20 x)) ∧ Tidy x ∧ lval 20 x % P25519 = (lval 20 f - lval 20 g) % P25519 ∧ Below w.heap.size w w' := by
  have b0 := hf.le' 0 (by omega)
  have g0 := hg.le' 0 (by omega)
  have b19 := hf.le' 19 (by omega)
  have g19 := hg.nn 19 (by omega)
  have g19' := hg.top
  have HS : Hid (upd f 0 (f 0 + (16346 - g 0)) = addTo f (from2p g) 1) := by
    have := addTo_step f (from2p g) 0
    rw [addTo_zero] at this; exact this
  go_enter Tryz.func180, Tryz.ntmps180
  go_wp2
  rw [HS.out]
  go_loopw [5] (fun i wr => ∃ (k n : Nat), 1 ≤ k ∧ k ≤ 19 ∧ i = .int .i64 k ∧ wr = (((w.alloc (c20 (addTo f (from2p g) k))).alloc (c20 g)).alloc z20).dr n) (fun i _ => 19 - (intOf i).toNat)
  case atStart => exact ⟨1, _, by omega, by omega, rfl, by rw [World.dr_self]⟩
  case round =>
    obtain ⟨k, n, hk1, hk, rfl, rfl⟩ := hrel
    by_cases hlt : k < 19
    · have c1 : (k:Int) < 20 := by omega
      have c2 : k < 20 := by omega
      have b1 := hf.le' k c2
      have b2 := hg.le' k c2
      have HA := addTo_at f (from2p g) k
      have HF : Hid (16382 - g k = from2p g k) := by show _ = _; unfold from2p; rw [if_neg (by omega), if_neg (by omega)]
      go_wp2
      go_region
      go_wp2
      go_roundw
      case rel => exact ⟨k + 1, _, by omega, by omega, by go_num, by rw [HF.out, addTo_step]⟩
      case measure => simp [intOf]; omega
    · have hk' : k = 19 := by omega
      subst hk'
      have HA := addTo_at f (from2p g) 19
      have HF : upd (addTo f (from2p g) 19) 19 (f 19 + (510 - g 19)) = addTo f (from2p g) 20 := addTo_step f (from2p g) 19
      have hb : ∀ i, i < 20 → 0 ≤ addTo f (from2p g) 20 i ∧ addTo f (from2p g) 20 i ≤ 4294443008 := fun i hi => by
        have := hf.le' i hi; have := hg.le' i hi
        simp only [addTo, hi, if_true, from2p]
        split
        · omega
        · split <;> omega
      go_wp2_with (first | (refine wpl_load rt117 rfl _ rfl _ rfl (tab .u32 20 (addTo f (from2p g) 20)) ?_ (tab_size _ _ _) ?_; (focus (first | (simp [go_sem]; done) | (simp (disch := first | (simp [go_sem]; done) | (simp [go_sem]; omega)) [go_sem]; done)))) | (go_at_call 188; refine (tidy_any _ ?_ _).mono ?_; (focus (with_reducible exact hb)); rintro e w' ⟨x, rfl, hx, hv, hb1⟩; obtain ⟨bs1, n1, rfl⟩ := below_form hb1) | (refine wpl_store rt117 rfl _ _ rfl _ rfl (tab .u32 20 x) rfl ?_ (tab_size _ _ _) (tab_all _ _ _) (((((w.alloc (c20 (addTo f (from2p g) 20))).alloc (c20 g)).alloc (c20 x)).exts bs1).dr n1) ?_ ?_; (focus (first | (simp [go_sem]; done) | (simp (disch := first | (simp [go_sem]; done) | (simp [go_sem]; omega)) [go_sem]; done))); (focus (first | (simp [go_sem]; done) | (simp (disch := first | (simp [go_sem]; done) | (simp [go_sem]; omega)) [go_sem]; done)))))
      exact bodyPost_ret (v := .agg (tab .u32 20 x)) (by rw [results_row rt117 Tryz.results180 _ _ (w.heap.size + 1 + 1) rfl (by first | (simp [go_sem]; done) | (simp (disch := first | (simp [go_sem]; done) | (simp [go_sem]; omega)) [go_sem]; done))]; first | (simp [go_sem]; done) | (simp (disch := first | (simp [go_sem]; done) | (simp [go_sem]; omega)) [go_sem]; done)) rfl ⟨x, rfl, hx, by rw [hv, addTo_lval, from2p_lval, show lval 20 f + (2 * P25519 - lval 20 g) = (lval 20 f - lval 20 g) - (-2) * P25519 by omega, emod_sub_mul], below3e _ _ _ _ _ _⟩
set_option maxHeartbeats 400000 in
theorem small_any (v : Int) (h0 : 0 ≤ v) (h1 : v ≤ 8191) (w : World) :
    Calls Tryz.prog 162 #[.int .u32 v] w fun e w' => e = .returned (.agg (tab .u32 20 (upd (fun _ => 0) 0 v))) ∧ Below w.heap.size w w' := by
  have hv : bits .and .u32 v 8191 = v := by rw [bits_and_8191 _ h0 (by omega)]; omega
  go_enter Tryz.func162, Tryz.ntmps162
  go_wp2_with (first | (refine wpl_load rt117 rfl _ rfl _ rfl (tab .u32 20 (upd (fun _ => 0) 0 v)) ?_ (tab_size _ _ _) ?_; (focus (first | (simp [go_sem]; done) | (simp (disch := first | (simp [go_sem]; done) | (simp [go_sem]; omega)) [go_sem]; done)))) | (refine wpl_store rt117 rfl _ _ rfl _ rfl (tab .u32 20 (upd (fun _ => 0) 0 v)) rfl ?_ (tab_size _ _ _) (tab_all _ _ _) ((w.alloc (c20 (upd (fun _ => 0) 0 v))).alloc (c20 (upd (fun _ => 0) 0 v))) ?_ ?_; (focus (first | (simp [go_sem]; done) | (simp (disch := first | (simp [go_sem]; done) | (simp [go_sem]; omega)) [go_sem]; done))); (focus (first | (simp [go_sem]; done) | (simp (disch := first | (simp [go_sem]; done) | (simp [go_sem]; omega)) [go_sem]; done)))))
  exact bodyPost_ret (v := .agg (tab .u32 20 (upd (fun _ => 0) 0 v))) (by rw [results_row rt117 Tryz.results162 _ _ (w.heap.size) rfl (by first | (simp [go_sem]; done) | (simp (disch := first | (simp [go_sem]; done) | (simp [go_sem]; omega)) [go_sem]; done))]; first | (simp [go_sem]; done) | (simp (disch := first | (simp [go_sem]; done) | (simp [go_sem]; omega)) [go_sem]; done)) rfl ⟨rfl, ((Below.refl _ _).alloc (Nat.le_refl _) _).alloc (by simp) _⟩
set_option maxHeartbeats 800000 in
theorem timesFactor_any (f : Nat → Int) (hf : Tidy f) (w : World) :
    Calls Tryz.prog 182 #[.agg (tab .u32 20 f)] w fun e w' => ∃ x, e = .returned (.agg (tab .u32 20 x)) ∧ Tidy x ∧ lval 20 x % P25519 = (121665 * lval 20 f) % P25519 ∧ Below w.heap.size w w' := by
  go_enter Tryz.func182, Tryz.ntmps182
  go_wp2
  go_loopw [3] (fun i wr => ∃ (k n : Nat), k ≤ 20 ∧ i = .int .i64 k ∧ wr = ((w.alloc (c20 (mulTo 121665 f k))).alloc z20).dr n) (fun i _ => 20 - (intOf i).toNat)
  case atStart => exact ⟨0, _, by omega, rfl, by rw [mulTo_zero, World.dr_self]⟩
  case round =>
    obtain ⟨k, n, hk, rfl, rfl⟩ := hrel
    by_cases hlt : k < 20
    · have c1 : (k:Int) < 20 := by omega
      have b1 := hf.le' k hlt
      have HA := mulTo_at 121665 f k
      go_wp2
      go_roundw
      case rel => exact ⟨k + 1, _, by omega, by go_num, by rw [← mulTo_step, Int.mul_comm]⟩
      case measure => simp [intOf]; omega
    · have hk' : k = 20 := by omega
      subst hk'
      have hb : ∀ i, i < 20 → 0 ≤ mulTo 121665 f 20 i ∧ mulTo 121665 f 20 i ≤ 4294443008 := fun i hi => by
        have := hf.le' i hi
        simp only [mulTo, hi, if_true]; omega
      go_wp2_with (first | (refine wpl_load rt117 rfl _ rfl _ rfl (tab .u32 20 (mulTo 121665 f 20)) ?_ (tab_size _ _ _) ?_; (focus (first | (simp [go_sem]; done) | (simp (disch := first | (simp [go_sem]; done) | (simp [go_sem]; omega)) [go_sem]; done)))) | (go_at_call 188; refine (tidy_any _ ?_ _).mono ?_; (focus (with_reducible exact hb)); rintro e w' ⟨x, rfl, hx, hv, hb1⟩; obtain ⟨bs1, n1, rfl⟩ := below_form hb1) | (refine wpl_store rt117 rfl _ _ rfl _ rfl (tab .u32 20 x) rfl ?_ (tab_size _ _ _) (tab_all _ _ _) ((((w.alloc (c20 (mulTo 121665 f 20))).alloc (c20 x)).exts bs1).dr n1) ?_ ?_; (focus (first | (simp [go_sem]; done) | (simp (disch := first | (simp [go_sem]; done) | (simp [go_sem]; omega)) [go_sem]; done))); (focus (first | (simp [go_sem]; done) | (simp (disch := first | (simp [go_sem]; done) | (simp [go_sem]; omega)) [go_sem]; done)))))
      exact bodyPost_ret (v := .agg (tab .u32 20 x)) (by rw [results_row rt117 Tryz.results182 _ _ (w.heap.size + 1) rfl (by first | (simp [go_sem]; done) | (simp (disch := first | (simp [go_sem]; done) | (simp [go_sem]; omega)) [go_sem]; done))]; first | (simp [go_sem]; done) | (simp (disch := first | (simp [go_sem]; done) | (simp [go_sem]; omega)) [go_sem]; done)) rfl ⟨x, rfl, hx, by rw [hv, mulTo_lval], below2e _ _ _ _ _⟩
end Go.Proofs.YteghoooelgcpkaaGreatDoor
namespace Go.Proofs.YteghoooelgcpkaaGreatDoor
open Go.RowKit Go.Msg
theorem rt130 : RowTy Tryz.prog 208 40 := ⟨by decide, by kernel_rfl, _, Tryz.underlying208, rfl⟩
abbrev c40 (f : Nat → Int) : Obj := .cells (tab .u32 40 f) 208
@[go_sem] theorem zero40 : #[Value.int IntKind.u32 0, Value.int IntKind.u32 0, Value.int IntKind.u32 0, Value.int IntKind.u32 0, Value.int IntKind.u32 0, Value.int IntKind.u32 0, Value.int IntKind.u32 0, Value.int IntKind.u32 0, Value.int IntKind.u32 0, Value.int IntKind.u32 0, Value.int IntKind.u32 0, Value.int IntKind.u32 0, Value.int IntKind.u32 0, Value.int IntKind.u32 0, Value.int IntKind.u32 0, Value.int IntKind.u32 0, Value.int IntKind.u32 0, Value.int IntKind.u32 0, Value.int IntKind.u32 0, Value.int IntKind.u32 0, Value.int IntKind.u32 0, Value.int IntKind.u32 0, Value.int IntKind.u32 0, Value.int IntKind.u32 0, Value.int IntKind.u32 0, Value.int IntKind.u32 0, Value.int IntKind.u32 0, Value.int IntKind.u32 0, Value.int IntKind.u32 0, Value.int IntKind.u32 0, Value.int IntKind.u32 0, Value.int IntKind.u32 0, Value.int IntKind.u32 0, Value.int IntKind.u32 0, Value.int IntKind.u32 0, Value.int IntKind.u32 0, Value.int IntKind.u32 0, Value.int IntKind.u32 0, Value.int IntKind.u32 0, Value.int IntKind.u32 0] = tab .u32 40 (fun _ => 0) := by rw [tab_eq]; rfl
set_option maxHeartbeats 800000 in
theorem narrowed_any (f : Nat → Int) (hf : ∀ i, i < 40 → 0 ≤ f i ∧ f i ≤ 4294443008) (hz : f 39 = 0) (w : World) :
    Calls Tryz.prog 183 #[.agg (tab .u32 40 f)] w fun e w' => ∃ x, e = .returned (.agg (tab .u32 20 x)) ∧ Tidy x ∧ lval 20 x % P25519 = lval 40 f % P25519 ∧ Below w.heap.size w w' := by
  go_enter Tryz.func183, Tryz.ntmps183
  go_wp2
  go_loopw [3] (fun i wr => ∃ (k n : Nat) (x : Nat → Int), k ≤ 39 ∧ i = .int .i64 k ∧ Carried 40 f k x ∧ wr = ((w.alloc (c40 x)).alloc z20).dr n) (fun i _ => 39 - (intOf i).toNat)
  case atStart => exact ⟨0, _, f, by omega, rfl, Carried.start 40 f (hf 0 (by omega)).1, (World.dr_self _).symm⟩
  case round =>
    obtain ⟨k, n, x, hk, rfl, hc, rfl⟩ := hrel
    by_cases hlt : k < 39
    · have c0 : (0:Int) ≤ k := by omega
      have c1 : (k:Int) + 1 < 40 := by omega
      have c2 : k + 1 < 40 := by omega
      have c3 : k < 40 := by omega
      obtain ⟨b1, b2, b3, b4⟩ : 0 ≤ x k ∧ x k < 4294967296 ∧ 0 ≤ x (k + 1) ∧ x (k + 1) ≤ 4294443008 := by
        have h1 := hc.at_; have h2 := hc.high (k + 1) (by omega); have h3 := hf k c3; have h4 := hf (k + 1) c2
        rw [h2]; omega
      go_wp2
      go_region
      go_wp2
      go_roundw
      case rel => exact ⟨k + 1, _, carry1 x k, by omega, by go_num, hc.step c2 hf, by rw [bits_and_8191 _ b1 b2]; rfl⟩
      case measure => simp [intOf]; omega
    · have hk' : k = 39 := by omega
      subst hk'
      have xb : ∀ i, i < 40 → 0 ≤ x i ∧ x i ≤ 524287 := fun i hi => by
        by_cases e : i = 39
        · subst e; have := hc.at_; omega
        · have := hc.low i (by omega); omega
      clear hf
      go_wp2
      go_loopw [5] (fun i wr => ∃ (k n : Nat), k ≤ 20 ∧ i = .int .i64 k ∧ wr = (((w.alloc (c40 x)).alloc z20).alloc (c20 (fold20 x k))).dr n) (fun i _ => 20 - (intOf i).toNat)
      case atStart => exact ⟨0, _, by omega, rfl, by rw [fold20_zero]⟩
      case round =>
        obtain ⟨k, n, hk, rfl, rfl⟩ := hrel
        by_cases hlt : k < 20
        · have c0 : (0:Int) ≤ k := by omega
          have c1 : (k:Int) < 20 := by omega
          have c2 : 20 + k < 40 := by omega
          have c3 : k < 40 := by omega
          obtain ⟨b1, b2⟩ := xb k c3
          obtain ⟨b3, b4⟩ := xb (20 + k) c2
          go_wp2
          go_region
          go_wp2
          go_roundw
          case rel => exact ⟨k + 1, _, by omega, by go_num, by rw [fold20_step]⟩
          case measure => simp [intOf]; omega
        · have hk' : k = 20 := by omega
          subst hk'
          have hb : ∀ i, i < 20 → 0 ≤ fold20 x 20 i ∧ fold20 x 20 i ≤ 4294443008 := fun i hi => by
            have := xb i (by omega); have := xb (20 + i) (by omega)
            simp only [fold20, hi, if_true]; omega
          go_wp2_with (first | (refine wpl_load rt117 rfl _ rfl _ rfl (tab .u32 20 (fold20 x 20)) ?_ (tab_size _ _ _) ?_; (focus (first | (simp [go_sem]; done) | (simp (disch := first | (simp [go_sem]; done) | (simp [go_sem]; omega)) [go_sem]; done)))) | (go_at_call 188; refine (tidy_any _ ?_ _).mono ?_; (focus (with_reducible exact hb)); rintro e w' ⟨y, rfl, hy, hv, hb1⟩; obtain ⟨bs1, n1, rfl⟩ := below_form hb1) | (refine wpl_store rt117 rfl _ _ rfl _ rfl (tab .u32 20 y) rfl ?_ (tab_size _ _ _) (tab_all _ _ _) (((((w.alloc (c40 x)).alloc (c20 y)).alloc (c20 (fold20 x 20))).exts bs1).dr n1) ?_ ?_; (focus (first | (simp [go_sem]; done) | (simp (disch := first | (simp [go_sem]; done) | (simp [go_sem]; omega)) [go_sem]; done))); (focus (first | (simp [go_sem]; done) | (simp (disch := first | (simp [go_sem]; done) | (simp [go_sem]; omega)) [go_sem]; done)))))
          exact bodyPost_ret (v := .agg (tab .u32 20 y)) (by rw [results_row rt117 Tryz.results183 _ _ (w.heap.size + 1) rfl (by first | (simp [go_sem]; done) | (simp (disch := first | (simp [go_sem]; done) | (simp [go_sem]; omega)) [go_sem]; done))]; first | (simp [go_sem]; done) | (simp (disch := first | (simp [go_sem]; done) | (simp [go_sem]; omega)) [go_sem]; done)) rfl ⟨y, rfl, hy, by rw [hv, fold20_lval, hc.vl], below3e _ _ _ _ _ _⟩
set_option maxHeartbeats 800000 in
theorem times_any (f g : Nat → Int) (hf : Tidy f) (hg : Tidy g) (w : World) :
    Calls Tryz.prog 167 #[.agg (tab .u32 20 f), .agg (tab .u32 20 g)] w fun e w' => ∃ x, e = .returned (.agg (tab .u32 20 x)) ∧ Tidy x ∧ lval 20 x % P25519 = (lval 20 f * lval 20 g) % P25519 ∧ Below w.heap.size w w' := by
  go_enter Tryz.func167, Tryz.ntmps167
  go_wp2
  go_loopw [6] (fun i wr => ∃ (k n : Nat) (W : Nat → Int), k ≤ 20 ∧ i = .int .i64 k ∧ Cols f g k 0 W ∧ wr = ((((w.alloc (c20 f)).alloc (c20 g)).alloc z20).alloc (c40 W)).dr n) (fun i _ => 20 - (intOf i).toNat)
  case atStart => exact ⟨0, _, _, by omega, rfl, Cols.start f g, (World.dr_self _).symm⟩
  case round =>
    obtain ⟨k, n, W, hk, rfl, hc, rfl⟩ := hrel
    by_cases hlt : k < 20
    · go_wp2
      go_loopw [7] (fun j wr => ∃ (m n : Nat) (W : Nat → Int), m ≤ 20 ∧ j = .int .i64 m ∧ Cols f g k m W ∧ wr = ((((w.alloc (c20 f)).alloc (c20 g)).alloc z20).alloc (c40 W)).dr n) (fun i _ => 20 - (intOf i).toNat)
      case atStart => exact ⟨0, _, _, by omega, rfl, hc, rfl⟩
      case round =>
        clear hc
        obtain ⟨m, n, W, hm, rfl, hc, rfl⟩ := hrel
        by_cases hlt2 : m < 20
        · have c0 : (0:Int) ≤ k := by omega
          have c1 : (k:Int) < 20 := by omega
          have c2 : (m:Int) < 20 := by omega
          have c3 : (0:Int) ≤ m := by omega
          have c4 : k + m < 40 := by omega
          have b1 := hf.le' k hlt
          have b2 := hg.le' m hlt2
          have b3 := mul_bd b1.1 b1.2 b2.1 b2.2
          have b4 := hc.bd hlt (k + m) c4
          go_wp2
          go_region
          go_wp2
          go_roundw
          case rel => exact ⟨m + 1, _, _, by omega, by go_num, hc.step hlt hlt2 hf hg, rfl⟩
          case measure => simp [intOf]; omega
        · have hk' : m = 20 := by omega
          subst hk'
          go_wp2
          go_roundw
          case rel => exact ⟨k + 1, _, _, by omega, by go_num, hc.row, rfl⟩
          case measure => simp [intOf]; omega
    · have hk' : k = 20 := by omega
      subst hk'
      have hb : ∀ i, i < 40 → 0 ≤ W i ∧ W i ≤ 4294443008 := fun i hi => by
        have := hc.nn i hi; have := hc.all i hi; omega
      have hz := hc.z
      go_wp2_with (first | (refine wpl_load rt130 rfl _ rfl _ rfl (tab .u32 40 W) ?_ (tab_size _ _ _) ?_; (focus (first | (simp [go_sem]; done) | (simp (disch := first | (simp [go_sem]; done) | (simp [go_sem]; omega)) [go_sem]; done)))) | (go_at_call 183; refine (narrowed_any _ ?_ hz _).mono ?_; (focus (with_reducible exact hb)); rintro e w' ⟨y, rfl, hy, hv, hb1⟩; obtain ⟨bs1, n1, rfl⟩ := below_form hb1) | (refine wpl_store rt117 rfl _ _ rfl _ rfl (tab .u32 20 y) rfl ?_ (tab_size _ _ _) (tab_all _ _ _) ((((((w.alloc (c20 f)).alloc (c20 g)).alloc (c20 y)).alloc (c40 W)).exts bs1).dr n1) ?_ ?_; (focus (first | (simp [go_sem]; done) | (simp (disch := first | (simp [go_sem]; done) | (simp [go_sem]; omega)) [go_sem]; done))); (focus (first | (simp [go_sem]; done) | (simp (disch := first | (simp [go_sem]; done) | (simp [go_sem]; omega)) [go_sem]; done)))))
      exact bodyPost_ret (v := .agg (tab .u32 20 y)) (by rw [results_row rt117 Tryz.results167 _ _ (w.heap.size + 1 + 1) rfl (by first | (simp [go_sem]; done) | (simp (disch := first | (simp [go_sem]; done) | (simp [go_sem]; omega)) [go_sem]; done))]; first | (simp [go_sem]; done) | (simp (disch := first | (simp [go_sem]; done) | (simp [go_sem]; omega)) [go_sem]; done)) rfl ⟨y, rfl, hy, by rw [hv, hc.vl]; simp [lval], below4e _ _ _ _ _ _ _⟩
set_option maxHeartbeats 400000 in
theorem square_any (f : Nat → Int) (hf : Tidy f) (w : World) :
    Calls Tryz.prog 181 #[.agg (tab .u32 20 f)] w fun e w' => ∃ x, e = .returned (.agg (tab .u32 20 x)) ∧ Tidy x ∧ lval 20 x % P25519 = (lval 20 f * lval 20 f) % P25519 ∧ Below w.heap.size w w' := by
  go_enter Tryz.func181, Tryz.ntmps181
  go_wp2_with (first | (refine wpl_load rt117 rfl _ rfl _ rfl (tab .u32 20 f) ?_ (tab_size _ _ _) ?_; (focus (first | (simp [go_sem]; done) | (simp (disch := first | (simp [go_sem]; done) | (simp [go_sem]; omega)) [go_sem]; done)))) | (go_at_call 167; refine (times_any _ _ hf hf _).mono ?_; rintro e w' ⟨y, rfl, hy, hv, hb1⟩; obtain ⟨bs1, n1, rfl⟩ := below_form hb1) | (refine wpl_store rt117 rfl _ _ rfl _ rfl (tab .u32 20 y) rfl ?_ (tab_size _ _ _) (tab_all _ _ _) ((((w.alloc (c20 f)).alloc (c20 y)).exts bs1).dr n1) ?_ ?_; (focus (first | (simp [go_sem]; done) | (simp (disch := first | (simp [go_sem]; done) | (simp [go_sem]; omega)) [go_sem]; done))); (focus (first | (simp [go_sem]; done) | (simp (disch := first | (simp [go_sem]; done) | (simp [go_sem]; omega)) [go_sem]; done)))))
  exact bodyPost_ret (v := .agg (tab .u32 20 y)) (by rw [results_row rt117 Tryz.results181 _ _ (w.heap.size + 1) rfl (by first | (simp [go_sem]; done) | (simp (disch := first | (simp [go_sem]; done) | (simp [go_sem]; omega)) [go_sem]; done))]; first | (simp [go_sem]; done) | (simp (disch := first | (simp [go_sem]; done) | (simp [go_sem]; omega)) [go_sem]; done)) rfl ⟨y, rfl, hy, hv, below2e _ _ _ _ _⟩
end Go.Proofs.YteghoooelgcpkaaGreatDoor
namespace Go.Proofs.YteghoooelgcpkaaGreatDoor
open Go.RowKit Go.Msg
set_option maxHeartbeats 1000000 in
theorem inverse_any (f : Nat → Int) (hf : Tidy f) (w : World) :
    Calls Tryz.prog 166 #[.agg (tab .u32 20 f)] w fun e w' => ∃ x, e = .returned (.agg (tab .u32 20 x)) ∧ Tidy x ∧ lval 20 x % P25519 = (lval 20 f) ^ E2 % P25519 ∧ Below w.heap.size w w' := by
  go_enter Tryz.func166, Tryz.ntmps166
  go_wp2_with (first | (refine wpl_load rt117 rfl _ rfl _ rfl (tab .u32 20 f) ?_ (tab_size _ _ _) ?_; (focus (first | (simp [go_sem]; done) | (simp (disch := first | (simp [go_sem]; done) | (simp [go_sem]; omega)) [go_sem]; done)))) | (refine wpl_store rt117 rfl _ _ rfl _ rfl (tab .u32 20 f) rfl ?_ (tab_size _ _ _) (tab_all _ _ _) (((w.alloc (c20 f)).alloc z20).alloc (c20 f)) ?_ ?_; (focus (first | (simp [go_sem]; done) | (simp (disch := first | (simp [go_sem]; done) | (simp [go_sem]; omega)) [go_sem]; done))); (focus (first | (simp [go_sem]; done) | (simp (disch := first | (simp [go_sem]; done) | (simp [go_sem]; omega)) [go_sem]; done)))))
  go_loopw [4] (fun i wr => ∃ (k n : Nat) (x : Nat → Int) (bs : List Obj), k ≤ 254 ∧ i = .int .i64 ((k : Int) - 1) ∧ Tidy x ∧ lval 20 x % P25519 = (lval 20 f) ^ (E2 / 2 ^ k) % P25519 ∧ wr = ((((w.alloc (c20 f)).alloc z20).alloc (c20 x)).exts bs).dr n) (fun i _ => (intOf i + 1).toNat)
  case atStart => exact ⟨254, _, f, [], by omega, rfl, hf, by rw [E2_top, Int.pow_one], by rw [World.exts_nil, World.dr_self]⟩
  case round =>
    obtain ⟨k, n, x, bs, hk, rfl, hx, hv, rfl⟩ := hrel
    by_cases hlt : 1 ≤ k
    · have HV : Hid (lval 20 x % P25519 = (lval 20 f) ^ (E2 / 2 ^ k) % P25519) := hv
      clear hv
      by_cases h24 : k = 3 ∨ k = 5
      · have HE : Hid (E2 / 2 ^ (k - 1) = 2 * (E2 / 2 ^ k)) := by
          have := E2_bit (k - 1) (by omega)
          rw [if_pos (by omega), show k - 1 + 1 = k by omega] at this; exact this
        rcases h24 with rfl | rfl
        all_goals
          go_wp2_with (first | (refine wpl_load rt117 rfl _ rfl _ rfl (tab .u32 20 x) ?_ (tab_size _ _ _) ?_; (focus (first | (simp [go_sem]; done) | (simp (disch := first | (simp [go_sem]; done) | (simp [go_sem]; omega)) [go_sem]; done)))) | (go_at_call 181; refine (square_any _ hx _).mono ?_; rintro e w' ⟨y, rfl, hy, hv1, hb1⟩; obtain ⟨bs1, n1, rfl⟩ := below_form2 hb1) | (refine wpl_store rt117 rfl _ _ rfl _ rfl (tab .u32 20 y) rfl ?_ (tab_size _ _ _) (tab_all _ _ _) (((((w.alloc (c20 f)).alloc z20).alloc (c20 y)).exts bs1).dr n1) ?_ ?_; (focus (first | (simp [go_sem]; done) | (simp (disch := first | (simp [go_sem]; done) | (simp [go_sem]; omega)) [go_sem]; done))); (focus (first | (simp [go_sem]; done) | (simp (disch := first | (simp [go_sem]; done) | (simp [go_sem]; omega)) [go_sem]; done)))))
          go_roundw
          case rel => first | exact ⟨2, _, _, _, by omega, by go_num, hy, by rw [show E2 / 2 ^ 2 = 2 * (E2 / 2 ^ 3) from HE.out]; exact pow_sq HV.out hv1, rfl⟩ | exact ⟨4, _, _, _, by omega, by go_num, hy, by rw [show E2 / 2 ^ 4 = 2 * (E2 / 2 ^ 5) from HE.out]; exact pow_sq HV.out hv1, rfl⟩
          case measure => simp [intOf]
      · have HE : Hid (E2 / 2 ^ (k - 1) = 2 * (E2 / 2 ^ k) + 1) := by
          have := E2_bit (k - 1) (by omega)
          rw [if_neg (by omega), show k - 1 + 1 = k by omega] at this; exact this
        have h3 : ((k : Int) - 1 != 2) = true := by simp; omega
        have h5 : ((k : Int) - 1 != 4) = true := by simp; omega
        clear h24
        go_wp2_with (first | (refine wpl_load rt117 rfl _ rfl _ rfl (tab .u32 20 x) ?_ (tab_size _ _ _) ?_; (focus (first | (simp [go_sem]; done) | (simp (disch := first | (simp [go_sem]; done) | (simp [go_sem]; omega)) [go_sem]; done)))) | (go_at_call 181; refine (square_any _ hx _).mono ?_; rintro e w' ⟨y, rfl, hy, hv1, hb1⟩; obtain ⟨bs1, n1, rfl⟩ := below_form2 hb1) | (refine wpl_store rt117 rfl _ _ rfl _ rfl (tab .u32 20 y) rfl ?_ (tab_size _ _ _) (tab_all _ _ _) (((((w.alloc (c20 f)).alloc z20).alloc (c20 y)).exts bs1).dr n1) ?_ ?_; (focus (first | (simp [go_sem]; done) | (simp (disch := first | (simp [go_sem]; done) | (simp [go_sem]; omega)) [go_sem]; done))); (focus (first | (simp [go_sem]; done) | (simp (disch := first | (simp [go_sem]; done) | (simp [go_sem]; omega)) [go_sem]; done)))) | (refine wpl_load rt117 rfl _ rfl _ rfl (tab .u32 20 y) ?_ (tab_size _ _ _) ?_; (focus (first | (simp [go_sem]; done) | (simp (disch := first | (simp [go_sem]; done) | (simp [go_sem]; omega)) [go_sem]; done)))) | (refine wpl_load rt117 rfl _ rfl _ rfl (tab .u32 20 f) ?_ (tab_size _ _ _) ?_; (focus (first | (simp [go_sem]; done) | (simp (disch := first | (simp [go_sem]; done) | (simp [go_sem]; omega)) [go_sem]; done)))) | (go_at_call 167; refine (times_any _ _ hy hf _).mono ?_; rintro e w' ⟨z, rfl, hz, hv2, hb2⟩; obtain ⟨bs2, n2, rfl⟩ := below_form2 hb2) | (refine wpl_store rt117 rfl _ _ rfl _ rfl (tab .u32 20 z) rfl ?_ (tab_size _ _ _) (tab_all _ _ _) (((((w.alloc (c20 f)).alloc z20).alloc (c20 z)).exts bs2).dr n2) ?_ ?_; (focus (first | (simp [go_sem]; done) | (simp (disch := first | (simp [go_sem]; done) | (simp [go_sem]; omega)) [go_sem]; done))); (focus (first | (simp [go_sem]; done) | (simp (disch := first | (simp [go_sem]; done) | (simp [go_sem]; omega)) [go_sem]; done)))))
        go_roundw
        case rel => exact ⟨k - 1, _, _, _, by omega, by go_num, hz, by rw [HE.out]; exact pow_sq1 HV.out hv1 hv2, rfl⟩
        case measure => simp [intOf]; omega
    · have hk' : k = 0 := by omega
      subst hk'
      rw [E2_low] at hv
      have HV : Hid (lval 20 x % P25519 = (lval 20 f) ^ E2 % P25519) := hv
      clear hv
      go_wp2_with (first | (refine wpl_load rt117 rfl _ rfl _ rfl (tab .u32 20 x) ?_ (tab_size _ _ _) ?_; (focus (first | (simp [go_sem]; done) | (simp (disch := first | (simp [go_sem]; done) | (simp [go_sem]; omega)) [go_sem]; done)))) | (refine wpl_store rt117 rfl _ _ rfl _ rfl (tab .u32 20 x) rfl ?_ (tab_size _ _ _) (tab_all _ _ _) (((((w.alloc (c20 f)).alloc (c20 x)).alloc (c20 x)).exts bs).dr n) ?_ ?_; (focus (first | (simp [go_sem]; done) | (simp (disch := first | (simp [go_sem]; done) | (simp [go_sem]; omega)) [go_sem]; done))); (focus (first | (simp [go_sem]; done) | (simp (disch := first | (simp [go_sem]; done) | (simp [go_sem]; omega)) [go_sem]; done)))))
      exact bodyPost_ret (v := .agg (tab .u32 20 x)) (by rw [results_row rt117 Tryz.results166 _ _ (w.heap.size + 1) rfl (by first | (simp [go_sem]; done) | (simp (disch := first | (simp [go_sem]; done) | (simp [go_sem]; omega)) [go_sem]; done))]; first | (simp [go_sem]; done) | (simp (disch := first | (simp [go_sem]; done) | (simp [go_sem]; omega)) [go_sem]; done)) rfl ⟨x, rfl, hx, HV.out, below3e _ _ _ _ _ _⟩
end Go.Proofs.YteghoooelgcpkaaGreatDoor
namespace Go.Proofs.YteghoooelgcpkaaGreatDoor
open Go.RowKit Go.Msg
theorem rt107 : RowTy Tryz.prog 163 32 := ⟨by decide, by kernel_rfl, _, Tryz.underlying163, rfl⟩
abbrev c32 (f : Nat → Int) : Obj := .cells (tab .u8 32 f) 163
abbrev z32 : Obj := .cells (tab .u8 32 (fun _ => 0)) 163
@[go_sem] theorem zero32 : #[Value.int IntKind.u8 0, Value.int IntKind.u8 0, Value.int IntKind.u8 0, Value.int IntKind.u8 0, Value.int IntKind.u8 0, Value.int IntKind.u8 0, Value.int IntKind.u8 0, Value.int IntKind.u8 0, Value.int IntKind.u8 0, Value.int IntKind.u8 0, Value.int IntKind.u8 0, Value.int IntKind.u8 0, Value.int IntKind.u8 0, Value.int IntKind.u8 0, Value.int IntKind.u8 0, Value.int IntKind.u8 0, Value.int IntKind.u8 0, Value.int IntKind.u8 0, Value.int IntKind.u8 0, Value.int IntKind.u8 0, Value.int IntKind.u8 0, Value.int IntKind.u8 0, Value.int IntKind.u8 0, Value.int IntKind.u8 0, Value.int IntKind.u8 0, Value.int IntKind.u8 0, Value.int IntKind.u8 0, Value.int IntKind.u8 0, Value.int IntKind.u8 0, Value.int IntKind.u8 0, Value.int IntKind.u8 0, Value.int IntKind.u8 0] = tab .u8 32 (fun _ => 0) := by rw [tab_eq]; rfl
theorem ret_int {k : IntKind} {a b : Int} (h : a = b) : Ending.returned (.int k a) = .returned (.int k b) := by rw [h]
set_option maxHeartbeats 400000 in
theorem bitOf_any (b : Nat → Int) (hb : ∀ i, i < 32 → 0 ≤ b i ∧ b i ≤ 255) (i : Nat) (hi : i < 256) (w : World) :
    Calls Tryz.prog 163 #[.agg (tab .u8 32 b), .int .i64 i] w fun e w' => e = .returned (.int .u32 (bitAt b i)) ∧ Below w.heap.size w w' := by
  have h1 : i / 8 < 32 := by omega
  have h2 := hb (i / 8) h1
  have h3 := shr_bd (i % 8) h2.1 (by omega)
  go_enter Tryz.func163, Tryz.ntmps163
  go_wp2
  go_ret
  exact ⟨ret_int (by rw [bits_and_1 _ h3.1 h3.2]; rfl), (Below.refl _ _).alloc (Nat.le_refl _) _⟩
def clampF (b : Nat → Int) : Nat → Int := upd (upd b 0 (b 0 / 8 * 8)) 31 (b 31 % 64 + 64)
theorem u8_nat {x : Int} (h : 0 ≤ x ∧ x ≤ 255) : ∃ n : Nat, n < 256 ∧ x = n := ⟨x.toNat, by omega, by omega⟩
set_option maxHeartbeats 400000 in
theorem clamp_any (b : Nat → Int) (hb : ∀ i, i < 32 → 0 ≤ b i ∧ b i ≤ 255) (w : World) :
    Calls Tryz.prog 135 #[.agg (tab .u8 32 b)] w fun e w' => e = .returned (.agg (tab .u8 32 (clampF b))) ∧ Below w.heap.size w w' := by
  have h0 : bits .and .u8 (b 0) 248 = b 0 / 8 * 8 := by
    obtain ⟨n, hn, e⟩ := u8_nat (hb 0 (by omega)); rw [e]; exact u8_248 n hn
  have h1 : bits .and .u8 (b 31) 127 = b 31 % 128 := by
    obtain ⟨n, hn, e⟩ := u8_nat (hb 31 (by omega)); rw [e]; exact u8_127 n hn
  have h2 : bits .or .u8 (b 31 % 128) 64 = b 31 % 64 + 64 := by
    obtain ⟨n, hn, e⟩ := u8_nat (hb 31 (by omega)); rw [e]; exact u8_or64 n hn
  have h3 : upd (upd (upd b 0 (b 0 / 8 * 8)) 31 (b 31 % 128)) 31 (b 31 % 64 + 64) = clampF b := by
    funext i; unfold clampF upd; by_cases e : i = 31 <;> simp [e]
  have hb0 := hb 0 (by omega)
  have hb31 := hb 31 (by omega)
  clear hb
  go_enter Tryz.func135, Tryz.ntmps135
  go_wp2_with (first | (refine wpl_load rt107 rfl _ rfl _ rfl (tab .u8 32 (clampF b)) ?_ (tab_size _ _ _) ?_; (focus (first | (simp [go_sem]; done) | (simp (disch := first | (simp [go_sem]; done) | (simp [go_sem]; omega)) [go_sem]; done)))) | (refine wpl_store rt107 rfl _ _ rfl _ rfl (tab .u8 32 (clampF b)) rfl ?_ (tab_size _ _ _) (tab_all _ _ _) ((w.alloc (c32 (clampF b))).alloc (c32 (clampF b))) ?_ ?_; (focus (first | (simp [go_sem]; done) | (simp (disch := first | (simp [go_sem]; done) | (simp [go_sem]; omega)) [go_sem]; done))); (focus (first | (simp [go_sem]; done) | (simp (disch := first | (simp [go_sem]; done) | (simp [go_sem]; omega)) [go_sem]; done)))))
  exact bodyPost_ret (v := .agg (tab .u8 32 (clampF b))) (by rw [results_row rt107 Tryz.results135 _ _ (w.heap.size + 1) rfl (by first | (simp [go_sem]; done) | (simp (disch := first | (simp [go_sem]; done) | (simp [go_sem]; omega)) [go_sem]; done))]; first | (simp [go_sem]; done) | (simp (disch := first | (simp [go_sem]; done) | (simp [go_sem]; omega)) [go_sem]; done)) rfl ⟨rfl, ((Below.refl _ _).alloc (Nat.le_refl _) _).alloc (by simp) _⟩
def sb (s : ByteArray) (i : Nat) : Int := if h : i < s.size then (s[i].toNat : Int) else 0
def sbTo (s : ByteArray) (k : Nat) (i : Nat) : Int := if i < k then sb s i else 0
theorem sbTo_step (s : ByteArray) (k : Nat) (h : k < s.size) : upd (sbTo s k) k (s[k].toNat : Int) = sbTo s (k + 1) := by
  funext i
  unfold upd sbTo
  by_cases e : i = k
  · subst e; simp [sb, h]
  · by_cases h2 : i < k
    · simp [e, h2, show i < k + 1 by omega]
    · simp [e, h2, show ¬ i < k + 1 by omega]
theorem sbTo_zero (s : ByteArray) : sbTo s 0 = fun _ => 0 := by funext i; simp [sbTo]
theorem sb_bd (s : ByteArray) (i : Nat) : 0 ≤ sb s i ∧ sb s i ≤ 255 := by
  unfold sb; split
  · have := s[i].toNat_lt; omega
  · omega
set_option maxHeartbeats 400000 in
theorem bytesOf_any (s : ByteArray) (hs : s.size ≤ 9223372036854775807) (w : World) :
    Calls Tryz.prog 134 #[.string s] w fun e w' => e = .returned (.agg (tab .u8 32 (sb s))) ∧ Below w.heap.size w w' := by
  go_enter Tryz.func134, Tryz.ntmps134
  go_wp2
  go_loopw [4] (fun i wr => ∃ (k n : Nat), k ≤ 32 ∧ k ≤ s.size ∧ i = .int .i64 k ∧ wr = ((w.alloc z32).alloc (c32 (sbTo s k))).dr n) (fun i _ => 32 - (intOf i).toNat)
  case atStart => exact ⟨0, _, by omega, by omega, rfl, by rw [sbTo_zero, World.dr_self]⟩
  case round =>
    obtain ⟨k, n, hk, hks, rfl, rfl⟩ := hrel
    by_cases hlt : k < s.size
    · by_cases hlt2 : k < 32
      · have c1 : (k : Int) < 32 := by omega
        have c2 : (k : Int) < s.size := by omega
        have HS : Hid (upd (sbTo s k) k (s[k].toNat : Int) = sbTo s (k + 1)) := sbTo_step s k hlt
        go_wp2
        go_roundw
        case rel => exact ⟨k + 1, _, by omega, by omega, by go_num, by rw [HS.out]⟩
        case measure => simp [intOf]; omega
      · have hk' : k = 32 := by omega
        subst hk'
        have c2 : (32 : Int) < s.size := by omega
        have hT : tab .u8 32 (sbTo s 32) = tab .u8 32 (sb s) := tab_congr fun i hi => by simp [sbTo, hi]
        go_wp2_with (first | (refine wpl_load rt107 rfl _ rfl _ rfl (tab .u8 32 (sbTo s 32)) ?_ (tab_size _ _ _) ?_; (focus (first | (simp [go_sem]; done) | (simp (disch := first | (simp [go_sem]; done) | (simp [go_sem]; omega)) [go_sem]; done)))) | (refine wpl_store rt107 rfl _ _ rfl _ rfl (tab .u8 32 (sbTo s 32)) rfl ?_ (tab_size _ _ _) (tab_all _ _ _) (((w.alloc (c32 (sbTo s 32))).alloc (c32 (sbTo s 32))).dr n) ?_ ?_; (focus (first | (simp [go_sem]; done) | (simp (disch := first | (simp [go_sem]; done) | (simp [go_sem]; omega)) [go_sem]; done))); (focus (first | (simp [go_sem]; done) | (simp (disch := first | (simp [go_sem]; done) | (simp [go_sem]; omega)) [go_sem]; done)))))
        rw [← hT]
        exact bodyPost_ret (v := .agg (tab .u8 32 (sbTo s 32))) (by rw [results_row rt107 Tryz.results134 _ _ (w.heap.size) rfl (by first | (simp [go_sem]; done) | (simp (disch := first | (simp [go_sem]; done) | (simp [go_sem]; omega)) [go_sem]; done))]; first | (simp [go_sem]; done) | (simp (disch := first | (simp [go_sem]; done) | (simp [go_sem]; omega)) [go_sem]; done)) rfl ⟨rfl, below2 _ _ _ _⟩
    · have c2 : ¬ (k : Int) < s.size := by omega
      have hT : tab .u8 32 (sbTo s k) = tab .u8 32 (sb s) := tab_congr fun i hi => by
        unfold sbTo
        by_cases e : i < k
        · simp [e]
        · simp [e, sb, show ¬ i < s.size by omega]
      have HT : Hid (tab .u8 32 (sbTo s k) = tab .u8 32 (sb s)) := hT
      clear hT
      go_wp2_with (first | (refine wpl_load rt107 rfl _ rfl _ rfl (tab .u8 32 (sbTo s k)) ?_ (tab_size _ _ _) ?_; (focus (first | (simp [go_sem]; done) | (simp (disch := first | (simp [go_sem]; done) | (simp [go_sem]; omega)) [go_sem]; done)))) | (refine wpl_store rt107 rfl _ _ rfl _ rfl (tab .u8 32 (sbTo s k)) rfl ?_ (tab_size _ _ _) (tab_all _ _ _) (((w.alloc (c32 (sbTo s k))).alloc (c32 (sbTo s k))).dr n) ?_ ?_; (focus (first | (simp [go_sem]; done) | (simp (disch := first | (simp [go_sem]; done) | (simp [go_sem]; omega)) [go_sem]; done))); (focus (first | (simp [go_sem]; done) | (simp (disch := first | (simp [go_sem]; done) | (simp [go_sem]; omega)) [go_sem]; done)))))
      rw [← HT.out]
      exact bodyPost_ret (v := .agg (tab .u8 32 (sbTo s k))) (by rw [results_row rt107 Tryz.results134 _ _ (w.heap.size) rfl (by first | (simp [go_sem]; done) | (simp (disch := first | (simp [go_sem]; done) | (simp [go_sem]; omega)) [go_sem]; done))]; first | (simp [go_sem]; done) | (simp (disch := first | (simp [go_sem]; done) | (simp [go_sem]; omega)) [go_sem]; done)) rfl ⟨rfl, below2 _ _ _ _⟩
end Go.Proofs.YteghoooelgcpkaaGreatDoor
namespace Go.Proofs.YteghoooelgcpkaaGreatDoor
open Go.RowKit Go.Msg
theorem mixed_any : Tryz.prog.follows .mixedOrders = true := by kernel_rfl
set_option maxHeartbeats 1000000 in
theorem fromBytes_any (b : Nat → Int) (hb : ∀ i, i < 32 → 0 ≤ b i ∧ b i ≤ 255) (w : World) :
    Calls Tryz.prog 161 #[.agg (tab .u8 32 b)] w fun e w' => ∃ x, e = .returned (.agg (tab .u32 20 x)) ∧ Tidy x ∧ lval 20 x = bsum b 255 ∧ Below w.heap.size w w' := by
  go_enter Tryz.func161, Tryz.ntmps161
  go_wp2
  go_loopw [4] (fun i wr => ∃ (k n : Nat) (x : Nat → Int) (bs : List Obj), k ≤ 255 ∧ i = .int .i64 k ∧ Filled b k x ∧ wr = ((((w.alloc (c32 b)).alloc z20).alloc (c20 x)).exts bs).dr n) (fun i _ => 255 - (intOf i).toNat)
  case atStart => exact ⟨0, _, _, [], by omega, rfl, Filled.start b, by rw [World.exts_nil, World.dr_self]⟩
  case round =>
    obtain ⟨k, n, x, bs, hk, rfl, hx, rfl⟩ := hrel
    by_cases hlt : k < 255
    · have c1 : (k : Int) < 255 := by omega
      have c2 : k / 13 < 20 := by omega
      have c3 : (k : Int) / 13 < 20 := by omega
      have b1 := bitAt_01 b k
      go_wp2
      refine wp_region_quiet_tail 12 (fun w' => ∃ q, w' = (((w.alloc (c32 b)).alloc z20).alloc (c20 x)).ex q) mixed_any (by kernel_rfl) ⟨behind bs (n + 1), by rw [World.ex_behind]; rfl⟩ ?_
      simp only [List.take_succ_cons, List.take_zero, List.drop_succ_cons, List.drop_zero]
      iterate 4 (go_big_quiet_step (fail))
      refine quiet_load_row rt107 rfl _ rfl _ rfl (tab .u8 32 b) (tab_size _ _ _) ?_ ?_
      · rintro w' ⟨p, rfl⟩; simp [go_sem]
      simp only [Act.put, List.setIfInBounds_toArray, List.set_cons_succ, List.set_cons_zero]
      go_big_quiet_step (fail)
      go_big_quiet_step ((rename_i p; go_at_call 163; refine (bitOf_any _ hb _ (by omega) _).mono ?_; rintro e w' ⟨rfl, hb1⟩; obtain ⟨q1, rfl⟩ := below_ex hb1; exact ⟨rfl, q1, rfl⟩))
      iterate 5 (go_big_quiet_step (fail))
      refine wpQuiet_nil ?_
      rintro w' ⟨q, rfl⟩
      unfold World.ex
      go_wp2
      go_roundw
      case rel => exact ⟨k + 1, _, _, _, by omega, by go_num, hx.step hlt, by rw [bit_pow _ b1 (by omega), or_bit _ _ _ (hx.nn _ c2) hx.at_ b1 (by omega)]⟩
      case measure => simp [intOf]; omega
    · have hk' : k = 255 := by omega
      subst hk'
      have D := hx.done
      go_wp2_with (first | (refine wpl_load rt117 rfl _ rfl _ rfl (tab .u32 20 x) ?_ (tab_size _ _ _) ?_; (focus (first | (simp [go_sem]; done) | (simp (disch := first | (simp [go_sem]; done) | (simp [go_sem]; omega)) [go_sem]; done)))) | (refine wpl_store rt117 rfl _ _ rfl _ rfl (tab .u32 20 x) rfl ?_ (tab_size _ _ _) (tab_all _ _ _) (((((w.alloc (c32 b)).alloc (c20 x)).alloc (c20 x)).exts bs).dr n) ?_ ?_; (focus (first | (simp [go_sem]; done) | (simp (disch := first | (simp [go_sem]; done) | (simp [go_sem]; omega)) [go_sem]; done))); (focus (first | (simp [go_sem]; done) | (simp (disch := first | (simp [go_sem]; done) | (simp [go_sem]; omega)) [go_sem]; done)))))
      exact bodyPost_ret (v := .agg (tab .u32 20 x)) (by rw [results_row rt117 Tryz.results161 _ _ (w.heap.size + 1) rfl (by first | (simp [go_sem]; done) | (simp (disch := first | (simp [go_sem]; done) | (simp [go_sem]; omega)) [go_sem]; done))]; first | (simp [go_sem]; done) | (simp (disch := first | (simp [go_sem]; done) | (simp [go_sem]; omega)) [go_sem]; done)) rfl ⟨x, rfl, D.1, D.2, below3e _ _ _ _ _ _⟩
set_option maxHeartbeats 1000000 in
theorem bytes_any (f : Nat → Int) (hf : Tidy f) (w : World) :
    Calls Tryz.prog 168 #[.agg (tab .u32 20 f)] w fun e w' => ∃ b, e = .returned (.agg (tab .u8 32 b)) ∧ (∀ i, i < 32 → 0 ≤ b i ∧ b i ≤ 255) ∧ bval 32 b = lval 20 f % P25519 ∧ Below w.heap.size w w' := by
  go_enter Tryz.func168, Tryz.ntmps168
  go_wp2_with (first | (refine wpl_load rt117 rfl _ rfl _ rfl (tab .u32 20 f) ?_ (tab_size _ _ _) ?_; (focus (first | (simp [go_sem]; done) | (simp (disch := first | (simp [go_sem]; done) | (simp [go_sem]; omega)) [go_sem]; done)))) | (go_at_call 184; refine (least_any _ hf _).mono ?_; rintro e w' ⟨x, rfl, hx1, hx2, hx3, hx4, hb1⟩; obtain ⟨bs1, n1, rfl⟩ := below_form hb1) | (refine wpl_store rt117 rfl _ _ rfl _ rfl (tab .u32 20 x) rfl ?_ (tab_size _ _ _) (tab_all _ _ _) (((((w.alloc (c20 f)).alloc z32).exts bs1).alloc (c20 x)).dr n1) ?_ ?_; (focus (first | (simp [go_sem]; done) | (simp (disch := first | (simp [go_sem]; done) | (simp [go_sem]; omega)) [go_sem]; done))); (focus (first | (simp [go_sem]; done) | (simp (disch := first | (simp [go_sem]; done) | (simp [go_sem]; omega)) [go_sem]; done)))))
  have sz : (((w.alloc (c20 f)).alloc z32).exts bs1).heap.size = w.heap.size + 1 + 1 + bs1.length := by simp [go_sem]
  have xb : ∀ i, i < 20 → 0 ≤ x i ∧ x i < 4294967296 := fun i hi => ⟨hx1 i hi, by
    by_cases e : i = 19
    · subst e; omega
    · have := hx2 i (by omega); omega⟩
  go_loopw [5] (fun i wr => ∃ (k n : Nat) (b : Nat → Int), k ≤ 255 ∧ i = .int .i64 k ∧ FilledB x k b ∧ wr = (((((w.alloc (c20 f)).alloc z32).exts bs1).alloc (c20 x)).alloc (c32 b)).dr n) (fun i _ => 255 - (intOf i).toNat)
  case atStart => exact ⟨0, _, _, by omega, rfl, FilledB.start x, rfl⟩
  case round =>
    obtain ⟨k, n, b, hk, rfl, hx, rfl⟩ := hrel
    by_cases hlt : k < 255
    · have c1 : (k : Int) < 255 := by omega
      have c2 : k / 13 < 20 := by omega
      have c3 : (k : Int) / 13 < 20 := by omega
      have c4 : k / 8 < 32 := by omega
      have c5 : (k : Int) / 8 < 32 := by omega
      have xk := xb (k / 13) c2
      have sk := shr_bd (k % 13) xk.1 xk.2
      have HB : bits .and .u32 (x (k / 13) / 2 ^ (k % 13)) 1 = lbit x k := by rw [bits_and_1 _ sk.1 sk.2]; rfl
      have b1 := lbit_01 x k
      clear xb hx1 hx2 sz
      go_wp2
      go_roundw
      case rel => exact ⟨k + 1, _, _, by omega, by go_num, hx.step hlt, by rw [bit_pow8 _ b1 (by omega), or_bit8 _ _ _ (hx.nn _ c4) hx.at_ b1 (by omega)]⟩
      case measure => simp [intOf]; omega
    · have hk' : k = 255 := by omega
      subst hk'
      have D := hx.done
      go_wp2_with (first | (refine wpl_load rt107 rfl _ rfl _ rfl (tab .u8 32 b) ?_ (tab_size _ _ _) ?_; (focus (first | (simp [go_sem]; done) | (simp (disch := first | (simp [go_sem]; done) | (simp [go_sem]; omega)) [go_sem]; done)))) | (refine wpl_store rt107 rfl _ _ rfl _ rfl (tab .u8 32 b) rfl ?_ (tab_size _ _ _) (tab_all _ _ _) ((((((w.alloc (c20 f)).alloc (c32 b)).exts bs1).alloc (c20 x)).alloc (c32 b)).dr n) ?_ ?_; (focus (first | (simp [go_sem]; done) | (simp (disch := first | (simp [go_sem]; done) | (simp [go_sem]; omega)) [go_sem]; done))); (focus (first | (simp [go_sem]; done) | (simp (disch := first | (simp [go_sem]; done) | (simp [go_sem]; omega)) [go_sem]; done)))))
      refine bodyPost_ret (v := .agg (tab .u8 32 b)) (by rw [results_row rt107 Tryz.results168 _ _ (w.heap.size + 1) rfl (by first | (simp [go_sem]; done) | (simp (disch := first | (simp [go_sem]; done) | (simp [go_sem]; omega)) [go_sem]; done))]; first | (simp [go_sem]; done) | (simp (disch := first | (simp [go_sem]; done) | (simp [go_sem]; omega)) [go_sem]; done)) rfl ⟨b, rfl, D.1, by rw [D.2, lsum_255 x hx1 hx2 hx3, hx4], ?_⟩
      exact below_dr (((below_exts' (((Below.refl _ _).alloc (Nat.le_refl _) _).alloc (by simp) _) (by simp; omega) _).alloc (by simp [go_sem]; omega) _).alloc (by simp [go_sem]; omega) _) _
end Go.Proofs.YteghoooelgcpkaaGreatDoor
namespace Go
open Go.RowKit
section
variable {P : Program} {ops : Array Oper} {Q : Exit → Act → World → Prop}
theorem wp_region_inv {id : Nat} {a : Act} {w : World} (hm : P.follows .mixedOrders = true) (I : Array Bool → Act → World → Prop) (h0 : I (Array.replicate ops.size false) a w.drew)
    (hstep : ∀ listed a w i, listed.size = ops.size → I listed a w → i ∈ Region.ready .any ops listed → wpOp P ops Q i (I (listed.setIfInBounds i true)) a w)
    (hend : ∀ listed a w, listed.size = ops.size → I listed a w → Region.ready .any ops listed = [] → Q .normal a w) : (Code.region id ops true).wp P Q a w := by
  refine wp_region_any hm ?_
  have key : ∀ (fuel : Nat) (listed : Array Bool) (a : Act) (w : World), listed.size = ops.size → (List.range ops.size).countP (fun i => !listed.getD i true) ≤ fuel → I listed a w → wpAny P .any ops Q fuel listed a w := by
    intro fuel
    induction fuel with
    | zero =>
      intro listed a w hs hc hI
      have hr : Region.ready .any ops listed = [] := by
        rw [List.eq_nil_iff_forall_not_mem]
        intro i hi
        obtain ⟨h1, o, ho, _⟩ := mem_ready.1 hi
        have : 0 < (List.range ops.size).countP (fun i => !listed.getD i true) := List.countP_pos_iff.2 ⟨i, List.mem_range.2 (Array.getElem?_eq_some_iff.1 ho).1, by rw [h1]; rfl⟩
        omega
      exact ⟨hr, hend _ _ _ hs hI hr⟩
    | succ fuel ih =>
      intro listed a w hs hc hI
      refine ⟨fun hr => hend _ _ _ hs hI hr, fun i hi => ?_⟩
      refine wpOp_mono (fun a' w' hI' => ih _ a' w' (by simpa using hs) ?_ hI') (hstep listed a w i hs hI hi)
      obtain ⟨h1, o, ho, _⟩ := mem_ready.1 hi
      have hlt : i < ops.size := (Array.getElem?_eq_some_iff.1 ho).1
      have hdec : (List.range ops.size).countP (fun j => !(listed.setIfInBounds i true).getD j true) < (List.range ops.size).countP (fun j => !listed.getD j true) := by
        have e : ∀ j, (!(listed.setIfInBounds i true).getD j true) = ((!listed.getD j true) && decide (j ≠ i)) := fun j => by
          by_cases hj : j = i
          · subst hj; simp [hs, hlt]
          · rw [getD_set_ne true (Ne.symm hj)]; simp [hj]
        simp only [e]
        have hmem : i ∈ List.range ops.size := List.mem_range.2 hlt
        generalize List.range ops.size = l at hmem
        clear hc ih
        induction l with
        | nil => cases hmem
        | cons x l ihl =>
          simp only [List.countP_cons]
          by_cases hx : x = i
          · subst hx
            have hle : List.countP (fun j => (!listed.getD j true) && decide (j ≠ x)) l ≤ List.countP (fun j => !listed.getD j true) l := List.countP_mono_left (fun j _ h => by simp at h ⊢; exact h.1)
            have hle' := hle
            simp at hle'
            simp [h1]; omega
          · have := ihl (by rcases List.mem_cons.1 hmem with h | h; exact absurd h.symm hx; exact h)
            simp [hx]; simpa using this
      omega
  exact key _ _ _ _ (by simp) (by
    have := List.countP_le_length (p := fun i => !(Array.replicate ops.size false).getD i true) (l := List.range ops.size)
    simpa using this) h0
def pt (b : Bool) (d : Nat) (v : Value) (a : Act) : Act := if b then a.put (some d) v else a
theorem pt_eval (b : Bool) (d t : Nat) (v : Value) (a : Act) (h : t ≠ d) : (pt b d v a).eval (.tmp t) = a.eval (.tmp t) := by
  unfold pt; split
  · simp [Act.eval, Act.put, Ne.symm h]
  · rfl
theorem pt_size (b : Bool) (d : Nat) (v : Value) (a : Act) : (pt b d v a).tmps.size = a.tmps.size := by
  unfold pt; split <;> simp [Act.put]
theorem pt_eval_same (d : Nat) (v : Value) (a : Act) (h : d < a.tmps.size) : (pt true d v a).eval (.tmp d) = v := by
  simp [pt, Act.eval, Act.put, h]
theorem pt_put (b : Bool) (d e : Nat) (v u : Value) (a : Act) (h : d ≠ e) : (pt b d v a).put (some e) u = pt b d v (a.put (some e) u) := by
  unfold pt; split
  · exact Act.put_comm a v u (fun x hx hy => h (by rw [Option.some.inj hx, Option.some.inj hy]))
  · rfl
theorem wpOp_here {i : Nat} {o : Oper} {a : Act} {w : World} {K : Act → World → Prop} (ho : ops[i]? = some o) (hg : o.guard = none) (h : o.wp P a w K Q) : wpOp P ops Q i K a w := by
  unfold wpOp; rw [ho]
  simp only [Region.wanted, hg, if_true]
  exact Or.inl h
theorem wp_call_here {o : Oper} {a : Act} {w : World} {K : Act → World → Prop} (f : FuncId) (args : Array Value) (hr : (execOp a.eval o).run P w = .ok (.enter f args) w) (R : Ending → World → Prop) (hc : Calls P f args w R)
    (h : ∀ e w', R e w' → ∃ v, e = .returned v ∧ K (a.put o.dst v) w') : o.wp P a w K Q := by
  unfold Oper.wp
  rw [hr]
  refine hc.mono fun e w' hR => ?_
  obtain ⟨v, rfl, hK⟩ := h e w' hR
  exact hK
theorem wp_value_here {o : Oper} {a : Act} {w w' : World} {K : Act → World → Prop} (v : Value) (hr : (execOp a.eval o).run P w = .ok (.value v) w') (h : K (a.put o.dst v) w') : o.wp P a w K Q := by
  unfold Oper.wp; rw [hr]; exact h
theorem wp_skip_here {o : Oper} {a : Act} {w w' : World} {K : Act → World → Prop} (hr : (execOp a.eval o).run P w = .ok .skip w') (h : K (a.put o.dst undef) w') : o.wp P a w K Q := by
  unfold Oper.wp; rw [hr]; exact h
end
end Go
namespace Go
open Go.RowKit
section
variable {P : Program} {ops : Array Oper} {md : Region.Mode} {Q : Exit → Act → World → Prop}
def wpPure (P : Program) (ops : Array Oper) (L : Act → Prop) : List Oper → Act → Prop
  | [], a => L a
  | o :: rest, a => ∃ v, Yields P ops o v a ∧ wpPure P ops L rest (a.put o.dst v)
theorem put_defers (a : Act) (d : Option Tmp) (v : Value) : (a.put d v).defers = a.defers := by cases d <;> rfl
theorem pure_one {o : Oper} {rest : List Oper} {a : Act} {L : Act → Prop} (hg : o.guard = none) (v : Value) (hv : ∀ w, (execOp a.eval o).run P w = .ok (.value v) w) (h : wpPure P ops L rest (a.put o.dst v)) : wpPure P ops L (o :: rest) a :=
  ⟨v, Or.inl ⟨by simp [Region.wanted, hg], hv⟩, h⟩
end
section
variable {P : Program} {ops : Array Oper} {o : Oper} {rest : List Oper} {a : Act} {L : Act → Prop}
theorem pure_move (hg : o.guard = none) (x : Operand) (ho : o.op = .move x) (v : Value) (hx : a.eval x = v) (h : wpPure P ops L rest (a.put o.dst v)) : wpPure P ops L (o :: rest) a :=
  pure_one hg v (fun w => by unfold execOp; simp only [ho, hx]; rfl) h
end
end Go
namespace Go
open Go.RowKit
section
variable {P : Program} {ops : Array Oper} {md : Region.Mode} {C : World → Prop} {n p : Nat}
def Region.sinkP (md : Region.Mode) (ops : Array Oper) (p n : Nat) : Bool :=
  (List.range n).all fun i => decide (i < p) || ((List.range (n + 1)).any fun j => decide (i < j) && Region.waitsFor md ops j i)
theorem waits_from {listed : Array Bool} (hs : Region.sinkP md ops p n = true) (hc : Region.chainB md ops n = true) (hn : n < ops.size) (inv : HeadInv md ops n listed) (t : Nat) (ht : n ≤ t) (hr : t ∈ Region.ready md ops listed) :
    ∀ d i, n - i = d → p ≤ i → i < n → listed.getD i false = true := by
  obtain ⟨_, ot, hot, hall⟩ := mem_ready.1 hr
  have htl : t < ops.size := (Array.getElem?_eq_some_iff.1 hot).1
  have htn : t = n := by
    by_cases h : t = n
    · exact h
    · have h1 := List.all_eq_true.1 hc t (List.mem_range.2 htl)
      simp only [Bool.or_eq_true, decide_eq_true_eq] at h1
      rcases h1 with h1 | h1
      · omega
      · obtain ⟨oj, hoj, e, he, hb, hon⟩ := Region.waitsFor_spec h1
        obtain rfl : oj = ot := Option.some.inj (hoj.symm.trans hot)
        have h2 := hall e he hb
        have h3 := getD_both (inv.tail (t - 1) (by omega) (by omega))
        rw [hon, h3] at h2
        cases h2
  subst htn
  intro d
  induction d using Nat.strongRecOn with
  | _ d ih =>
    intro i hd hp hi
    have h1 := List.all_eq_true.1 hs i (List.mem_range.2 hi)
    simp only [Bool.or_eq_true, decide_eq_true_eq] at h1
    rcases h1 with h1 | h1
    · omega
    · obtain ⟨j, hj, hj2⟩ := List.any_eq_true.1 h1
      simp only [Bool.and_eq_true, decide_eq_true_eq] at hj2
      obtain ⟨oj, hoj, e, he, hb, hon⟩ := Region.waitsFor_spec hj2.2
      have hjle := List.mem_range.1 hj
      rw [← hon]
      by_cases hjt : j = t
      · subst hjt
        obtain rfl : oj = ot := Option.some.inj (hoj.symm.trans hot)
        exact hall e he hb
      · exact inv.closed j oj hoj (ih (t - j) (by omega) j rfl (by omega) (by omega)) e he hb
theorem headAny_takeP {i : Nat} {oi : Oper} {v : Value} {L : Array Bool → Act → Prop} (hi : ops[i]? = some oi) (hsel : Region.noSelect ops = true)
    (hs : Region.sinkP md ops p n = true) (hc : Region.chainB md ops n = true) (hn : n < ops.size) (hin : i < n) (hip : p ≤ i)
    (hdone : ∀ listed a, L listed a → ∀ j, j ∈ Region.ready md ops listed → n ≤ j) (f : Nat) :
    ∀ (listed : Array Bool) (a : Act), HeadInv md ops n listed →
      (∀ j oj, ops[j]? = some oj → j ≠ i → listed.getD j true = false → (∀ e ∈ oj.after, Region.binds md e = true → e.on ≠ i) → oi.apart ops oj = true) →
      i ∈ Region.ready md ops listed → YieldsIn P ops C oi v a →
      headAny P md ops C n L f (listed.setIfInBounds i true) (a.put oi.dst v) → headAny P md ops C n L (f + 1) listed a := by
  have low : ∀ listed : Array Bool, HeadInv md ops n listed → i ∈ Region.ready md ops listed → ∀ j, j ∈ Region.ready md ops listed → j < n := by
    intro listed inv hr j hj
    by_cases h : j < n
    · exact h
    · have h1 := waits_from hs hc hn inv j (by omega) hj (n - i) i rfl hip hin
      rw [getD_both (mem_ready.1 hr).1] at h1
      cases h1
  induction f with
  | zero =>
    intro listed a inv _ hr hy H
    refine ⟨fun h => (by rw [h] at hr; cases hr), fun j hj => ⟨low listed inv hr j hj, ?_⟩⟩
    have hjn := low listed inv hr j hj
    by_cases hji : j = i
    · subst hji; exact hy.qOp hi H
    · have := hdone _ _ H j (ready_mono hj hji); omega
  | succ f ih =>
    intro listed a inv hfree hr hy H
    have hun := (mem_ready.1 hr).1
    refine ⟨fun h => (by rw [h] at hr; cases hr), fun j hj => ⟨low listed inv hr j hj, ?_⟩⟩
    have hjn := low listed inv hr j hj
    by_cases hji : j = i
    · subst hji; exact hy.qOp hi H
    · have h1 := (H.2 j (ready_mono hj hji)).2
      obtain ⟨hjun, oj, hoj, hall⟩ := mem_ready.1 hj
      have hnot : ∀ e ∈ oj.after, Region.binds md e = true → e.on ≠ i := fun e he hb heq => by
        have h1 := hall e he hb
        rw [heq, getD_both hun] at h1
        cases h1
      have h2 := qOp_put hoj (hfree j oj hoj hji hjun hnot) (fun cs b => Region.noSelect_spec hsel i oi cs b hi) (fun cs b => Region.noSelect_spec hsel j oj cs b hoj) hy h1
      have hfree' : ∀ k ok, ops[k]? = some ok → k ≠ i → (listed.setIfInBounds j true).getD k true = false →
          (∀ e ∈ ok.after, Region.binds md e = true → e.on ≠ i) → oi.apart ops ok = true := fun k ok hk hki hun' hno => by
        refine hfree k ok hk hki ?_ hno
        by_cases hjk : j = k
        · subst hjk; exact hjun
        · rw [getD_set_ne true hjk] at hun'; exact hun'
      refine qOp_mono (fun a' h3 => ih (listed.setIfInBounds j true) a' (inv.set hj hjn) hfree' (ready_mono hr (Ne.symm hji)) h3.1 ?_) h2
      rw [Array.setIfInBounds_comm _ _ hji]
      exact h3.2
theorem headAny_textP {g : Nat} {Lq : Act → Prop} (hsel : Region.noSelect ops = true) (hs : Region.sinkP md ops p n = true) (hc : Region.chainB md ops n = true) (hn : n < ops.size) (l : List Oper) :
    ∀ (k : Nat) (listed : Array Bool) (a : Act), p ≤ k → (∀ j, j < l.length → l[j]? = ops[k + j]?) → k + l.length = n → HeadInv md ops n listed →
    Region.lexHead md ops g l.length k listed = true → wpQuiet P ops C Lq l a →
    headAny P md ops C n (fun listed' a' => Region.seqB md ops g n listed' = true ∧ Lq a') l.length listed a := by
  induction l with
  | nil =>
    intro k listed a _ _ hk _ hB h
    have : k = n := by simpa using hk
    subst this
    exact ⟨by simpa [Region.lexHead] using hB, h⟩
  | cons o l ih =>
    intro k listed a hpk hl hk inv hB h
    have h0 : ops[k]? = some o := by simpa using (hl 0 (by simp)).symm
    simp only [List.length_cons, Region.lexHead, Bool.and_eq_true] at hB
    obtain ⟨⟨hr, hf⟩, hB'⟩ := hB
    have hkn : k < n := by simp only [List.length_cons] at hk; omega
    have hr' : k ∈ Region.ready md ops listed := by simpa using hr
    have hst : qOp P ops C k (wpQuiet P ops C Lq l) a := by unfold qOp; simp only [h0]; exact h
    obtain ⟨v, hy, hK⟩ := yieldsIn_of_qOp h0 hst
    refine headAny_takeP h0 hsel hs hc hn hkn hpk (fun listed' a' hL => seqB_ready hL.1) l.length listed a inv (Region.free_spec h0 hf) hr' hy ?_
    exact ih (k + 1) _ _ (by omega) (fun j hj => by have := hl (j + 1) (by simp; omega); simpa [Nat.add_assoc, Nat.add_comm 1 j] using this) (by simp only [List.length_cons] at hk; omega) (inv.set hr' hkn) hB' hK
theorem wpAny_pureQ {Q : Exit → Act → World → Prop} (hsel : Region.noSelect ops = true) (hQ : ∀ c (a a' : Act) w, a.defers = a'.defers → Q (.panic c) a w → Q (.panic c) a' w) (g m F : Nat) (hpn : p ≤ n) (L : Act → Prop) (w : World)
    (hcont : ∀ listed a, HeadInv md ops n listed → Region.lexHead md ops g m p listed = true → L a → wpAny P md ops Q F listed a w) :
    ∀ (l : List Oper) (k : Nat) (listed : Array Bool) (a : Act), (∀ j, j < l.length → l[j]? = ops[k + j]?) → k + l.length = p → HeadInv md ops n listed → Region.lexHead md ops g (l.length + m) k listed = true →
      wpPure P ops L l a → wpAny P md ops Q (l.length + F) listed a w
  | [], k, listed, a, _, hk, inv, hB, h => by
    have : k = p := by simpa using hk
    subst this
    simp only [List.length_nil, Nat.zero_add] at hB ⊢
    exact hcont listed a inv hB h
  | o :: l, k, listed, a, hl, hk, inv, hB, h => by
    have h0 : ops[k]? = some o := by simpa using (hl 0 (by simp)).symm
    rw [show (o :: l).length + m = (l.length + m) + 1 by simp; omega] at hB
    simp only [Region.lexHead, Bool.and_eq_true] at hB
    obtain ⟨⟨hr, hf⟩, hB'⟩ := hB
    obtain ⟨v, hy, hK⟩ := h
    have hr' : k ∈ Region.ready md ops listed := by simpa using hr
    have hkn : k < n := by simp only [List.length_cons] at hk; omega
    have ih := wpAny_pureQ hsel hQ g m F hpn L w hcont l (k + 1) (listed.setIfInBounds k true) (a.put o.dst v) (fun j hj => by have := hl (j + 1) (by simp; omega); simpa [Nat.add_assoc, Nat.add_comm 1 j] using this) (by simp only [List.length_cons] at hk; omega) (inv.set hr' hkn) hB' hK
    rw [show (o :: l).length + F = (l.length + F) + 1 by simp; omega]
    exact wpAny_take h0 hsel hf hr (fun c a w hq => hQ c _ a w (put_defers a o.dst v) hq) hy ih
def Region.lexTailP (md : Region.Mode) (ops : Array Oper) (p n : Nat) : Bool :=
  Region.noSelect ops && decide (p ≤ n) && decide (n < ops.size) && Region.sinkP md ops p n && Region.chainB md ops n && Region.lexHead md ops (ops.size - n) n 0 (Array.replicate ops.size false)
theorem wp_region_pq_tail {id : Nat} {Q : Exit → Act → World → Prop} {a : Act} {w : World} {l : List Oper} (p n : Nat) (C : World → Prop) (hm : P.follows .mixedOrders = true) (hB : Region.lexTailP .any l.toArray p n = true)
    (hQ : ∀ c (a a' : Act) w, a.defers = a'.defers → Q (.panic c) a w → Q (.panic c) a' w) (hC : C w.drew)
    (h : wpPure P l.toArray (fun a1 => wpQuiet P l.toArray C (fun a' => ∀ w', C w' → wpList P l.toArray Q (l.drop n) a' w') ((l.take n).drop p) a1) (l.take p) a) : (Code.region id l.toArray true).wp P Q a w := by
  simp only [Region.lexTailP, Bool.and_eq_true, decide_eq_true_eq] at hB
  obtain ⟨⟨⟨⟨⟨hsel, hpn⟩, hn⟩, hs⟩, hc⟩, hlex⟩ := hB
  have hn' : n < l.length := by simpa using hn
  have htl : (l.take p).length = p := by simp; omega
  have hml : ((l.take n).drop p).length = n - p := by simp; omega
  have hdl : (l.drop n).length = l.toArray.size - n := by simp
  have inv0 : HeadInv .any l.toArray n (Array.replicate l.toArray.size false) :=
    ⟨by simp, fun j oj _ hl => (by rw [getD_replicate_false] at hl; cases hl), fun t _ ht => getD_in (by simpa using ht) (getD_replicate_false _ _)⟩
  refine wp_region_any hm ?_
  have := wpAny_pureQ (md := .any) (Q := Q) (n := n) (p := p) hsel hQ (l.toArray.size - n) (n - p) ((n - p) + (l.toArray.size - n)) hpn _ w.drew (fun listed a1 inv hlex' hq => by
    have H := headAny_textP (md := .any) (g := l.toArray.size - n) hsel hs hc hn ((l.take n).drop p) p listed a1 (Nat.le_refl _) (fun j hj => by
      rw [hml] at hj
      rw [List.getElem?_drop, List.getElem?_take, if_pos (by omega)]; simp) (by rw [hml]; omega) inv (by rw [hml]; exact hlex') hq
    have R := headAny_run (Q := Q) (g := l.toArray.size - n) (fun listed a' w' hw' hL => by
      have := wpAny_of_seq (md := .any) (Q' := Q) (l.drop n) n listed a' w' (fun j => by simp [List.getElem?_drop]) (by rw [hdl]; exact hL.1) (hL.2 w' hw')
      rwa [hdl] at this) _ _ _ w.drew hC H
    rw [hml] at R
    exact R) (l.take p) 0 _ a (fun j hj => by
      rw [htl] at hj
      simp [hj]) (by simpa using htl) inv0 (by rw [htl, show p + (n - p) = n by omega]; exact hlex) h
  rw [htl, show p + ((n - p) + (l.toArray.size - n)) = l.toArray.size by omega] at this
  exact this
end
end Go
