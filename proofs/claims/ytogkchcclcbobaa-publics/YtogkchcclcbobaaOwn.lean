/- Slices of integers that the call itself makes: make, append. -/
import Derived.Test.YtogkchcclcbobaaNum
import Derived.Laws.CopyRow
namespace Go
open Go.RowKit Go.Msg

/-- t: a slice of integers of kind k, B bytes each. -/
def SliceTy (P : Program) (t e : Nat) (k : IntKind) (B : Nat) : Prop := P.underlying t = some (.slice e) ∧ (P.info? e).map (fun i => (i.zero, i.size, i.bytes)) = some (some (.int k 0), 1, B) ∧ B ≤ 8
def ints (k : IntKind) (n : Nat) (f : Nat → Int) : List Value := (List.range n).map fun i => .int k (f i)
theorem ints_length (k : IntKind) (n : Nat) (f : Nat → Int) : (ints k n f).length = n := by simp [ints]
theorem ints_get (k : IntKind) (n : Nat) (f : Nat → Int) (i : Nat) (h : i < n) : (ints k n f)[i]? = some (.int k (f i)) := by simp [ints, h]
theorem ints_snoc (k : IntKind) (n : Nat) (f : Nat → Int) (z : Int) : ints k n f ++ [.int k z] = ints k (n + 1) (upd f n z) := by
  unfold ints
  rw [List.range_succ, List.map_append]
  congr 1
  · apply List.map_congr_left; intro i hi; have : i ≠ n := by have := List.mem_range.1 hi; omega
    simp [upd, this]
  · simp [upd]
theorem ints_congr {k : IntKind} {n : Nat} {f g : Nat → Int} (h : ∀ i, i < n → f i = g i) : ints k n f = ints k n g := by
  unfold ints; apply List.map_congr_left; intro i hi; rw [h i (by simpa using hi)]
theorem NumAt.of_owns {w : World} {B e : Nat} {v : Value} {n : Nat} {f : Nat → Int} (h : w.ownsRow B e 1 v n (ints .i64 n f)) : NumAt w v n f := by
  obtain ⟨h1, h2⟩ := h
  rcases h2 with ⟨rfl, rfl⟩ | ⟨g, cap, cur, rfl, hg, hh, hc, hm, hs, ht⟩
  · exact NumAt.nil _ _ _ _
  · refine ⟨_, cap, g, rfl, hc, fun _ => rfl, fun i hi => ?_⟩
    have hown : w.ownsRow B e 1 (.slice (some ⟨g, 0, none⟩) n cap) n (ints .i64 n f) := ⟨h1, Or.inr ⟨g, cap, cur, rfl, hg, hh, hc, hm, hs, ht⟩⟩
    rw [hown.cellAt i (by omega), ints_get _ _ _ _ hi]
theorem wpl_make {P : Program} {t e : Nat} {k : IntKind} {B : Nat} (hS : SliceTy P t e k B) {ops : Array Oper} {rest : List Oper} {o : Oper} {a : Act} {w : World} {Q : Exit → Act → World → Prop} (hgd : o.guard = none) (l c : Operand) (ho : o.op = .makeSlice t l c)
    (n : Nat) (L C : Int) (hl : a.eval l = .int .i64 L) (hc : a.eval c = .int .i64 C) (hL : L = n) (hC : C = n) (hn : n ≤ 1000000)
    (h : wpList P ops Q rest (a.put o.dst (.slice (some ⟨w.heap.size, 0, none⟩) n n)) (w.alloc (.cells (tab k n (fun _ => 0)) e))) : wpList P ops Q (o :: rest) a w := by
  subst hL hC
  obtain ⟨ht, hi, hB⟩ := hS
  refine wpList_plain hgd fun _ hK => ?_
  cases hq : P.info? e with
  | none => simp [hq] at hi
  | some i =>
    simp [hq] at hi
    obtain ⟨i1, i2, i3⟩ := hi
    have hb : (i.bytes : Int) * (n : Int) ≤ 281474976710656 := by
      rw [i3]
      have : (B : Int) * (n : Int) ≤ 8 * 1000000 := Int.mul_le_mul (by omega) (by omega) (by omega) (by omega)
      omega
    have hr := run_make (P := P) w t e i (.int k 0) ht hq i1 .i64 .i64 n n (by omega) (by omega) hb (by omega)
    unfold Oper.wp execOp
    simp only [ho, hl, hc]
    rw [Sem.run_bind, hr]
    have e1 : madeCells (Value.int k 0).cells ((n : Int).toNat * i.size) = tab k n (fun _ => 0) := by
      rw [i2, tab_eq]
      simp only [Int.toNat_natCast, Nat.mul_one, madeCells, Value.cells]
      apply Array.ext'
      simp [Nat.mod_one]
    rw [e1]
    exact hK _ _ h
theorem wpl_append1 {P : Program} {t e : Nat} {k : IntKind} {B : Nat} (hS : SliceTy P t e k B) {ops : Array Oper} {rest : List Oper} {o : Oper} {a : Act} {w : World} {Q : Exit → Act → World → Prop} (hgd : o.guard = none) (s x : Operand)
    (ho : o.op = .call { callee := .builtin .append, args := #[s, x], argTypes := #[t, t] }) (base : Nat) (v : Value) (n : Nat) (f : Nat → Int) (hs : a.eval s = v) (hown : w.ownsRow base e 1 v n (ints k n f)) (g1 : Nat) (z : Int)
    (hx : a.eval x = .slice (some ⟨g1, 0, none⟩) 1 1) (hz : w.cell? ⟨g1, 0, none⟩ = some (.int k z)) (hn : n ≤ 1000000) (hb : base ≤ w.heap.size)
    (h : ∀ v' w', w'.ownsRow base e 1 v' (n + 1) (ints k (n + 1) (upd f n z)) → (∀ w0, Below base w0 w → Below base w0 w') → w.heap.size ≤ w'.heap.size → wpList P ops Q rest (a.put o.dst v') w') : wpList P ops Q (o :: rest) a w := by
  obtain ⟨ht, hi, hB⟩ := hS
  cases hq : P.info? e with
  | none => simp [hq] at hi
  | some i =>
    simp [hq] at hi
    obtain ⟨i1, i2, i3⟩ := hi
    refine wpList_append_own _ hgd s x t ho base e i (.int k 0) 1 B ht hq i1 i2 i3 rfl (by omega) v n (ints k n f) hs hown ⟨g1, 0, none⟩ 1 1 [.int k z] hx rfl ?_ ?_ ?_ ?_ hb ?_
    · intro j u hj
      match j, hj with
      | 0, hj => simp at hj; subst hj; simp [Addr.add]; exact hz
    · intro u hu; simp at hu; subst hu; rfl
    · unfold maxLen; omega
    · have : (n + 1) * B ≤ 1000001 * 8 := Nat.mul_le_mul (by omega) (by omega)
      omega
    · intro v' w' h1 h2 _
      rw [ints_snoc] at h1
      refine h v' w' h1 (fun w0 hb0 => hb0.grown h2 hb (fun q hq' => (hown.lt q hq').1)) h2.size
theorem tab_splice0 (k : IntKind) (N m : Nat) (F f : Nat → Int) (h : m ≤ N) : ((tab k N F).toList.take 0 ++ ints k m f ++ (tab k N F).toList.drop (0 + (ints k m f).length)).toArray = tab k N (splice F 0 m f) := by
  apply Array.ext_getElem?
  intro i
  simp only [List.take_zero, List.nil_append, List.getElem?_toArray, ints_length, Nat.zero_add]
  by_cases hi : i < m
  · rw [List.getElem?_append_left (by rw [ints_length]; exact hi), ints_get _ _ _ _ hi, tab_get _ _ _ _ (by omega)]
    simp [splice, hi]
  · rw [List.getElem?_append_right (by rw [ints_length]; omega), ints_length, List.getElem?_drop, show m + (i - m) = i by omega]
    by_cases hN : i < N
    · rw [tab_get _ _ _ _ hN, Array.getElem?_toList, tab_get _ _ _ _ hN]
      simp [splice, hi]
    · have e : ∀ G, (tab k N G)[i]? = none := fun G => by simp [tab_eq]; omega
      rw [Array.getElem?_toList, e, e]
/-- copy(out, src): m numbers to the head of a row. -/
theorem wpl_copy {P : Program} {t e : Nat} {k : IntKind} {B : Nat} (hS : SliceTy P t e k B) {ops : Array Oper} {rest : List Oper} {o : Oper} {a : Act} {w : World} {Q : Exit → Act → World → Prop} (hgd : o.guard = none) (s x : Operand)
    (ho : o.op = .call { callee := .builtin .copy, args := #[s, x], argTypes := #[t, t] }) (g dCap g1 m sCap N : Nat) (F f : Nat → Int) (hs : a.eval s = .slice (some ⟨g, 0, none⟩) N dCap) (hx : a.eval x = .slice (some ⟨g1, 0, none⟩) m sCap)
    (hr : w.rowOf g = tab k N F) (hN : 0 < N) (hm : m ≤ N) (hc : ∀ i, i < m → w.cell? ⟨g1, i, none⟩ = some (.int k (f i)))
    (h : wpList P ops Q rest (a.put o.dst (.int .i64 m)) (w.setRow g (tab k N (splice F 0 m f)))) : wpList P ops Q (o :: rest) a w := by
  obtain ⟨ht, hi, hB⟩ := hS
  obtain ⟨t', hh⟩ := rowOf_heap (w := w) (g := g) rfl (by rw [hr, tab_size]; exact hN)
  have hrun := run_copy_row (P := P) w t t o.type e g 0 N dCap ⟨g1, 0, none⟩ m sCap (w.rowOf g) t' (ints k m f) ht (by
    cases hq : P.info? e with
    | none => simp [hq] at hi
    | some i => simp [hq] at hi ⊢; exact hi.2.1) hh (by rw [ints_length]; exact (Nat.min_eq_left hm).symm) (fun j v hj => by
      have hj' : j < m := by have := (List.getElem?_eq_some_iff.1 hj).1; rwa [ints_length] at this
      rw [ints_get _ _ _ _ hj'] at hj
      rw [Addr.add_mid, Nat.zero_add, hc j hj']; exact hj) (by rw [ints_length, hr, tab_size]; omega) (fun v hv => by
      simp [ints] at hv
      obtain ⟨i, _, rfl⟩ := hv; rfl)
  rw [hr, tab_splice0 k N m F f hm, ints_length] at hrun
  refine wpList_plain hgd fun _ hK => ?_
  unfold Oper.wp
  simp only [execOp, ho, resolve, invoke, builtin, List.map_toArray, List.map_cons, List.map_nil, hs, hx, Sem.run_bind, Sem.run_pure, Result.andThen_ok, hrun]
  exact hK _ _ h
end Go
