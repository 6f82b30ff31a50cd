import Derived.Test.YteghoooelgcpkaaGreatDoorM00
namespace Go
open Go.RowKit
section
variable {P : Program} {ops : Array Oper} {md : Region.Mode} {Q : Exit → Act → World → Prop}
def wpPure (P : Program) (ops : Array Oper) (L : Act → Prop) : List Oper → Act → Prop
  | [], a => L a
  | o :: rest, a => ∃ v, Yields P ops o v a ∧ wpPure P ops L rest (a.put o.dst v)
theorem put_defers (a : Act) (d : Option Tmp) (v : Value) : (a.put d v).defers = a.defers := by cases d <;> rfl
theorem wpAny_pure (hsel : Region.noSelect ops = true) (hQ : ∀ c (a a' : Act) w, a.defers = a'.defers → Q (.panic c) a w → Q (.panic c) a' w) (tail : List Oper) (w : World) :
    ∀ (l : List Oper) (k : Nat) (listed : Array Bool) (a : Act), (∀ j, j < l.length → l[j]? = ops[k + j]?) → (∀ j, tail[j]? = ops[k + l.length + j]?) → Region.lexHead md ops tail.length l.length k listed = true →
      wpPure P ops (fun a' => wpList P ops Q tail a' w) l a → wpAny P md ops Q (l.length + tail.length) listed a w
  | [], k, listed, a, _, ht, hB, h => by
    rw [List.length_nil, Nat.zero_add]
    exact wpAny_of_seq tail k listed a w (fun j => by simpa using ht j) (by simpa [Region.lexHead] using hB) h
  | o :: l, k, listed, a, hl, ht, hB, h => by
    have h0 : ops[k]? = some o := by simpa using (hl 0 (by simp)).symm
    simp only [List.length_cons, Region.lexHead, Bool.and_eq_true] at hB
    obtain ⟨⟨hr, hf⟩, hB'⟩ := hB
    obtain ⟨v, hy, hK⟩ := h
    have ih := wpAny_pure hsel hQ tail w l (k + 1) (listed.setIfInBounds k true) (a.put o.dst v) (fun j hj => by have := hl (j + 1) (by simp; omega); simpa [Nat.add_assoc, Nat.add_comm 1 j] using this) (fun j => by have := ht j; rw [this]; congr 1; simp; omega) hB' hK
    rw [show (o :: l).length + tail.length = (l.length + tail.length) + 1 by simp; omega]
    exact wpAny_take h0 hsel hf hr (fun c a w hq => hQ c _ a w (put_defers a o.dst v) hq) hy ih
theorem wp_region_pure {id : Nat} {a : Act} {w : World} {l : List Oper} (n : Nat) (hn : n ≤ l.length) (hm : P.follows .mixedOrders = true) (hs : Region.noSelect l.toArray = true) (hB : Region.lexHead .any l.toArray (l.length - n) n 0 (Array.replicate l.length false) = true)
    (hQ : ∀ c (a a' : Act) w, a.defers = a'.defers → Q (.panic c) a w → Q (.panic c) a' w) (h : wpPure P l.toArray (fun a' => wpList P l.toArray Q (l.drop n) a' w.drew) (l.take n) a) : (Code.region id l.toArray true).wp P Q a w := by
  have htl : (l.take n).length = n := by simp; omega
  have hdl : (l.drop n).length = l.length - n := by simp
  refine wp_region_any hm ?_
  have := wpAny_pure (md := .any) hs hQ (l.drop n) w.drew (l.take n) 0 (Array.replicate l.length false) a (fun j hj => by
    have hj' : j < n := by rw [htl] at hj; exact hj
    simp [hj']) (fun j => by rw [htl]; simp [List.getElem?_drop]) (by rw [htl, hdl]; exact hB) h
  rw [htl, hdl, show n + (l.length - n) = l.length by omega] at this
  simpa using this
theorem pure_one {o : Oper} {rest : List Oper} {a : Act} {L : Act → Prop} (hg : o.guard = none) (v : Value) (hv : ∀ w, (execOp a.eval o).run P w = .ok (.value v) w) (h : wpPure P ops L rest (a.put o.dst v)) : wpPure P ops L (o :: rest) a :=
  ⟨v, Or.inl ⟨by simp [Region.wanted, hg], hv⟩, h⟩
end
section
variable {P : Program} {ops : Array Oper} {o : Oper} {rest : List Oper} {a : Act} {L : Act → Prop}
theorem pure_move (hg : o.guard = none) (x : Operand) (ho : o.op = .move x) (v : Value) (hx : a.eval x = v) (h : wpPure P ops L rest (a.put o.dst v)) : wpPure P ops L (o :: rest) a :=
  pure_one hg v (fun w => by unfold execOp; simp only [ho, hx]; rfl) h
theorem pure_slice_lh (hg : o.guard = none) (t : TypeId) (x lo hi : Operand) (ho : o.op = .slice t x (some lo) (some hi) none) (ht : P.underlying t = some .string) (s : ByteArray) (i j : Int) (hx : a.eval x = .string s) (hl : a.eval lo = .int .i64 i) (hh : a.eval hi = .int .i64 j) (h0 : 0 ≤ i) (h1 : i ≤ j) (h2 : j ≤ s.size)
    (h : wpPure P ops L rest (a.put o.dst (.string (s.extract i.toNat j.toNat)))) : wpPure P ops L (o :: rest) a :=
  pure_one hg _ (fun w => by unfold execOp; simp only [ho, hx, hl, hh, Option.map]; simp [go_sem, ht, h0, h1, h2]) h
theorem pure_slice_h (hg : o.guard = none) (t : TypeId) (x hi : Operand) (ho : o.op = .slice t x none (some hi) none) (ht : P.underlying t = some .string) (s : ByteArray) (j : Int) (hx : a.eval x = .string s) (hh : a.eval hi = .int .i64 j) (h1 : 0 ≤ j) (h2 : j ≤ s.size)
    (h : wpPure P ops L rest (a.put o.dst (.string (s.extract 0 j.toNat)))) : wpPure P ops L (o :: rest) a :=
  pure_one hg _ (fun w => by unfold execOp; simp only [ho, hx, hh, Option.map]; simp [go_sem, ht, h1, h2]) h
theorem pure_slice_l (hg : o.guard = none) (t : TypeId) (x lo : Operand) (ho : o.op = .slice t x (some lo) none none) (ht : P.underlying t = some .string) (s : ByteArray) (i : Int) (hx : a.eval x = .string s) (hl : a.eval lo = .int .i64 i) (h0 : 0 ≤ i) (h1 : i ≤ s.size)
    (h : wpPure P ops L rest (a.put o.dst (.string (s.extract i.toNat s.size)))) : wpPure P ops L (o :: rest) a :=
  pure_one hg _ (fun w => by unfold execOp; simp only [ho, hx, hl, Option.map]; simp [go_sem, ht, h0, h1]) h
theorem pure_add (hg : o.guard = none) (t t' : TypeId) (x y : Operand) (ho : o.op = .binOp .add t x y t') (i j : Int) (hx : a.eval x = .int .i64 i) (hy : a.eval y = .int .i64 j) (hw : IntKind.i64.wrap (i + j) = i + j)
    (h : wpPure P ops L rest (a.put o.dst (.int .i64 (i + j)))) : wpPure P ops L (o :: rest) a :=
  pure_one hg _ (fun w => by unfold execOp; simp only [ho, hx, hy]; simp [go_sem, hw]) h
theorem pure_build (hg : o.guard = none) (t : TypeId) (parts : Array (Nat × Operand)) (ho : o.op = .build t parts) (vs : Array (Nat × Value)) (hp : (parts.map fun (i, x) => (i, a.eval x)) = vs) (v : Value) (hv : ∀ w, (Instr.build t vs).run P w = .ok v w)
    (h : wpPure P ops L rest (a.put o.dst v)) : wpPure P ops L (o :: rest) a :=
  pure_one hg v (fun w => by unfold execOp; simp only [ho, hp]; rw [Sem.run_bind, hv w]; rfl) h
end
end Go
namespace Go
open Go.RowKit
section
variable {P : Program} {ops : Array Oper} {md : Region.Mode} {C : World → Prop} {n p : Nat}
def Region.sinkP (md : Region.Mode) (ops : Array Oper) (p n : Nat) : Bool :=
  (List.range n).all fun i => decide (i < p) || ((List.range (n + 1)).any fun j => decide (i < j) && Region.waitsFor md ops j i)
theorem waits_from {listed : Array Bool} (hs : Region.sinkP md ops p n = true) (hc : Region.chainB md ops n = true) (hn : n < ops.size) (inv : HeadInv md ops n listed) (t : Nat) (ht : n ≤ t) (hr : t ∈ Region.ready md ops listed) :
    ∀ d i, n - i = d → p ≤ i → i < n → listed.getD i false = true := by
  obtain ⟨_, ot, hot, hall⟩ := mem_ready.1 hr
  have htl : t < ops.size := (Array.getElem?_eq_some_iff.1 hot).1
  have htn : t = n := by
    by_cases h : t = n
    · exact h
    · have h1 := List.all_eq_true.1 hc t (List.mem_range.2 htl)
      simp only [Bool.or_eq_true, decide_eq_true_eq] at h1
      rcases h1 with h1 | h1
      · omega
      · obtain ⟨oj, hoj, e, he, hb, hon⟩ := Region.waitsFor_spec h1
        obtain rfl : oj = ot := Option.some.inj (hoj.symm.trans hot)
        have h2 := hall e he hb
        have h3 := getD_both (inv.tail (t - 1) (by omega) (by omega))
        rw [hon, h3] at h2
        cases h2
  subst htn
  intro d
  induction d using Nat.strongRecOn with
  | _ d ih =>
    intro i hd hp hi
    have h1 := List.all_eq_true.1 hs i (List.mem_range.2 hi)
    simp only [Bool.or_eq_true, decide_eq_true_eq] at h1
    rcases h1 with h1 | h1
    · omega
    · obtain ⟨j, hj, hj2⟩ := List.any_eq_true.1 h1
      simp only [Bool.and_eq_true, decide_eq_true_eq] at hj2
      obtain ⟨oj, hoj, e, he, hb, hon⟩ := Region.waitsFor_spec hj2.2
      have hjle := List.mem_range.1 hj
      rw [← hon]
      by_cases hjt : j = t
      · subst hjt
        obtain rfl : oj = ot := Option.some.inj (hoj.symm.trans hot)
        exact hall e he hb
      · exact inv.closed j oj hoj (ih (t - j) (by omega) j rfl (by omega) (by omega)) e he hb
theorem headAny_takeP {i : Nat} {oi : Oper} {v : Value} {L : Array Bool → Act → Prop} (hi : ops[i]? = some oi) (hsel : Region.noSelect ops = true)
    (hs : Region.sinkP md ops p n = true) (hc : Region.chainB md ops n = true) (hn : n < ops.size) (hin : i < n) (hip : p ≤ i)
    (hdone : ∀ listed a, L listed a → ∀ j, j ∈ Region.ready md ops listed → n ≤ j) (f : Nat) :
    ∀ (listed : Array Bool) (a : Act), HeadInv md ops n listed →
      (∀ j oj, ops[j]? = some oj → j ≠ i → listed.getD j true = false → (∀ e ∈ oj.after, Region.binds md e = true → e.on ≠ i) → oi.apart ops oj = true) →
      i ∈ Region.ready md ops listed → YieldsIn P ops C oi v a →
      headAny P md ops C n L f (listed.setIfInBounds i true) (a.put oi.dst v) → headAny P md ops C n L (f + 1) listed a := by
  have low : ∀ listed : Array Bool, HeadInv md ops n listed → i ∈ Region.ready md ops listed → ∀ j, j ∈ Region.ready md ops listed → j < n := by
    intro listed inv hr j hj
    by_cases h : j < n
    · exact h
    · have h1 := waits_from hs hc hn inv j (by omega) hj (n - i) i rfl hip hin
      rw [getD_both (mem_ready.1 hr).1] at h1
      cases h1
  induction f with
  | zero =>
    intro listed a inv _ hr hy H
    refine ⟨fun h => (by rw [h] at hr; cases hr), fun j hj => ⟨low listed inv hr j hj, ?_⟩⟩
    have hjn := low listed inv hr j hj
    by_cases hji : j = i
    · subst hji; exact hy.qOp hi H
    · have := hdone _ _ H j (ready_mono hj hji); omega
  | succ f ih =>
    intro listed a inv hfree hr hy H
    have hun := (mem_ready.1 hr).1
    refine ⟨fun h => (by rw [h] at hr; cases hr), fun j hj => ⟨low listed inv hr j hj, ?_⟩⟩
    have hjn := low listed inv hr j hj
    by_cases hji : j = i
    · subst hji; exact hy.qOp hi H
    · have h1 := (H.2 j (ready_mono hj hji)).2
      obtain ⟨hjun, oj, hoj, hall⟩ := mem_ready.1 hj
      have hnot : ∀ e ∈ oj.after, Region.binds md e = true → e.on ≠ i := fun e he hb heq => by
        have h1 := hall e he hb
        rw [heq, getD_both hun] at h1
        cases h1
      have h2 := qOp_put hoj (hfree j oj hoj hji hjun hnot) (fun cs b => Region.noSelect_spec hsel i oi cs b hi) (fun cs b => Region.noSelect_spec hsel j oj cs b hoj) hy h1
      have hfree' : ∀ k ok, ops[k]? = some ok → k ≠ i → (listed.setIfInBounds j true).getD k true = false →
          (∀ e ∈ ok.after, Region.binds md e = true → e.on ≠ i) → oi.apart ops ok = true := fun k ok hk hki hun' hno => by
        refine hfree k ok hk hki ?_ hno
        by_cases hjk : j = k
        · subst hjk; exact hjun
        · rw [getD_set_ne true hjk] at hun'; exact hun'
      refine qOp_mono (fun a' h3 => ih (listed.setIfInBounds j true) a' (inv.set hj hjn) hfree' (ready_mono hr (Ne.symm hji)) h3.1 ?_) h2
      rw [Array.setIfInBounds_comm _ _ hji]
      exact h3.2
theorem headAny_textP {g : Nat} {Lq : Act → Prop} (hsel : Region.noSelect ops = true) (hs : Region.sinkP md ops p n = true) (hc : Region.chainB md ops n = true) (hn : n < ops.size) (l : List Oper) :
    ∀ (k : Nat) (listed : Array Bool) (a : Act), p ≤ k → (∀ j, j < l.length → l[j]? = ops[k + j]?) → k + l.length = n → HeadInv md ops n listed →
    Region.lexHead md ops g l.length k listed = true → wpQuiet P ops C Lq l a →
    headAny P md ops C n (fun listed' a' => Region.seqB md ops g n listed' = true ∧ Lq a') l.length listed a := by
  induction l with
  | nil =>
    intro k listed a _ _ hk _ hB h
    have : k = n := by simpa using hk
    subst this
    exact ⟨by simpa [Region.lexHead] using hB, h⟩
  | cons o l ih =>
    intro k listed a hpk hl hk inv hB h
    have h0 : ops[k]? = some o := by simpa using (hl 0 (by simp)).symm
    simp only [List.length_cons, Region.lexHead, Bool.and_eq_true] at hB
    obtain ⟨⟨hr, hf⟩, hB'⟩ := hB
    have hkn : k < n := by simp only [List.length_cons] at hk; omega
    have hr' : k ∈ Region.ready md ops listed := by simpa using hr
    have hst : qOp P ops C k (wpQuiet P ops C Lq l) a := by unfold qOp; simp only [h0]; exact h
    obtain ⟨v, hy, hK⟩ := yieldsIn_of_qOp h0 hst
    refine headAny_takeP h0 hsel hs hc hn hkn hpk (fun listed' a' hL => seqB_ready hL.1) l.length listed a inv (Region.free_spec h0 hf) hr' hy ?_
    exact ih (k + 1) _ _ (by omega) (fun j hj => by have := hl (j + 1) (by simp; omega); simpa [Nat.add_assoc, Nat.add_comm 1 j] using this) (by simp only [List.length_cons] at hk; omega) (inv.set hr' hkn) hB' hK
theorem wpAny_pureQ {Q : Exit → Act → World → Prop} (hsel : Region.noSelect ops = true) (hQ : ∀ c (a a' : Act) w, a.defers = a'.defers → Q (.panic c) a w → Q (.panic c) a' w) (g m F : Nat) (hpn : p ≤ n) (L : Act → Prop) (w : World)
    (hcont : ∀ listed a, HeadInv md ops n listed → Region.lexHead md ops g m p listed = true → L a → wpAny P md ops Q F listed a w) :
    ∀ (l : List Oper) (k : Nat) (listed : Array Bool) (a : Act), (∀ j, j < l.length → l[j]? = ops[k + j]?) → k + l.length = p → HeadInv md ops n listed → Region.lexHead md ops g (l.length + m) k listed = true →
      wpPure P ops L l a → wpAny P md ops Q (l.length + F) listed a w
  | [], k, listed, a, _, hk, inv, hB, h => by
    have : k = p := by simpa using hk
    subst this
    simp only [List.length_nil, Nat.zero_add] at hB ⊢
    exact hcont listed a inv hB h
  | o :: l, k, listed, a, hl, hk, inv, hB, h => by
    have h0 : ops[k]? = some o := by simpa using (hl 0 (by simp)).symm
    rw [show (o :: l).length + m = (l.length + m) + 1 by simp; omega] at hB
    simp only [Region.lexHead, Bool.and_eq_true] at hB
    obtain ⟨⟨hr, hf⟩, hB'⟩ := hB
    obtain ⟨v, hy, hK⟩ := h
    have hr' : k ∈ Region.ready md ops listed := by simpa using hr
    have hkn : k < n := by simp only [List.length_cons] at hk; omega
    have ih := wpAny_pureQ hsel hQ g m F hpn L w hcont l (k + 1) (listed.setIfInBounds k true) (a.put o.dst v) (fun j hj => by have := hl (j + 1) (by simp; omega); simpa [Nat.add_assoc, Nat.add_comm 1 j] using this) (by simp only [List.length_cons] at hk; omega) (inv.set hr' hkn) hB' hK
    rw [show (o :: l).length + F = (l.length + F) + 1 by simp; omega]
    exact wpAny_take h0 hsel hf hr (fun c a w hq => hQ c _ a w (put_defers a o.dst v) hq) hy ih
def Region.lexTailP (md : Region.Mode) (ops : Array Oper) (p n : Nat) : Bool :=
  Region.noSelect ops && decide (p ≤ n) && decide (n < ops.size) && Region.sinkP md ops p n && Region.chainB md ops n && Region.lexHead md ops (ops.size - n) n 0 (Array.replicate ops.size false)
theorem wp_region_pq_tail {id : Nat} {Q : Exit → Act → World → Prop} {a : Act} {w : World} {l : List Oper} (p n : Nat) (C : World → Prop) (hm : P.follows .mixedOrders = true) (hB : Region.lexTailP .any l.toArray p n = true)
    (hQ : ∀ c (a a' : Act) w, a.defers = a'.defers → Q (.panic c) a w → Q (.panic c) a' w) (hC : C w.drew)
    (h : wpPure P l.toArray (fun a1 => wpQuiet P l.toArray C (fun a' => ∀ w', C w' → wpList P l.toArray Q (l.drop n) a' w') ((l.take n).drop p) a1) (l.take p) a) : (Code.region id l.toArray true).wp P Q a w := by
  simp only [Region.lexTailP, Bool.and_eq_true, decide_eq_true_eq] at hB
  obtain ⟨⟨⟨⟨⟨hsel, hpn⟩, hn⟩, hs⟩, hc⟩, hlex⟩ := hB
  have hn' : n < l.length := by simpa using hn
  have htl : (l.take p).length = p := by simp; omega
  have hml : ((l.take n).drop p).length = n - p := by simp; omega
  have hdl : (l.drop n).length = l.toArray.size - n := by simp
  have inv0 : HeadInv .any l.toArray n (Array.replicate l.toArray.size false) :=
    ⟨by simp, fun j oj _ hl => (by rw [getD_replicate_false] at hl; cases hl), fun t _ ht => getD_in (by simpa using ht) (getD_replicate_false _ _)⟩
  refine wp_region_any hm ?_
  have := wpAny_pureQ (md := .any) (Q := Q) (n := n) (p := p) hsel hQ (l.toArray.size - n) (n - p) ((n - p) + (l.toArray.size - n)) hpn _ w.drew (fun listed a1 inv hlex' hq => by
    have H := headAny_textP (md := .any) (g := l.toArray.size - n) hsel hs hc hn ((l.take n).drop p) p listed a1 (Nat.le_refl _) (fun j hj => by
      rw [hml] at hj
      rw [List.getElem?_drop, List.getElem?_take, if_pos (by omega)]; simp) (by rw [hml]; omega) inv (by rw [hml]; exact hlex') hq
    have R := headAny_run (Q := Q) (g := l.toArray.size - n) (fun listed a' w' hw' hL => by
      have := wpAny_of_seq (md := .any) (Q' := Q) (l.drop n) n listed a' w' (fun j => by simp [List.getElem?_drop]) (by rw [hdl]; exact hL.1) (hL.2 w' hw')
      rwa [hdl] at this) _ _ _ w.drew hC H
    rw [hml] at R
    exact R) (l.take p) 0 _ a (fun j hj => by
      rw [htl] at hj
      simp [hj]) (by simpa using htl) inv0 (by rw [htl, show p + (n - p) = n by omega]; exact hlex) h
  rw [htl, show p + ((n - p) + (l.toArray.size - n)) = l.toArray.size by omega] at this
  exact this
end
end Go
