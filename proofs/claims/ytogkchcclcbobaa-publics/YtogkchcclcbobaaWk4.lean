/- The walks of the document's own answer: the side that bytes are. -/
import Derived.Test.YtogkchcclcbobaaWk3
namespace Go.Proofs.Ytogkchcclcbobaa
open Go.RowKit Go.Msg
theorem rowfz {W : World} {g : Nat} {c : Array Value} (h : W.rowOf g = c) (j : Nat) (hj : j < c.size) : W.frozen? ⟨g, j, none⟩ = false := (cell_of_rowOf h j hj).2
theorem row_set {W : World} {g : Nat} {c : Array Value} (h : W.rowOf g = c) (hc : 0 < c.size) (j : Nat) (v : Value) : (W.setCell ⟨g, j, none⟩ v).rowOf g = c.setIfInBounds j v := by
  obtain ⟨t, ht⟩ := rowOf_heap (w := W) (g := g) rfl (by rw [h]; exact hc)
  rw [h] at ht
  have : (W.setCell ⟨g, j, none⟩ v).heap[g]? = some (.cells (c.setIfInBounds j v) t (0, 0)) := by
    show (W.heap.modify g _)[g]? = _
    rw [Array.getElem?_modify]; simp [ht]
  exact rowOf_block this
/-- A side, its cells. -/
def sideOf (a0 a1 a2 a3 a4 a5 : ByteArray) (n0 n1 n2 : Int) (vS vP vD : Value) : Array Value := #[.string a0, .string a1, .string a2, .string a3, .string a4, .string a5, .int .i64 n0, .int .i64 n1, .int .i64 n2, vS, vP, vD]
theorem side0_eq : side0 = sideOf ⟨#[]⟩ ⟨#[]⟩ ⟨#[]⟩ ⟨#[]⟩ ⟨#[]⟩ ⟨#[]⟩ 0 0 0 (.slice none 0 0) (.slice none 0 0) (.slice none 0 0) := rfl
/-- A state being read: the result's place, the shape, the side under way. -/
structure WI (w W : World) (s : ByteArray) (b : Nat) (c : Array Value) : Prop where
  rr : W.rowOf w.heap.size = side0
  sh : ShAt W (w.heap.size + 1) s b
  rx : W.rowOf (w.heap.size + 1 + 1) = c
  cs : c.size = 12
  bl : Below w.heap.size w W
  sz : w.heap.size + 1 + 1 + 1 ≤ W.heap.size
theorem WI.cut {w W W' : World} {s : ByteArray} {b b' : Nat} {c : Array Value} (h : WI w W s b c) (hs : ShAt W' (w.heap.size + 1) s b') (hb : But (w.heap.size + 1) W W') : WI w W' s b' c :=
  ⟨by rw [hb.row (by omega) (by rw [h.rr]; decide), h.rr], hs, by rw [hb.row (by omega) (by rw [h.rx, h.cs]; omega), h.rx], h.cs, hb.below h.bl (by have := h.sz; omega) (by omega), Nat.le_trans h.sz hb.size⟩
theorem WI.below {w W W' : World} {s : ByteArray} {b : Nat} {c : Array Value} (h : WI w W s b c) (hb : Below W.heap.size W W') : WI w W' s b c := h.cut (h.sh.below hb) (But.of_below hb)
theorem WI.store {w W : World} {s : ByteArray} {b : Nat} {c : Array Value} (h : WI w W s b c) (j : Nat) (v : Value) : WI w (W.setCell ⟨w.heap.size + 1 + 1, j, none⟩ v) s b (c.setIfInBounds j v) := by
  have hb := But.set W ⟨w.heap.size + 1 + 1, j, none⟩ v
  exact ⟨by rw [hb.row (by simp; omega) (by rw [h.rr]; decide), h.rr], h.sh.heap (hb.block _ h.sh.lt (by simp)), row_set h.rx (by rw [h.cs]; omega) j v, by simp [h.cs], hb.below h.bl (by have := h.sz; omega) (by simp; omega), by simp; exact h.sz⟩
theorem WI.mono {w W : World} {s : ByteArray} {b b' : Nat} {c : Array Value} (h : WI w W s b c) (hb : b ≤ b') : WI w W s b' c := ⟨h.rr, h.sh.mono hb, h.rx, h.cs, h.bl, h.sz⟩
theorem WI.other {w W W' : World} {s : ByteArray} {b L : Nat} {c : Array Value} (h : WI w W s b c) (hb : But L W W') (hL : w.heap.size + 1 + 1 + 1 ≤ L) : WI w W' s b c :=
  ⟨by rw [hb.row (by omega) (by rw [h.rr]; decide), h.rr], h.sh.heap (hb.block _ h.sh.lt (by omega)), by rw [hb.row (by omega) (by rw [h.rx, h.cs]; omega), h.rx], h.cs, hb.below h.bl (by have := h.sz; omega) (by omega), Nat.le_trans h.sz hb.size⟩
theorem WI.size {w W : World} {s : ByteArray} {b : Nat} {c : Array Value} (h : WI w W s b c) : w.heap.size ≤ W.heap.size := by have := h.sz; omega
theorem cut2 (g : Nat) (s : ByteArray) (b : Nat) (hb : b ≤ 90000) (w : World) (hS : ShAt w g s b) :
    Calls Try.prog 45 #[.pointer (some ⟨g, 0, none⟩), .int .i64 2] w fun e w' => ∃ t, e = .returned (.string t) ∧ t.size = 2 ∧ ShAt w' g s (b + 2) ∧ But g w w' := cut_any g s b 2 (by omega) (by omega) w hS
theorem cut32 (g : Nat) (s : ByteArray) (b : Nat) (hb : b ≤ 90000) (w : World) (hS : ShAt w g s b) :
    Calls Try.prog 45 #[.pointer (some ⟨g, 0, none⟩), .int .i64 32] w fun e w' => ∃ t, e = .returned (.string t) ∧ t.size = 32 ∧ ShAt w' g s (b + 32) ∧ But g w w' := cut_any g s b 32 (by omega) (by omega) w hS
theorem cnt1 (g : Nat) (s : ByteArray) (b : Nat) (hb : b ≤ 90000) (w : World) (hS : ShAt w g s b) :
    Calls Try.prog 46 #[.pointer (some ⟨g, 0, none⟩), .int .i64 1] w fun e w' => ∃ v : Nat, e = .returned (.int .i64 (v : Int)) ∧ v ≤ 1 ∧ ShAt w' g s (b + 1) ∧ But g w w' := count_any g s b 1 hb w hS
theorem cnt32 (g : Nat) (s : ByteArray) (b : Nat) (hb : b ≤ 90000) (w : World) (hS : ShAt w g s b) :
    Calls Try.prog 46 #[.pointer (some ⟨g, 0, none⟩), .int .i64 32] w fun e w' => ∃ v : Nat, e = .returned (.int .i64 (v : Int)) ∧ v ≤ 32 ∧ ShAt w' g s (b + 1) ∧ But g w w' := count_any g s b 32 hb w hS
theorem cnt24 (g : Nat) (s : ByteArray) (b : Nat) (hb : b ≤ 90000) (w : World) (hS : ShAt w g s b) :
    Calls Try.prog 46 #[.pointer (some ⟨g, 0, none⟩), .int .i64 24] w fun e w' => ∃ v : Nat, e = .returned (.int .i64 (v : Int)) ∧ v ≤ 24 ∧ ShAt w' g s (b + 1) ∧ But g w w' := count_any g s b 24 hb w hS
theorem cnt8 (g : Nat) (s : ByteArray) (b : Nat) (hb : b ≤ 90000) (w : World) (hS : ShAt w g s b) :
    Calls Try.prog 46 #[.pointer (some ⟨g, 0, none⟩), .int .i64 8] w fun e w' => ∃ v : Nat, e = .returned (.int .i64 (v : Int)) ∧ v ≤ 8 ∧ ShAt w' g s (b + 1) ∧ But g w w' := count_any g s b 8 hb w hS
theorem up300 (g : Nat) (s : ByteArray) (b : Nat) (hb : b ≤ 90000) (w : World) (hS : ShAt w g s b) :
    Calls Try.prog 47 #[.pointer (some ⟨g, 0, none⟩), .int .i64 300] w fun e w' => ∃ v : Nat, e = .returned (.int .i64 (v : Int)) ∧ v ≤ 300 ∧ ShAt w' g s (b + 2) ∧ But g w w' := upTo_any g s b 300 hb w hS
theorem up299 (g : Nat) (s : ByteArray) (b : Nat) (hb : b ≤ 90000) (w : World) (hS : ShAt w g s b) :
    Calls Try.prog 47 #[.pointer (some ⟨g, 0, none⟩), .int .i64 299] w fun e w' => ∃ v : Nat, e = .returned (.int .i64 (v : Int)) ∧ v ≤ 299 ∧ ShAt w' g s (b + 2) ∧ But g w w' := upTo_any g s b 299 hb w hS
/-- A row of texts. -/
def stab (n : Nat) (f : Nat → ByteArray) : Array Value := ((List.range n).map fun i => Value.string (f i)).toArray
theorem stab_size (n : Nat) (f : Nat → ByteArray) : (stab n f).size = n := by simp [stab]
theorem stab_get (n : Nat) (f : Nat → ByteArray) (i : Nat) (h : i < n) : (stab n f)[i]? = some (.string (f i)) := by simp [stab, h]
def supd (f : Nat → ByteArray) (i : Nat) (t : ByteArray) (j : Nat) : ByteArray := if j = i then t else f j
theorem stab_set (n : Nat) (f : Nat → ByteArray) (i : Nat) (t : ByteArray) : (stab n f).setIfInBounds i (.string t) = stab n (supd f i t) := by
  apply Array.ext_getElem?
  intro j
  rw [Array.getElem?_setIfInBounds]
  by_cases h : j < n
  · by_cases e : i = j
    · subst e; rw [if_pos rfl, if_pos (by rw [stab_size]; exact h), stab_get _ _ _ h]; simp [supd]
    · rw [if_neg e, stab_get _ _ _ h, stab_get _ _ _ h]; simp [supd, Ne.symm e]
  · have hn : ∀ g, (stab n g)[j]? = none := fun g => by simp [stab]; omega
    by_cases e : i = j
    · subst e; rw [if_pos rfl, if_neg (by rw [stab_size]; exact h), hn]
    · rw [if_neg e, hn, hn]
theorem supd_le {f : Nat → ByteArray} {n : Nat} (h : ∀ i, (f i).size ≤ n) {i : Nat} {t : ByteArray} (ht : t.size ≤ n) : ∀ j, (supd f i t j).size ≤ n := fun j => by
  unfold supd; split
  · exact ht
  · exact h j
theorem stab_zero : #[Value.string ⟨#[]⟩, .string ⟨#[]⟩, .string ⟨#[]⟩] = stab 3 (fun _ => ⟨#[]⟩) := rfl
theorem mk3 (W : World) : (Instr.makeSlice 31 (.int .i64 3) (.int .i64 3)).run Try.prog W = .ok (.slice (some ⟨W.heap.size, 0, none⟩) 3 3) (W.alloc (.cells (stab 3 (fun _ => ⟨#[]⟩)) 9)) := by
  have hi : (Try.prog.info? 9).map (fun i => (i.zero, i.size, i.bytes)) = some (some (.string ⟨#[]⟩), 1, 16) := by kernel_rfl
  cases hq : Try.prog.info? 9 with
  | none => simp [hq] at hi
  | some i =>
    simp [hq] at hi
    obtain ⟨i1, i2, i3⟩ := hi
    have hr := run_make (P := Try.prog) W 31 9 i (.string ⟨#[]⟩) Try.underlying31 hq i1 .i64 .i64 3 3 (by omega) (by omega) (by rw [i3]; omega) (by omega)
    have e1 : madeCells (Value.string ⟨#[]⟩).cells ((3 : Int).toNat * i.size) = stab 3 (fun _ => ⟨#[]⟩) := by
      rw [i2]
      simp only [madeCells, Value.cells, stab]
      apply Array.ext'
      simp [Nat.mod_one, List.range, List.range.loop]
    rw [e1] at hr
    exact hr
theorem WI.up {w W W' : World} {s : ByteArray} {b B : Nat} {c : Array Value} (h : WI w W s b c) (hb : Below B W W') (hB : w.heap.size + 1 + 1 + 1 ≤ B) : WI w W' s b c := by
  have e : ∀ g, g < B → W'.rowOf g = W.rowOf g := fun g hg => by simp only [World.rowOf, hb.block g hg]
  exact ⟨by rw [e _ (by omega), h.rr], h.sh.heap (hb.block _ (by omega)), by rw [e _ (by omega), h.rx], h.cs, h.bl.trans (hb.mono (by omega)), Nat.le_trans h.sz hb.size⟩
/-- The blocks from a to before b are as they were. -/
def Mid (a b : Nat) (W W' : World) : Prop := ∀ k, a ≤ k → k < b → W'.heap[k]? = W.heap[k]?
theorem Mid.refl (a b : Nat) (W : World) : Mid a b W W := fun _ _ _ => rfl
theorem Mid.but {a b g : Nat} {W V V' : World} (h : Mid a b W V) (hb : But g V V') (hg : g < a) (hs : b ≤ V.heap.size) : Mid a b W V' := fun k h1 h2 => (hb.block k (by omega) (by omega)).trans (h k h1 h2)
theorem Mid.up {a b B : Nat} {W V V' : World} (h : Mid a b W V) (hb : Below B V V') (hB : b ≤ B) : Mid a b W V' := fun k h1 h2 => (hb.block k (by omega)).trans (h k h1 h2)
theorem own_mid {W V : World} {a b e S : Nat} {v : Value} {n : Nat} {xs : List Value} (h : W.ownsRow a e S v n xs) (hm : Mid a b W V) (hb : W.heap.size ≤ b) : V.ownsRow a e S v n xs := by
  refine ⟨h.1, ?_⟩
  rcases h.2 with hn | ⟨g, cap, cur, rfl, hg, hh, rest⟩
  · exact Or.inl hn
  · exact Or.inr ⟨g, cap, cur, rfl, hg, by rw [hm g hg (Nat.lt_of_lt_of_le (Array.getElem?_eq_some_iff.1 hh).1 hb)]; exact hh, rest⟩
theorem own_but {W V : World} {a g e S : Nat} {v : Value} {n : Nat} {xs : List Value} (h : W.ownsRow a e S v n xs) (hb : But g W V) (hg : g < a) : V.ownsRow a e S v n xs := own_mid h (fun k h1 h2 => hb.block k h2 (by omega)) (Nat.le_refl _)
theorem own_isS {W : World} {a e S : Nat} {v : Value} {n : Nat} {xs : List Value} (h : W.ownsRow a e S v n xs) (hn : 0 < n) : ∃ g cap, v = .slice (some ⟨g, 0, none⟩) n cap := by
  rcases h.2 with h0 | ⟨g, cap, cur, rfl, _⟩
  · omega
  · exact ⟨g, cap, rfl⟩
theorem wpl_appendG {P : Program} {t e S B : Nat} (ht : P.underlying t = some (.slice e)) (hi : (P.info? e).map (fun i => (i.zero.map (fun z => z.cells.size), i.size, i.bytes)) = some (some S, S, B)) (hS0 : 0 < S) (hB : B ≤ 100) {ops : Array Oper} {rest : List Oper} {o : Oper} {a : Act} {w : World} {Q : Exit → Act → World → Prop} (hgd : o.guard = none) (s x : Operand)
    (ho : o.op = .call { callee := .builtin .append, args := #[s, x], argTypes := #[t, t] }) (base : Nat) (v : Value) (n : Nat) (xs : List Value) (hs : a.eval s = v) (hown : w.ownsRow base e S v n xs) (g1 : Nat) (news : List Value)
    (hx : a.eval x = .slice (some ⟨g1, 0, none⟩) 1 1) (hl : news.length = S) (hz : ∀ j u, news[j]? = some u → w.cell? ⟨g1, j, none⟩ = some u) (h1 : ∀ u ∈ news, u.oneCell' = true) (hn : n ≤ 1000000) (hb : base ≤ w.heap.size)
    (h : ∀ v' w', w'.ownsRow base e S v' (n + 1) (xs ++ news) → (∀ w0, Below base w0 w → Below base w0 w') → w.heap.size ≤ w'.heap.size → wpList P ops Q rest (a.put o.dst v') w') : wpList P ops Q (o :: rest) a w := by
  cases hq : P.info? e with
  | none => simp [hq] at hi
  | some i =>
    cases hzz : i.zero with
    | none => simp [hq, hzz] at hi
    | some z =>
      simp [hq, hzz] at hi
      obtain ⟨i1, i2, i3⟩ := hi
      refine wpList_append_own _ hgd s x t ho base e i z S B ht hq hzz i2 i3 i1 hS0 v n xs hs hown ⟨g1, 0, none⟩ 1 1 news hx (by rw [hl]; omega) ?_ h1 ?_ ?_ hb ?_
      · intro j u hj
        rw [Addr.add_mid, Nat.zero_add]; exact hz j u hj
      · unfold maxLen; omega
      · have : (n + 1) * B ≤ 1000001 * 100 := Nat.mul_le_mul (by omega) (by omega)
        omega
      · intro v' w' h2 h3 _
        refine h v' w' h2 (fun w0 hb0 => hb0.grown h3 hb (fun q hq' => (hown.lt q hq').1)) h3.size
/-- Keys that are kept, as cells. -/
def SavedL (xs : List Value) (n : Nat) : Prop := ∀ i, i < n → ∃ (p k : ByteArray) (x : Int), xs[i * 3]? = some (.string p) ∧ xs[i * 3 + 1]? = some (.int .i64 x) ∧ xs[i * 3 + 2]? = some (.string k) ∧ p.size ≤ 32 ∧ k.size ≤ 32
theorem SavedL.snoc {xs : List Value} {n : Nat} (h : SavedL xs n) (hl : xs.length = n * 3) (p k : ByteArray) (x : Int) (hp : p.size ≤ 32) (hk : k.size ≤ 32) : SavedL (xs ++ [.string p, .int .i64 x, .string k]) (n + 1) := fun i hi => by
  by_cases e : i < n
  · obtain ⟨p', k', x', h1, h2, h3, h4⟩ := h i e
    exact ⟨p', k', x', by rw [List.getElem?_append_left (by omega)]; exact h1, by rw [List.getElem?_append_left (by omega)]; exact h2, by rw [List.getElem?_append_left (by omega)]; exact h3, h4⟩
  · have : i = n := by omega
    subst this
    refine ⟨p, k, x, ?_, ?_, ?_, hp, hk⟩
    · rw [List.getElem?_append_right (by omega), hl, Nat.sub_self]; rfl
    · rw [List.getElem?_append_right (by omega), hl, show i * 3 + 1 - i * 3 = 1 by omega]; rfl
    · rw [List.getElem?_append_right (by omega), hl, show i * 3 + 2 - i * 3 = 2 by omega]; rfl
theorem SavedL.at {W : World} {a e : Nat} {v : Value} {n : Nat} {xs : List Value} (h : SavedL xs n) (ho : W.ownsRow a e 3 v n xs) : SavedAt W v n := by
  have hl := ho.1
  rcases ho.2 with ⟨rfl, rfl⟩ | ⟨g, cap, cur, rfl, hg, hh, hc, hm, hs, ht⟩
  · exact ⟨none, 0, 0, rfl, Nat.le_refl _, fun h => by omega, fun i hi => by omega⟩
  · refine ⟨_, cap, g, rfl, hc, fun _ => rfl, fun i hi => ?_⟩
    obtain ⟨p, k, x, h1, h2, h3, h4⟩ := h i hi
    exact ⟨p, k, x, by rw [ho.cellAt _ (by omega)]; exact h1, by rw [ho.cellAt _ (by omega)]; exact h2, by rw [ho.cellAt _ (by omega)]; exact h3, h4⟩
def StrL (xs : List Value) (n : Nat) : Prop := ∀ i, i < n → ∃ p : ByteArray, xs[i]? = some (.string p) ∧ p.size ≤ 32
theorem StrL.snoc {xs : List Value} {n : Nat} (h : StrL xs n) (hl : xs.length = n * 1) (p : ByteArray) (hp : p.size ≤ 32) : StrL (xs ++ [.string p]) (n + 1) := fun i hi => by
  by_cases e : i < n
  · obtain ⟨p', h1, h2⟩ := h i e
    exact ⟨p', by rw [List.getElem?_append_left (by omega)]; exact h1, h2⟩
  · have : i = n := by omega
    subst this
    exact ⟨p, by rw [List.getElem?_append_right (by omega), hl, show i - i * 1 = 0 by omega]; rfl, hp⟩
theorem StrL.at {W : World} {a e : Nat} {v : Value} {n : Nat} {xs : List Value} (h : StrL xs n) (ho : W.ownsRow a e 1 v n xs) : StrsAt W v n := by
  have hl := ho.1
  rcases ho.2 with ⟨rfl, rfl⟩ | ⟨g, cap, cur, rfl, hg, hh, hc, hm, hs, ht⟩
  · exact ⟨none, 0, 0, rfl, Nat.le_refl _, fun h => by omega, fun i hi => by omega⟩
  · refine ⟨_, cap, g, rfl, hc, fun _ => rfl, fun i hi => ?_⟩
    obtain ⟨p, h1, h2⟩ := h i hi
    exact ⟨p, by rw [ho.cellAt _ (by omega)]; exact h1, h2⟩
theorem iSaved : (Try.prog.info? 88).map (fun i => (i.zero.map (fun z => z.cells.size), i.size, i.bytes)) = some (some 3, 3, 40) := by kernel_rfl
theorem iStr : (Try.prog.info? 9).map (fun i => (i.zero.map (fun z => z.cells.size), i.size, i.bytes)) = some (some 1, 1, 16) := by kernel_rfl
theorem Mid.sub {a b c : Nat} {W V : World} (h : Mid a b W V) (hc : a ≤ c) : Mid c b W V := fun k h1 h2 => h k (by omega) h2
end Go.Proofs.Ytogkchcclcbobaa
