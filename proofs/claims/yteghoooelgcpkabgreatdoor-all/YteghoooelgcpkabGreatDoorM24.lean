import Derived.Test.YteghoooelgcpkabGreatDoorM22
import Derived.Test.YteghoooelgcpkabGreatDoorM23
namespace Go.Proofs.YteghoooelgcpkabGreatDoor
open Go.RowKit Go.Msg
structure WJ (w W : World) (s : ByteArray) (r : Sh) (c : Array Value) : Prop where
  rr : W.rowOf w.heap.size = side0
  sh : W.rowOf (w.heap.size + 1) = shC s r
  rx : W.rowOf (w.heap.size + 2) = c
  cs : c.size = 12
  bl : Below w.heap.size w W
  sz : w.heap.size + 3 ≤ W.heap.size
section
variable {w W W' : World} {s : ByteArray} {r r' : Sh} {c : Array Value}
theorem WJ.cut (h : WJ w W s r c) (hs : W'.rowOf (w.heap.size + 1) = shC s r') (t : Tch (w.heap.size + 1) W W') : WJ w W' s r' c :=
  ⟨(t.row (by rw [h.rr]; exact side0_pos) (by omega)).trans h.rr, hs, (t.row (by rw [h.rx, h.cs]; omega) (by omega)).trans h.rx, h.cs, below_tch' h.bl t (by omega), Nat.le_trans h.sz t.size⟩
theorem WJ.below (h : WJ w W s r c) (b : Below W.heap.size W W') : WJ w W' s r c :=
  ⟨(below_row b (by rw [h.rr]; exact side0_pos)).trans h.rr, sh_below h.sh b, (below_row b (by rw [h.rx, h.cs]; omega)).trans h.rx, h.cs, below_lift h.bl h.bl.size b, Nat.le_trans h.sz b.size⟩
theorem WJ.store (h : WJ w W s r c) (j : Nat) (v : Value) : WJ w (W.setCell ⟨w.heap.size + 2, j, none⟩ v) s r (c.setIfInBounds j v) :=
  ⟨(rowOf_setCell_other (by omega)).trans h.rr, (rowOf_setCell_other (by omega)).trans h.sh, rowOf_setCell h.rx (by rw [h.cs]; omega) j v, by rw [Array.size_setIfInBounds]; exact h.cs, h.bl.setCell (p := ⟨w.heap.size + 2, j, none⟩) (by show w.heap.size ≤ w.heap.size + 2; omega) v, by rw [World.size_setCell]; exact h.sz⟩
theorem WJ.up {B : Nat} (h : WJ w W s r c) (b : Below B W W') (hB : w.heap.size + 3 ≤ B) : WJ w W' s r c := by
  have e : ∀ g, g < B → W'.rowOf g = W.rowOf g := fun g hg => by simp only [World.rowOf, b.block g hg]
  exact ⟨(e _ (by omega)).trans h.rr, (e _ (by omega)).trans h.sh, (e _ (by omega)).trans h.rx, h.cs, h.bl.trans (b.mono (by omega)), Nat.le_trans h.sz b.size⟩
theorem WJ.other {L : Nat} (h : WJ w W s r c) (t : Tch L W W') (hL : w.heap.size + 3 ≤ L) : WJ w W' s r c :=
  ⟨(t.row (by rw [h.rr]; exact side0_pos) (by omega)).trans h.rr, (t.row (by rw [h.sh, shC_size]; omega) (by omega)).trans h.sh, (t.row (by rw [h.rx, h.cs]; omega) (by omega)).trans h.rx, h.cs, below_tch' h.bl t (by omega), Nat.le_trans h.sz t.size⟩
theorem WJ.asRow (h : WJ w W s r c) {c' : Array Value} (e : c = c') : WJ w W s r c' := by subst e; exact h
end
def stab (n : Nat) (f : Nat → ByteArray) : Array Value := ((List.range n).map fun i => Value.string (f i)).toArray
theorem stab_size (n : Nat) (f : Nat → ByteArray) : (stab n f).size = n := by simp [stab]
theorem stab_get (n : Nat) (f : Nat → ByteArray) (i : Nat) (h : i < n) : (stab n f)[i]? = some (.string (f i)) := by simp [stab, h]
def supd (f : Nat → ByteArray) (i : Nat) (t : ByteArray) (j : Nat) : ByteArray := if j = i then t else f j
theorem stab_set (n : Nat) (f : Nat → ByteArray) (i : Nat) (t : ByteArray) : (stab n f).setIfInBounds i (.string t) = stab n (supd f i t) := by
  apply Array.ext_getElem?
  intro j
  rw [Array.getElem?_setIfInBounds]
  by_cases h : j < n
  · by_cases e : i = j
    · subst e; rw [if_pos rfl, if_pos (by rw [stab_size]; exact h), stab_get _ _ _ h]; simp [supd]
    · rw [if_neg e, stab_get _ _ _ h, stab_get _ _ _ h]; simp [supd, Ne.symm e]
  · have hn : ∀ g, (stab n g)[j]? = none := fun g => by simp [stab]; omega
    by_cases e : i = j
    · subst e; rw [if_pos rfl, if_neg (by rw [stab_size]; exact h), hn]
    · rw [if_neg e, hn, hn]
theorem supd_same (f : Nat → ByteArray) (i : Nat) : supd f i (f i) = f := by
  funext j
  unfold supd
  by_cases h : j = i
  · rw [if_pos h, h]
  · rw [if_neg h]
theorem mk3 (W : World) : (Instr.makeSlice 34 (.int .i64 3) (.int .i64 3)).run Tryz.prog W = .ok (.slice (some ⟨W.heap.size, 0, none⟩) 3 3) (W.alloc (.cells (stab 3 (fun _ => ⟨#[]⟩)) 9)) := by
  have hi : (Tryz.prog.info? 9).map (fun i => (i.zero, i.size, i.bytes)) = some (some (.string ⟨#[]⟩), 1, 16) := by kernel_rfl
  cases hq : Tryz.prog.info? 9 with
  | none => simp [hq] at hi
  | some i =>
    simp [hq] at hi
    obtain ⟨i1, i2, i3⟩ := hi
    have hr := run_make (P := Tryz.prog) W 34 9 i (.string ⟨#[]⟩) Tryz.underlying34 hq i1 .i64 .i64 3 3 (by omega) (by omega) (by rw [i3]; omega) (by omega)
    have e1 : madeCells (Value.string ⟨#[]⟩).cells ((3 : Int).toNat * i.size) = stab 3 (fun _ => ⟨#[]⟩) := by
      rw [i2]
      simp only [madeCells, Value.cells, stab]
      apply Array.ext'
      simp [Nat.mod_one, List.range, List.range.loop]
    rw [e1] at hr
    exact hr
def Mid (a b : Nat) (W W' : World) : Prop := ∀ k, a ≤ k → k < b → W'.heap[k]? = W.heap[k]?
theorem Mid.refl (a b : Nat) (W : World) : Mid a b W W := fun _ _ _ => rfl
theorem Mid.tch {a b g : Nat} {W V V' : World} (h : Mid a b W V) (t : Tch g V V') (hg : g < a) (hs : b ≤ V.heap.size) : Mid a b W V' := fun k h1 h2 => (t.block k (by omega) (by omega)).trans (h k h1 h2)
theorem Mid.up {a b B : Nat} {W V V' : World} (h : Mid a b W V) (hb : Below B V V') (hB : b ≤ B) : Mid a b W V' := fun k h1 h2 => (hb.block k (by omega)).trans (h k h1 h2)
theorem kps_mid {a : Nat} {W V : World} {v : Value} {l : List Kp} (h : KpsAt W v l) (ho : ∀ k, k < a → Off k v) (hm : Mid a W.heap.size W V) : KpsAt V v l := by
  obtain ⟨ao, cap, k, o, rfl, h2, h3, h4⟩ := h
  refine ⟨ao, cap, k, o, rfl, h2, h3, fun i t hi => ?_⟩
  have hl : 0 < l.length := Nat.lt_of_le_of_lt (Nat.zero_le _) (List.getElem?_eq_some_iff.1 hi).1
  obtain ⟨x, y, z⟩ := h4 i t hi
  have hk : k < W.heap.size := World.block_lt_of_cell? W _ x
  have hka : a ≤ k := by
    by_cases h : k < a
    · exact absurd rfl (ho k h ⟨k, o, none⟩ l.length cap (by rw [h3 hl]) hl)
    · omega
  have e := hm k hka hk
  exact ⟨(World.cell?_of_block (w := W) e).trans x, (World.cell?_of_block (w := W) e).trans y, (World.cell?_of_block (w := W) e).trans z⟩
theorem strs_mid {a : Nat} {W V : World} {v : Value} {l : List ByteArray} (h : StrsAt W v l) (ho : ∀ k, k < a → Off k v) (hm : Mid a W.heap.size W V) : StrsAt V v l := by
  obtain ⟨ao, cap, k, o, rfl, h2, h3, h4⟩ := h
  refine ⟨ao, cap, k, o, rfl, h2, h3, fun i t hi => ?_⟩
  have hl : 0 < l.length := Nat.lt_of_le_of_lt (Nat.zero_le _) (List.getElem?_eq_some_iff.1 hi).1
  have x := h4 i t hi
  have hk : k < W.heap.size := World.block_lt_of_cell? W _ x
  have hka : a ≤ k := by
    by_cases h : k < a
    · exact absurd rfl (ho k h ⟨k, o, none⟩ l.length cap (by rw [h3 hl]) hl)
    · omega
  exact (World.cell?_of_block (w := W) (hm k hka hk)).trans x
theorem Mid.size {a : Nat} {W : World} (V : World) (h : V = W) : Mid a W.heap.size W V := by subst h; exact Mid.refl _ _ _
theorem cnt1_f (g : Nat) (s : ByteArray) (r : Sh) (b : Nat) (hf : r.Far s b) (hb : b ≤ 100000) (w : World) (hr : w.rowOf g = shC s r) :
    Calls Tryz.prog 85 #[.pointer (some ⟨g, 0, none⟩), .int .i64 1] w fun e w' => e = .returned (.int .i64 ((upF s 1 1 r).1 : Int)) ∧ w'.rowOf g = shC s (upF s 1 1 r).2 ∧ Tch g w w' := count_f g s r b 1 hf hb w hr
theorem cnt32_f (g : Nat) (s : ByteArray) (r : Sh) (b : Nat) (hf : r.Far s b) (hb : b ≤ 100000) (w : World) (hr : w.rowOf g = shC s r) :
    Calls Tryz.prog 85 #[.pointer (some ⟨g, 0, none⟩), .int .i64 32] w fun e w' => e = .returned (.int .i64 ((upF s 1 32 r).1 : Int)) ∧ w'.rowOf g = shC s (upF s 1 32 r).2 ∧ Tch g w w' := count_f g s r b 32 hf hb w hr
theorem cnt24_f (g : Nat) (s : ByteArray) (r : Sh) (b : Nat) (hf : r.Far s b) (hb : b ≤ 100000) (w : World) (hr : w.rowOf g = shC s r) :
    Calls Tryz.prog 85 #[.pointer (some ⟨g, 0, none⟩), .int .i64 24] w fun e w' => e = .returned (.int .i64 ((upF s 1 24 r).1 : Int)) ∧ w'.rowOf g = shC s (upF s 1 24 r).2 ∧ Tch g w w' := count_f g s r b 24 hf hb w hr
theorem cnt8_f (g : Nat) (s : ByteArray) (r : Sh) (b : Nat) (hf : r.Far s b) (hb : b ≤ 100000) (w : World) (hr : w.rowOf g = shC s r) :
    Calls Tryz.prog 85 #[.pointer (some ⟨g, 0, none⟩), .int .i64 8] w fun e w' => e = .returned (.int .i64 ((upF s 1 8 r).1 : Int)) ∧ w'.rowOf g = shC s (upF s 1 8 r).2 ∧ Tch g w w' := count_f g s r b 8 hf hb w hr
theorem up300_f (g : Nat) (s : ByteArray) (r : Sh) (b : Nat) (hf : r.Far s b) (hb : b ≤ 100000) (w : World) (hr : w.rowOf g = shC s r) :
    Calls Tryz.prog 86 #[.pointer (some ⟨g, 0, none⟩), .int .i64 300] w fun e w' => e = .returned (.int .i64 ((upF s 2 300 r).1 : Int)) ∧ w'.rowOf g = shC s (upF s 2 300 r).2 ∧ Tch g w w' := upTo_f g s r b 300 hf hb w hr
theorem up299_f (g : Nat) (s : ByteArray) (r : Sh) (b : Nat) (hf : r.Far s b) (hb : b ≤ 100000) (w : World) (hr : w.rowOf g = shC s r) :
    Calls Tryz.prog 86 #[.pointer (some ⟨g, 0, none⟩), .int .i64 299] w fun e w' => e = .returned (.int .i64 ((upF s 2 299 r).1 : Int)) ∧ w'.rowOf g = shC s (upF s 2 299 r).2 ∧ Tch g w w' := upTo_f g s r b 299 hf hb w hr
theorem far1 (s : ByteArray) : (wok1 s).2.Far s 2 := cutF_far (b := 0) ⟨Nat.le_refl _, Nat.zero_le _⟩ 2
theorem far2 (s : ByteArray) : (wok2 s).2.Far s 34 := by unfold wok2; exact cutF_far (far1 s) 32
theorem far3 (s : ByteArray) : (wok3 s).2.Far s 66 := by unfold wok3; exact cutF_far (far2 s) 32
theorem far4 (s : ByteArray) : (wok4 s).2.Far s 99 := by unfold wok4; exact mayF_far (far3 s)
theorem far5 (s : ByteArray) : (wok5 s).2.Far s 132 := by unfold wok5; exact mayF_far (far4 s)
theorem far6 (s : ByteArray) : (wok6 s).2.Far s 165 := by unfold wok6; exact mayF_far (far5 s)
theorem far7 (s : ByteArray) : (wok7 s).2.Far s 167 := by unfold wok7; exact upF_far (far6 s) 2 300
theorem far8 (s : ByteArray) : (wok8 s).2.Far s 169 := by unfold wok8; exact upF_far (far7 s) 2 300
theorem far9 (s : ByteArray) : (wok9 s).2.Far s 171 := by unfold wok9; exact upF_far (far8 s) 2 300
theorem farA (s : ByteArray) : (wokA s).2.Far s 172 := by unfold wokA; exact upF_far (far9 s) 1 32
theorem Far.mono {s : ByteArray} {r : Sh} {b c : Nat} (h : r.Far s b) (hc : b ≤ c) : r.Far s c := ⟨Nat.le_trans h.1 hc, h.2⟩
theorem farB (s : ByteArray) : (wokB s).2.Far s 3000 := by
  have := wnA s
  unfold wokB; exact Far.mono (kysF_far (farA s) _) (by omega)
theorem farC (s : ByteArray) : (wokC s).2.Far s 3001 := by unfold wokC; exact upF_far (farB s) 1 24
theorem farD (s : ByteArray) : (wokD s).2.Far s 4000 := by
  have := wnC s
  unfold wokD; exact Far.mono (txsF_far (farC s) _) (by omega)
theorem farE (s : ByteArray) : (wokE s).2.Far s 4001 := by unfold wokE; exact upF_far (farD s) 1 8
end Go.Proofs.YteghoooelgcpkabGreatDoor
namespace Go.Proofs.YteghoooelgcpkabGreatDoor
open Go.RowKit Go.Msg
theorem side0_one : side0.all (·.oneCell') = true := by simp [side0, Value.oneCell']
theorem sd_sz {a b c d e : ByteArray} {i j k : Nat} {l : List Kp} {m n : List ByteArray} (z2 : a.size ≤ 32) (z3 : b.size ≤ 32) (o4 : c.size ≤ 32) (o5 : d.size ≤ 32) (o6 : e.size ≤ 32) (n7 : i ≤ 300) (n8 : j ≤ 300) (n9 : k ≤ 300) (lB : l.length ≤ 32) (wB : ∀ k ∈ l, k.Sz) (lD : m.length ≤ 24) (wD : ∀ k ∈ m, k.size ≤ 32) (lG : n.length ≤ 8) (wG : ∀ k ∈ n, k.size ≤ 32) : Sd.Sz ⟨a, b, c, d, e, i, j, k, l, m, n⟩ := ⟨z2, z3, o4, o5, o6, n7, n8, n9, lB, wB, lD, wD, lG, wG⟩
theorem wokS_sz (s : ByteArray) : (wokS s).Sz := by
  have w1 := Nat.le_of_eq (wz2 s)
  have w2 := Nat.le_of_eq (wz3 s)
  have w3 := (wo4 s).le
  have w4 := (wo5 s).le
  have w5 := (wo6 s).le
  have w6 : ∀ k ∈ (wokB s).1, k.Sz := fun k hk => (wwB s k hk).sz
  have w7 : ∀ t ∈ (wokD s).1, t.size ≤ 32 := fun t ht => Nat.le_of_eq (wwD s t ht)
  have w8 : ∀ t ∈ (wokG s).1, t.size ≤ 32 := fun t ht => Nat.le_of_eq (wwG s t ht)
  unfold wokS
  exact sd_sz w1 w2 w3 w4 w5 (wn7 s) (wn8 s) (wn9 s) (wlB s) w6 (wlD s) w7 (wlG s) w8
def WokeP (s : ByteArray) (w : World) (e : Ending) (w' : World) : Prop :=
  ((wokOk s ∧ ∃ vS vP vD, e = .returned (.tuple #[.agg (sideC (wokS s) vS vP vD), .bool true]) ∧ KpsAt w' vS (wokS s).saved ∧ StrsAt w' vP (wokS s).past ∧ StrsAt w' vD (wokS s).draws ∧ (∀ k, k < w.heap.size → Offs k vS vP vD)) ∨ (¬ wokOk s ∧ e = .returned (.tuple #[.agg side0, .bool false]))) ∧ Below w.heap.size w w'
def shk (s : ByteArray) : Nat → Sh
  | 0 => (wok3 s).2
  | 1 => (wok4 s).2
  | 2 => (wok5 s).2
  | _ => (wok6 s).2
def lfk (s : ByteArray) (k j : Nat) : ByteArray := if j < k then (match j with | 0 => (wok4 s).1 | 1 => (wok5 s).1 | _ => (wok6 s).1) else ⟨#[]⟩
theorem shk0 (s : ByteArray) : mayF s (shk s 0) = (lfk s 1 0, shk s 1) := by
  have e : wok4 s = mayF s (wok3 s).2 := by unfold wok4; rfl
  have l : lfk s 1 0 = (wok4 s).1 := by unfold lfk; simp
  have a : shk s 0 = (wok3 s).2 := by unfold shk; rfl
  have b : shk s 1 = (wok4 s).2 := by unfold shk; rfl
  rw [l, a, b, ← e]
theorem shk1 (s : ByteArray) : mayF s (shk s 1) = (lfk s 2 1, shk s 2) := by
  have e : wok5 s = mayF s (wok4 s).2 := by unfold wok5; rfl
  have l : lfk s 2 1 = (wok5 s).1 := by unfold lfk; simp
  have a : shk s 1 = (wok4 s).2 := by unfold shk; rfl
  have b : shk s 2 = (wok5 s).2 := by unfold shk; rfl
  rw [l, a, b, ← e]
theorem shk2 (s : ByteArray) : mayF s (shk s 2) = (lfk s 3 2, shk s 3) := by
  have e : wok6 s = mayF s (wok5 s).2 := by unfold wok6; rfl
  have l : lfk s 3 2 = (wok6 s).1 := by unfold lfk; simp
  have a : shk s 2 = (wok5 s).2 := by unfold shk; rfl
  have b : shk s 3 = (wok6 s).2 := by unfold shk; rfl
  rw [l, a, b, ← e]
theorem shk_step (s : ByteArray) (k : Nat) (hk : k < 3) : mayF s (shk s k) = (lfk s (k + 1) k, shk s (k + 1)) := by
  obtain rfl | rfl | rfl : k = 0 ∨ k = 1 ∨ k = 2 := by omega
  · exact shk0 s
  · exact shk1 s
  · exact shk2 s
theorem shk_far (s : ByteArray) (k : Nat) : (shk s k).Far s 165 := by
  match k with
  | 0 => exact Far.mono (far3 s) (by omega)
  | 1 => exact Far.mono (far4 s) (by omega)
  | 2 => exact Far.mono (far5 s) (by omega)
  | k + 3 => exact far6 s
theorem lfk_step (s : ByteArray) (k : Nat) : lfk s (k + 1) = supd (lfk s k) k (lfk s (k + 1) k) := by
  funext j
  unfold supd
  by_cases h : j = k
  · rw [if_pos h, h]
  · rw [if_neg h]
    unfold lfk
    by_cases h1 : j < k
    · rw [if_pos (by omega), if_pos h1]
    · rw [if_neg (by omega), if_neg h1]
theorem lfk_none (s : ByteArray) (k : Nat) : lfk s k k = ⟨#[]⟩ := by unfold lfk; rw [if_neg (by omega)]
theorem may_one {s : ByteArray} {r : Sh} (h : (upF s 1 1 r).1 = 1) : mayF s r = cutF s 32 (upF s 1 1 r).2 := by unfold mayF; rw [if_pos h]
theorem may_zero {s : ByteArray} {r : Sh} (h : ¬ (upF s 1 1 r).1 = 1) : mayF s r = (⟨#[]⟩, (upF s 1 1 r).2) := by unfold mayF; rw [if_neg h]
set_option maxRecDepth 20000 in
set_option maxHeartbeats 16000000 in
theorem woken_f (s : ByteArray) (w : World) :
    Calls Tryz.prog 58 #[.string s] w fun e w' => WokeP s w e w' := by
  have qM := mk3
  obtain ⟨W0, hW0⟩ : ∃ W, W = ((w.alloc (.cells side0 67)).alloc (.cells #[.string s, .int .i64 0, .bool true] 130)).alloc (.cells side0 67) := ⟨_, rfl⟩
  have I0 : WJ w W0 s ⟨0, true⟩ (dC ⟨#[]⟩ ⟨#[]⟩ ⟨#[]⟩ ⟨#[]⟩ ⟨#[]⟩ ⟨#[]⟩ 0 0 0 (.slice none 0 0) (.slice none 0 0) (.slice none 0 0)) := by
    rw [hW0]
    exact ⟨by simp [go_sem], by simp [go_sem]; rfl, by simp [go_sem]; rfl, rfl, ((by_alloc2 _ _ _).alloc (by simp; omega) _), by simp⟩
  obtain ⟨a1, h1⟩ : ∃ a, a = wok1 s := ⟨_, rfl⟩
  obtain ⟨a2, h2⟩ : ∃ a, a = wok2 s := ⟨_, rfl⟩
  obtain ⟨a3, h3⟩ : ∃ a, a = wok3 s := ⟨_, rfl⟩
  have F1 : a1.2.Far s 2 := by rw [h1]; exact far1 s
  have F2 : a2.2.Far s 34 := by rw [h2]; exact far2 s
  have H1 : Hid (cutF s 2 ⟨0, true⟩ = a1) := Hid.mk (by rw [h1]; rfl)
  have H2 : Hid (cutF s 32 a1.2 = a2) := Hid.mk (by rw [h2, h1]; rfl)
  have H3 : Hid (cutF s 32 a2.2 = a3) := Hid.mk (by rw [h3, h2]; rfl)
  have E1 := Hid.mk h1
  have E2 := Hid.mk h2
  have E3 := Hid.mk h3
  have F0 : (⟨0, true⟩ : Sh).Far s 0 := ⟨Nat.le_refl _, Nat.zero_le _⟩
  clear h1 h2 h3
  go_enter Tryz.func58, Tryz.ntmps58
  go_wp2_with (first
    | (refine at_store 67 rfl ?_; refine wpl_store rtSide rfl _ _ rfl (w.heap.size + 2) rfl _ rfl ?_ ?_ ?_ W0 ?_ ?_; (focus (simp [go_sem]; done)); (focus rfl); (focus (simp [Value.oneCell']; done)); (focus (rw [hW0, World.setRow_alloc_at _ _ _ _ _ (by simp)]; rfl)); clear hW0)
    | (go_at_call 84; have M := cut2_f (w.heap.size + 1) s ⟨0, true⟩ 0 F0 (by omega) W0 I0.sh; rw [H1.out] at M; with_reducible refine M.mono ?_; clear M; rintro e W1 ⟨rfl, q1, t1⟩; have I1 := I0.cut q1 t1; clear I0 q1 t1)
    | (go_at_call 84; have M := cut32_f (w.heap.size + 1) s a1.2 2 F1 (by omega) W1 I1.sh; rw [H2.out] at M; with_reducible refine M.mono ?_; clear M; rintro e W2 ⟨rfl, q2, t2⟩; have I2 := I1.cut q2 t2; have f0 := d_c0 I2.rx; have z0 := d_z I2.rx 0 (by omega); have I2' := (I2.store 0 (.string a2.1)).asRow (dC_sets.1 _); clear I1 q2 t2)
    | (go_at_call 84; have M := cut32_f (w.heap.size + 1) s a2.2 34 F2 (by omega) (W2.setCell ⟨w.heap.size + 2, 0, none⟩ (.string a2.1)) I2'.sh; rw [H3.out] at M; with_reducible refine M.mono ?_; clear M; rintro e W3 ⟨rfl, q3, t3⟩; have I3 := I2'.cut q3 t3; have f1 := d_c1 I3.rx; have z1 := d_z I3.rx 1 (by omega); have I3' := (I3.store 1 (.string a3.1)).asRow (dC_sets.2.1 _); clear I2 I2' f0 z0 q3 t3)
    | fail)
  have I4 := I3'.below (by_alloc _ (.cells (stab 3 (fun _ => ⟨#[]⟩)) 9))
  have RL : ((W3.setCell ⟨w.heap.size + 2, 1, none⟩ (.string a3.1)).alloc (.cells (stab 3 (fun _ => ⟨#[]⟩)) 9)).rowOf W3.heap.size = stab 3 (lfk s 0) := by rw [rowOf_new' _ _ _ _ (by simp)]; rfl
  generalize (W3.setCell ⟨w.heap.size + 2, 1, none⟩ (.string a3.1)).alloc (.cells (stab 3 (fun _ => ⟨#[]⟩)) 9) = W4 at *
  have hL := I3.sz
  generalize W3.heap.size = L at *
  clear I3 I3' f1 z1 qM
  go_loopw [7] (fun i wq => ∃ (k : Nat), i = .int .i64 k ∧ k ≤ 3 ∧ WJ w wq s (shk s k) (dC a2.1 a3.1 ⟨#[]⟩ ⟨#[]⟩ ⟨#[]⟩ ⟨#[]⟩ 0 0 0 (.slice none 0 0) (.slice none 0 0) (.slice none 0 0)) ∧ Hid (wq.rowOf L = stab 3 (lfk s k))) (fun i _ => 3 - (intOf i).toNat)
  case atStart => exact ⟨0, rfl, by omega, by have := I4; rw [E3.out] at this ⊢; exact this, Hid.mk RL⟩
  case round =>
    clear I4 RL
    obtain ⟨k, rfl, hk, I4, RL⟩ := hrel
    by_cases hlt : k < 3
    · have c1 : (k : Int) < 3 := by omega
      have FK := shk_far s k
      obtain ⟨u, hu⟩ : ∃ u, u = upF s 1 1 (shk s k) := ⟨_, rfl⟩
      have hstep := shk_step s k hlt
      have FU : u.2.Far s 166 := by rw [hu]; exact upF_far FK 1 1
      have HM1 : Hid (∀ W, W.rowOf (w.heap.size + 1) = shC s (shk s k) → Calls Tryz.prog 85 #[.pointer (some ⟨w.heap.size + 1, 0, none⟩), .int .i64 1] W fun e w' => e = .returned (.int .i64 (u.1 : Int)) ∧ w'.rowOf (w.heap.size + 1) = shC s u.2 ∧ Tch (w.heap.size + 1) W w') := Hid.mk (fun W h => by rw [hu]; exact cnt1_f _ s _ 165 FK (by omega) W h)
      by_cases h1 : u.1 = 1
      · have b1 : ((u.1 : Int) == 1) = true := by rw [h1]; rfl
        have hm : cutF s 32 u.2 = (lfk s (k + 1) k, shk s (k + 1)) := by rw [hu, ← may_one (by rw [← hu]; exact h1)]; exact hstep
        have HM2 : Hid (∀ W, W.rowOf (w.heap.size + 1) = shC s u.2 → Calls Tryz.prog 84 #[.pointer (some ⟨w.heap.size + 1, 0, none⟩), .int .i64 32] W fun e w' => e = .returned (.string (lfk s (k + 1) k)) ∧ w'.rowOf (w.heap.size + 1) = shC s (shk s (k + 1)) ∧ Tch (w.heap.size + 1) W w') := Hid.mk (fun W h => by have M := cut32_f (w.heap.size + 1) s u.2 166 FU (by omega) W h; rw [hm] at M; exact M)
        clear hm hstep h1 hu FU FK
        obtain ⟨t, ht⟩ : ∃ t, t = lfk s (k + 1) k := ⟨_, rfl⟩
        rw [← ht] at HM2
        have HTT := Hid.mk ht
        clear ht
        go_wp2_with (first
          | (go_at_call 85; with_reducible refine (HM1.out wr I4.sh).mono ?_; rintro e W5 ⟨rfl, q5, t5⟩; have I5 := I4.cut q5 t5; have RL5 := Hid.mk ((t5.row (by rw [RL.out, stab_size]; omega) (by omega)).trans RL.out); clear q5)
          | (go_at_call 84; with_reducible refine (HM2.out W5 I5.sh).mono ?_; rintro e W6 ⟨rfl, q6, t6⟩; have I6 := I5.cut q6 t6; have RL6 := Hid.mk ((t6.row (by rw [RL5.out, stab_size]; omega) (by omega)).trans RL5.out); clear q6; have f6 := rowcell RL6.out k _ (stab_get 3 (lfk s k) k hlt); have z6 := rowfz2 RL6.out k (by rw [stab_size]; exact hlt))
          | fail)
        go_roundw
        case rel => exact ⟨k + 1, by go_num, by omega, I6.other (tch_own L k W6 (.string t)) hL, Hid.mk (by rw [rowOf_setCell RL6.out (by rw [stab_size]; omega), stab_set, lfk_step s k, ← HTT.out])⟩
        case measure => simp [intOf]; omega
      · have b1 : ((u.1 : Int) == 1) = false := by simp; omega
        have hm := may_zero (s := s) (r := shk s k) (by rw [← hu]; exact h1)
        rw [hstep, ← hu] at hm
        have HT1 : Hid (lfk s (k + 1) k = ⟨#[]⟩) := Hid.mk (congrArg Prod.fst hm)
        have HT2 : Hid (shk s (k + 1) = u.2) := Hid.mk (congrArg Prod.snd hm)
        clear hm hstep h1 hu FU FK
        go_wp2_with (first
          | (go_at_call 85; with_reducible refine (HM1.out wr I4.sh).mono ?_; rintro e W5 ⟨rfl, q5, t5⟩; have I5 := I4.cut q5 t5; have RL5 := Hid.mk ((t5.row (by rw [RL.out, stab_size]; omega) (by omega)).trans RL.out); clear q5)
          | fail)
        go_roundw
        case rel => exact ⟨k + 1, by go_num, by omega, by rw [HT2.out]; exact I5, Hid.mk (by rw [RL5.out, lfk_step s k, HT1.out, ← lfk_none s k, supd_same])⟩
        case measure => simp [intOf]; omega
    · have hk' : k = 3 := by omega
      subst hk'
      rw [show ((3 : Nat) : Int) = 3 from rfl]
      obtain ⟨y0, hy0⟩ : ∃ y, y = lfk s 3 0 := ⟨_, rfl⟩
      obtain ⟨y1, hy1⟩ : ∃ y, y = lfk s 3 1 := ⟨_, rfl⟩
      obtain ⟨y2, hy2⟩ : ∃ y, y = lfk s 3 2 := ⟨_, rfl⟩
      have l0 : wr.cell? ⟨L, 0, none⟩ = some (.string y0) := by rw [hy0]; exact rowcell RL.out 0 _ (stab_get 3 (lfk s 3) 0 (by omega))
      have l1 : wr.cell? ⟨L, 1, none⟩ = some (.string y1) := by rw [hy1]; exact rowcell RL.out 1 _ (stab_get 3 (lfk s 3) 1 (by omega))
      have l2 : wr.cell? ⟨L, 2, none⟩ = some (.string y2) := by rw [hy2]; exact rowcell RL.out 2 _ (stab_get 3 (lfk s 3) 2 (by omega))
      have HY0 : Hid (y0 = (wok4 s).1) := Hid.mk (by rw [hy0]; unfold lfk; simp)
      have HY1 : Hid (y1 = (wok5 s).1) := Hid.mk (by rw [hy1]; unfold lfk; simp)
      have HY2 : Hid (y2 = (wok6 s).1) := Hid.mk (by rw [hy2]; unfold lfk; simp)
      clear hy0 hy1 hy2 RL
      have f3 := d_c3 I4.rx
      have f4 := d_c4 I4.rx
      have f5 := d_c5 I4.rx
      have z3 := d_z I4.rx 3 (by omega)
      have z4 := d_z I4.rx 4 (by omega)
      have z5 := d_z I4.rx 5 (by omega)
      have hLX : L ≠ w.heap.size + 2 := by omega
      have I5 := (((((I4.store 3 (.string y0)).asRow (dC_sets.2.2.2.1 _)).store 4 (.string y1)).asRow (dC_sets.2.2.2.2.1 _)).store 5 (.string y2)).asRow (dC_sets.2.2.2.2.2.1 _)
      have hI5 := I5.sh
      rw [show shk s 3 = (wok6 s).2 by unfold shk; rfl] at hI5
      obtain ⟨W4', hW4'⟩ : ∃ W, W = wr := ⟨_, rfl⟩
      subst hW4'
      obtain ⟨a7, h7⟩ : ∃ a, a = wok7 s := ⟨_, rfl⟩
      obtain ⟨a8, h8⟩ : ∃ a, a = wok8 s := ⟨_, rfl⟩
      obtain ⟨a9, h9⟩ : ∃ a, a = wok9 s := ⟨_, rfl⟩
      obtain ⟨aA, hA⟩ : ∃ a, a = wokA s := ⟨_, rfl⟩
      have F7 : a7.2.Far s 167 := by rw [h7]; exact far7 s
      have F8 : a8.2.Far s 169 := by rw [h8]; exact far8 s
      have F9 : a9.2.Far s 171 := by rw [h9]; exact far9 s
      have FA : aA.2.Far s 172 := by rw [hA]; exact farA s
      have n7 : a7.1 ≤ 300 := by rw [h7]; exact wn7 s
      have n8 : a8.1 ≤ 300 := by rw [h8]; exact wn8 s
      have n9 : a9.1 ≤ 300 := by rw [h9]; exact wn9 s
      have nA : aA.1 ≤ 32 := by rw [hA]; exact wnA s
      have H7 : Hid (upF s 2 300 (wok6 s).2 = a7) := Hid.mk (by rw [h7]; unfold wok7; rfl)
      have H8 : Hid (upF s 2 300 a7.2 = a8) := Hid.mk (by rw [h8, h7]; unfold wok8; rfl)
      have H9 : Hid (upF s 2 300 a8.2 = a9) := Hid.mk (by rw [h9, h8]; unfold wok9; rfl)
      have HAA : Hid (upF s 1 32 a9.2 = aA) := Hid.mk (by rw [hA, h9]; unfold wokA; rfl)
      have E7 := Hid.mk h7
      have E8 := Hid.mk h8
      have E9 := Hid.mk h9
      have EA := Hid.mk hA
      have F6 := far6 s
      clear h7 h8 h9 hA
      have HI5 := Hid.mk hI5
      have HJ5 := Hid.mk I5
      clear hI5 I5
      go_wp2_with (first
        | (go_at_call 86; have J := HJ5.out; have M := up300_f (w.heap.size + 1) s (wok6 s).2 165 F6 (by omega) _ HI5.out; rw [H7.out] at M; with_reducible refine M.mono ?_; clear M; rintro e W7 ⟨rfl, q7, t7⟩; have I7 := J.cut q7 t7; clear J q7 t7 f3 f4 f5 z3 z4 z5 l0 l1 l2; have f6 := d_c6 I7.rx; have z6 := d_z I7.rx 6 (by omega); have J7 := (I7.store 6 (.int .i64 (a7.1 : Int))).asRow (dC_sets.2.2.2.2.2.2.1 _))
        | (go_at_call 86; have M := up300_f (w.heap.size + 1) s a7.2 167 F7 (by omega) _ J7.sh; rw [H8.out] at M; with_reducible refine M.mono ?_; clear M; rintro e W8 ⟨rfl, q8, t8⟩; have I8 := J7.cut q8 t8; clear J7 q8 t8 f6 z6; have f7 := d_c7 I8.rx; have z7 := d_z I8.rx 7 (by omega); have J8 := (I8.store 7 (.int .i64 (a8.1 : Int))).asRow (dC_sets.2.2.2.2.2.2.2.1 _))
        | (go_at_call 86; have M := up300_f (w.heap.size + 1) s a8.2 169 F8 (by omega) _ J8.sh; rw [H9.out] at M; with_reducible refine M.mono ?_; clear M; rintro e W9 ⟨rfl, q9, t9⟩; have I9 := J8.cut q9 t9; clear J8 q9 t9 f7 z7; have f8 := d_c8 I9.rx; have z8 := d_z I9.rx 8 (by omega); have J9 := (I9.store 8 (.int .i64 (a9.1 : Int))).asRow (dC_sets.2.2.2.2.2.2.2.2.1 _))
        | (go_at_call 85; have M := cnt32_f (w.heap.size + 1) s a9.2 171 F9 (by omega) _ J9.sh; rw [HAA.out] at M; with_reducible refine M.mono ?_; clear M; rintro e WA ⟨rfl, qA, tA⟩; have IA := J9.cut qA tA; clear J9 qA tA f8 z8)
        | fail)
      have sA := IA.sz
      clear I7 I8 I9 I4 hLX
      go_loopw [10] (fun i wq => ∃ (k : Nat) (vS : Value), i = .int .i64 k ∧ k ≤ aA.1 ∧ WJ w wq s (kysF s k aA.2).2 (dC a2.1 a3.1 ⟨#[]⟩ y0 y1 y2 (a7.1 : Int) (a8.1 : Int) (a9.1 : Int) vS (.slice none 0 0) (.slice none 0 0)) ∧ Hid (wq.ownsRow WA.heap.size 133 3 vS k (kpCells (kysF s k aA.2).1)) ∧ WA.heap.size ≤ wq.heap.size) (fun i _ => aA.1 - (intOf i).toNat)
      case atStart => exact ⟨0, _, rfl, by omega, IA, Hid.mk (World.ownsRow_nil _ _ _ _), Nat.le_refl _⟩
      case round =>
        clear IA
        obtain ⟨k, vS, rfl, hk, I, HOW, hz⟩ := hrel
        by_cases hlt : k < aA.1
        · have c1 : (k : Int) < aA.1 := by omega
          have FR := kysF_far FA k
          obtain ⟨p, hp⟩ : ∃ p, p = cutF s 32 (kysF s k aA.2).2 := ⟨_, rfl⟩
          obtain ⟨v, hv⟩ : ∃ v, v = upF s 2 299 p.2 := ⟨_, rfl⟩
          obtain ⟨z, hzz⟩ : ∃ z, z = cutF s 32 v.2 := ⟨_, rfl⟩
          have FP : p.2.Far s (172 + 66 * k + 32) := by rw [hp]; exact cutF_far FR 32
          have FV : v.2.Far s (172 + 66 * k + 34) := by rw [hv]; exact upF_far FP 2 299
          have HKS : Hid (kysF s (k + 1) aA.2 = ((kysF s k aA.2).1 ++ [⟨p.1, v.1, z.1⟩], z.2)) := Hid.mk (by rw [hzz, hv, hp]; rfl)
          have HP := Hid.mk hp
          have HV := Hid.mk hv
          have HZ := Hid.mk hzz
          clear hp hv hzz
          go_wp2_with (first
            | (go_at_call 84; have M := cut32_f (w.heap.size + 1) s _ (172 + 66 * k) FR (by omega) wr I.sh; rw [← HP.out] at M; with_reducible refine M.mono ?_; clear M; rintro e W5 ⟨rfl, q5, t5⟩; have I5 := I.cut q5 t5; have O5 := Hid.mk (owns_tch HOW.out t5 (by omega)); have s5 := t5.size; clear q5 t5)
            | (go_at_call 86; have M := up299_f (w.heap.size + 1) s p.2 (172 + 66 * k + 32) FP (by omega) W5 I5.sh; rw [← HV.out] at M; with_reducible refine M.mono ?_; clear M; rintro e W6 ⟨rfl, q6, t6⟩; have I6 := I5.cut q6 t6; have O6 := Hid.mk (owns_tch O5.out t6 (by omega)); have s6 := t6.size; clear q6 t6)
            | (go_at_call 84; have M := cut32_f (w.heap.size + 1) s v.2 (172 + 66 * k + 34) FV (by omega) W6 I6.sh; rw [← HZ.out] at M; with_reducible refine M.mono ?_; clear M; rintro e W7 ⟨rfl, q7, t7⟩; have I7 := I6.cut q7 t7; have O7 := Hid.mk (owns_tch O6.out t7 (by omega)); have s7 := t7.size; have f9 := d_c9 I7.rx; clear q7 t7)
            | (at_builtin; refine wpl_appendL Tryz.underlying65 iSaved (by omega) (by omega) rfl _ _ rfl WA.heap.size _ k (kpCells (kysF s k aA.2).1) rfl ?_ _ ⟨W7.heap.size, 0, none⟩ 1 1 [.string p.1, .int .i64 (v.1 : Int), .string z.1] rfl (fun _ => rfl) rfl ?_ ?_ (by omega) (by omega) ?_ ?_; (focus (exact O7.out.alloc _)); (focus (intro q u hq; rw [Addr.add_mid, Nat.zero_add]; exact rowcell (by simp [go_sem]; exact rfl) q u (by simpa using hq))); (focus (intro u hu; simp at hu; rcases hu with rfl | rfl | rfl <;> rfl)); (focus (simp; omega)); intro v8 w8 hown8 hbel8 hsz8; have B8 := hbel8 W7 ((Below.refl _ _).alloc (by omega) _); obtain ⟨a8', c8', g8', e8', h8a, _⟩ := own_shape hown8; have h8b := h8a (Nat.succ_pos _); subst h8b; subst e8'; clear h8a; have O8 := Hid.mk hown8; have I8 := I7.up B8 (by omega); clear hown8 hbel8 f9; have f9 := d_c9 I8.rx; have z9 := d_z I8.rx 9 (by omega); have s8 := B8.size)
            | fail)
          go_roundw
          case rel => exact ⟨k + 1, .slice (some ⟨g8', 0, none⟩) (k + 1) c8', by go_num, by omega, by rw [HKS.out]; exact (I8.store 9 _).asRow (dC_sets.2.2.2.2.2.2.2.2.2.1 _), Hid.mk (by rw [HKS.out, kpCells_append]; exact owns_tch O8.out (tch_own (w.heap.size + 2) 9 w8 _) (by omega)), by rw [World.size_setCell]; omega⟩
          case measure => simp [intOf]; omega
        · have hk' : k = aA.1 := by omega
          have c1 : ¬ (k : Int) < aA.1 := by omega
          obtain ⟨aB, hB⟩ : ∃ a, a = wokB s := ⟨_, rfl⟩
          have hkB : kysF s k aA.2 = aB := by rw [hB, hk', EA.out]; unfold wokB; rfl
          rw [hkB] at I HOW
          have lB : k = aB.1.length := by rw [← hkB, kysF_len]
          have KS := Hid.mk (KpsAt.of_owns (by rw [← lB]; exact HOW.out))
          have OS : Hid (∀ g, g < WA.heap.size → Off g vS) := Hid.mk (fun g hg => off_of_owns HOW.out hg)
          have FB : aB.2.Far s 3000 := by rw [hB]; exact farB s
          have EB := Hid.mk hB
          clear hkB hk' lB hB
          obtain ⟨WB, hWB⟩ : ∃ W, W = wr := ⟨_, rfl⟩
          subst hWB
          obtain ⟨aC, hC⟩ : ∃ a, a = wokC s := ⟨_, rfl⟩
          have FC : aC.2.Far s 3001 := by rw [hC]; exact farC s
          have nC : aC.1 ≤ 24 := by rw [hC]; exact wnC s
          have HCC : Hid (upF s 1 24 aB.2 = aC) := Hid.mk (by rw [hC, EB.out]; unfold wokC; rfl)
          have EC := Hid.mk hC
          clear hC
          go_wp2_with (first
            | (go_at_call 85; have M := cnt24_f (w.heap.size + 1) s aB.2 3000 FB (by omega) WB I.sh; rw [HCC.out] at M; with_reducible refine M.mono ?_; clear M; rintro e WC ⟨rfl, qC, tC⟩; have IC := I.cut qC tC; have KC := Hid.mk (KS.out.tch tC (OS.out _ (by omega))); have sC := tC.size; clear qC tC)
            | fail)
          clear I HOW KS
          have sC2 := IC.sz
          go_loopw [14] (fun i wq => ∃ (j : Nat) (vP : Value), i = .int .i64 j ∧ j ≤ aC.1 ∧ WJ w wq s (txsF s j aC.2).2 (dC a2.1 a3.1 ⟨#[]⟩ y0 y1 y2 (a7.1 : Int) (a8.1 : Int) (a9.1 : Int) vS vP (.slice none 0 0)) ∧ Hid (wq.ownsRow WC.heap.size 9 1 vP j (strCells (txsF s j aC.2).1)) ∧ WC.heap.size ≤ wq.heap.size ∧ Mid (w.heap.size + 3) WC.heap.size WC wq) (fun i _ => aC.1 - (intOf i).toNat)
          case atStart => exact ⟨0, _, rfl, by omega, IC, Hid.mk (World.ownsRow_nil _ _ _ _), Nat.le_refl _, Mid.refl _ _ _⟩
          case round =>
            clear IC
            obtain ⟨j, vP, rfl, hj, I, HOW, hz2, hM⟩ := hrel
            by_cases hlt2 : j < aC.1
            · have d1 : (j : Int) < aC.1 := by omega
              have FR := txsF_far FC j
              obtain ⟨p, hp⟩ : ∃ p, p = cutF s 32 (txsF s j aC.2).2 := ⟨_, rfl⟩
              have HKS : Hid (txsF s (j + 1) aC.2 = ((txsF s j aC.2).1 ++ [p.1], p.2)) := Hid.mk (by rw [hp]; rfl)
              have HP := Hid.mk hp
              clear hp
              go_wp2_with (first
                | (go_at_call 84; have M := cut32_f (w.heap.size + 1) s _ (3001 + 32 * j) FR (by omega) wr I.sh; rw [← HP.out] at M; with_reducible refine M.mono ?_; clear M; rintro e W7 ⟨rfl, q7, t7⟩; have I7 := I.cut q7 t7; have O7 := Hid.mk (owns_tch HOW.out t7 (by omega)); have s7 := t7.size; have M7 := hM.tch t7 (by omega) hz2; have f10 := d_c10 I7.rx; clear q7 t7)
                | (at_builtin; refine wpl_appendL Tryz.underlying34 iStr (by omega) (by omega) rfl _ _ rfl WC.heap.size _ j (strCells (txsF s j aC.2).1) rfl ?_ _ ⟨W7.heap.size, 0, none⟩ 1 1 [.string p.1] rfl (fun _ => rfl) rfl ?_ ?_ (by omega) (by omega) ?_ ?_; (focus (exact O7.out.alloc _)); (focus (intro q u hq; rw [Addr.add_mid, Nat.zero_add]; exact rowcell (by simp [go_sem]; exact rfl) q u (by simpa using hq))); (focus (intro u hu; simp at hu; subst hu; rfl)); (focus (simp; omega)); intro v8 w8 hown8 hbel8 hsz8; have B8 := hbel8 W7 ((Below.refl _ _).alloc (by omega) _); obtain ⟨a8', c8', g8', e8', h8a, _⟩ := own_shape hown8; have h8b := h8a (Nat.succ_pos _); subst h8b; subst e8'; clear h8a; have O8 := Hid.mk hown8; have I8 := I7.up B8 (by omega); have M8 := M7.up B8 (Nat.le_refl _); clear hown8 hbel8 f10; have f10 := d_c10 I8.rx; have z10 := d_z I8.rx 10 (by omega); have s8 := B8.size)
                | fail)
              go_roundw
              case rel => exact ⟨j + 1, .slice (some ⟨g8', 0, none⟩) (j + 1) c8', by go_num, by omega, by rw [HKS.out]; exact (I8.store 10 _).asRow (dC_sets.2.2.2.2.2.2.2.2.2.2.1 _), Hid.mk (by rw [HKS.out, strCells_append]; exact owns_tch O8.out (tch_own (w.heap.size + 2) 10 w8 _) (by omega)), by rw [World.size_setCell]; omega, M8.tch (tch_own (w.heap.size + 2) 10 w8 _) (by omega) (by omega)⟩
              case measure => simp [intOf]; omega
            · have hj' : j = aC.1 := by omega
              have d1 : ¬ (j : Int) < aC.1 := by omega
              obtain ⟨aD, hD⟩ : ∃ a, a = wokD s := ⟨_, rfl⟩
              have hjD : txsF s j aC.2 = aD := by rw [hD, hj', EC.out]; unfold wokD; rfl
              rw [hjD] at I HOW
              have lD : j = aD.1.length := by rw [← hjD, txsF_len]
              have PS := Hid.mk (StrsAt.of_owns (by rw [← lD]; exact HOW.out))
              have OP : Hid (∀ g, g < WC.heap.size → Off g vP) := Hid.mk (fun g hg => off_of_owns HOW.out hg)
              have KS := Hid.mk (kps_mid KC.out (fun k hk => OS.out k (by omega)) hM)
              have FD : aD.2.Far s 4000 := by rw [hD]; exact farD s
              have ED := Hid.mk hD
              clear hjD hj' lD hD KC hM
              obtain ⟨WD0, hWD0⟩ : ∃ W, W = wr := ⟨_, rfl⟩
              subst hWD0
              obtain ⟨aE, hE⟩ : ∃ a, a = wokE s := ⟨_, rfl⟩
              have FE : aE.2.Far s 4001 := by rw [hE]; exact farE s
              have nE : aE.1 ≤ 8 := by rw [hE]; exact wnE s
              have HEE : Hid (upF s 1 8 aD.2 = aE) := Hid.mk (by rw [hE, ED.out]; unfold wokE; rfl)
              have EE := Hid.mk hE
              clear hE
              go_wp2_with (first
                | (go_at_call 85; have M := cnt8_f (w.heap.size + 1) s aD.2 4000 FD (by omega) WD0 I.sh; rw [HEE.out] at M; with_reducible refine M.mono ?_; clear M; rintro e WD ⟨rfl, qD, tD⟩; have ID := I.cut qD tD; have KD := Hid.mk (KS.out.tch tD (OS.out _ (by omega))); have PD := Hid.mk (PS.out.tch tD (OP.out _ (by omega))); have sD := tD.size; clear qD tD)
                | fail)
              clear I HOW KS PS
              have sD2 := ID.sz
              go_loopw [16] (fun i wq => ∃ (l : Nat) (vD : Value), i = .int .i64 l ∧ l ≤ aE.1 ∧ WJ w wq s (txsF s l aE.2).2 (dC a2.1 a3.1 ⟨#[]⟩ y0 y1 y2 (a7.1 : Int) (a8.1 : Int) (a9.1 : Int) vS vP vD) ∧ Hid (wq.ownsRow WD.heap.size 9 1 vD l (strCells (txsF s l aE.2).1)) ∧ WD.heap.size ≤ wq.heap.size ∧ Mid (w.heap.size + 3) WD.heap.size WD wq) (fun i _ => aE.1 - (intOf i).toNat)
              case atStart => exact ⟨0, _, rfl, by omega, ID, Hid.mk (World.ownsRow_nil _ _ _ _), Nat.le_refl _, Mid.refl _ _ _⟩
              case round =>
                clear ID
                obtain ⟨l, vD, rfl, hl, I, HOW, hz3, hM⟩ := hrel
                by_cases hlt3 : l < aE.1
                · have d2 : (l : Int) < aE.1 := by omega
                  have FR := txsF_far FE l
                  obtain ⟨p, hp⟩ : ∃ p, p = cutF s 32 (txsF s l aE.2).2 := ⟨_, rfl⟩
                  have HKS : Hid (txsF s (l + 1) aE.2 = ((txsF s l aE.2).1 ++ [p.1], p.2)) := Hid.mk (by rw [hp]; rfl)
                  have HP := Hid.mk hp
                  clear hp
                  go_wp2_with (first
                    | (go_at_call 84; have M := cut32_f (w.heap.size + 1) s _ (4001 + 32 * l) FR (by omega) wr I.sh; rw [← HP.out] at M; with_reducible refine M.mono ?_; clear M; rintro e W7 ⟨rfl, q7, t7⟩; have I7 := I.cut q7 t7; have O7 := Hid.mk (owns_tch HOW.out t7 (by omega)); have s7 := t7.size; have M7 := hM.tch t7 (by omega) hz3; have f11 := d_c11 I7.rx; clear q7 t7)
                    | (at_builtin; refine wpl_appendL Tryz.underlying34 iStr (by omega) (by omega) rfl _ _ rfl WD.heap.size _ l (strCells (txsF s l aE.2).1) rfl ?_ _ ⟨W7.heap.size, 0, none⟩ 1 1 [.string p.1] rfl (fun _ => rfl) rfl ?_ ?_ (by omega) (by omega) ?_ ?_; (focus (exact O7.out.alloc _)); (focus (intro q u hq; rw [Addr.add_mid, Nat.zero_add]; exact rowcell (by simp [go_sem]; exact rfl) q u (by simpa using hq))); (focus (intro u hu; simp at hu; subst hu; rfl)); (focus (simp; omega)); intro v8 w8 hown8 hbel8 hsz8; have B8 := hbel8 W7 ((Below.refl _ _).alloc (by omega) _); obtain ⟨a8', c8', g8', e8', h8a, _⟩ := own_shape hown8; have h8b := h8a (Nat.succ_pos _); subst h8b; subst e8'; clear h8a; have O8 := Hid.mk hown8; have I8 := I7.up B8 (by omega); have M8 := M7.up B8 (Nat.le_refl _); clear hown8 hbel8 f11; have f11 := d_c11 I8.rx; have z11 := d_z I8.rx 11 (by omega); have s8 := B8.size)
                    | fail)
                  go_roundw
                  case rel => exact ⟨l + 1, .slice (some ⟨g8', 0, none⟩) (l + 1) c8', by go_num, by omega, by rw [HKS.out]; exact (I8.store 11 _).asRow (dC_sets.2.2.2.2.2.2.2.2.2.2.2 _), Hid.mk (by rw [HKS.out, strCells_append]; exact owns_tch O8.out (tch_own (w.heap.size + 2) 11 w8 _) (by omega)), by rw [World.size_setCell]; omega, M8.tch (tch_own (w.heap.size + 2) 11 w8 _) (by omega) (by omega)⟩
                  case measure => simp [intOf]; omega
                · have hl' : l = aE.1 := by omega
                  have d2 : ¬ (l : Int) < aE.1 := by omega
                  obtain ⟨aG, hG⟩ : ∃ a, a = wokG s := ⟨_, rfl⟩
                  have hlG : txsF s l aE.2 = aG := by rw [hG, hl', EE.out]; unfold wokG; rfl
                  rw [hlG] at I HOW
                  have lG : l = aG.1.length := by rw [← hlG, txsF_len]
                  have DS0 := Hid.mk (StrsAt.of_owns (by rw [← lG]; exact HOW.out))
                  have OD : Hid (∀ g, g < WD.heap.size → Off g vD) := Hid.mk (fun g hg => off_of_owns HOW.out hg)
                  have KS0 := Hid.mk (kps_mid KD.out (fun k hk => OS.out k (by omega)) hM)
                  have PS0 := Hid.mk (strs_mid PD.out (fun k hk => OP.out k (by omega)) hM)
                  have EG := Hid.mk hG
                  obtain ⟨X, hX⟩ : ∃ X, X = wokS s := ⟨_, rfl⟩
                  have HXX : Hid (X = ⟨a2.1, a3.1, y0, y1, y2, a7.1, a8.1, a9.1, aB.1, aD.1, aG.1⟩) := Hid.mk (by rw [hX, E2.out, E3.out, HY0.out, HY1.out, HY2.out, E7.out, E8.out, E9.out, EB.out, ED.out, EG.out]; unfold wokS; rfl)
                  have HSZ : Hid X.Sz := Hid.mk (by rw [hX]; exact wokS_sz s)
                  have HXS := Hid.mk hX
                  have KS : Hid (KpsAt wr vS X.saved) := Hid.mk (by rw [HXX.out]; exact KS0.out)
                  have PS : Hid (StrsAt wr vP X.past) := Hid.mk (by rw [HXX.out]; exact PS0.out)
                  have DS : Hid (StrsAt wr vD X.draws) := Hid.mk (by rw [HXX.out]; exact DS0.out)
                  have HROW : Hid ((dC a2.1 a3.1 ⟨#[]⟩ y0 y1 y2 (a7.1 : Int) (a8.1 : Int) (a9.1 : Int) vS vP vD) = sideM ⟨#[]⟩ X vS vP vD) := Hid.mk (by rw [HXX.out]; rfl)
                  have HROW2 : Hid ((dC a2.1 a3.1 (pubF a3.1) y0 y1 y2 (a7.1 : Int) (a8.1 : Int) (a9.1 : Int) vS vP vD) = sideC X vS vP vD) := Hid.mk (by rw [HXX.out]; rfl)
                  have HOKS : Hid (wokOk s ↔ aG.2.ok = true ∧ keptB X = s ∧ (y2 = ⟨#[]⟩ ∨ y0 ≠ ⟨#[]⟩)) := Hid.mk (by unfold wokOk; rw [EG.out, hX, HY2.out, HY0.out])
                  have z3 : a3.1.size = 32 := by rw [E3.out]; exact wz3 s
                  have HOF : Hid (∀ k, k < w.heap.size → Offs k vS vP vD) := Hid.mk (fun k hk => ⟨OS.out k (by omega), OP.out k (by omega), OD.out k (by omega)⟩)
                  clear hlG hl' lG hG hX hM KD PD HOW KS0 PS0 DS0
                  go_upto_region 40 with (first
                      | (refine at_load 67 rfl ?_; refine wpl_load rtSide rfl _ rfl (w.heap.size + 2) rfl (sideM ⟨#[]⟩ X vS vP vD) (I.rx.trans HROW.out) (by rw [← HROW.out]; exact dC_size) ?_)
                      | (go_at_call 66; have M := kept_g X HSZ.out ⟨#[]⟩ vS vP vD wr KS.out PS.out DS.out; with_reducible refine M.mono ?_; clear M; rintro e WE ⟨rfl, bE⟩; have IE := I.below bE; have KE := Hid.mk (KS.out.below bE); have PE := Hid.mk (PS.out.below bE); have DE := Hid.mk (DS.out.below bE); clear bE I KS PS DS)
                      | fail)
                  have q2 := sh_c2 IE.sh
                  have rrE := Hid.mk IE.rr
                  have BE := IE.bl
                  have f1 := d_c1 IE.rx
                  have f2 := d_c2 IE.rx
                  have f3 := d_c3 IE.rx
                  have f5 := d_c5 IE.rx
                  have g2 := d_z IE.rx 2 (by omega)
                  obtain ⟨kx, hkx⟩ : ∃ t, t = keptB X := ⟨_, rfl⟩
                  rw [← hkx]
                  rw [← hkx] at HOKS
                  clear hkx
                  cases hok : aG.2.ok with
                  | false =>
                    have HNO : Hid (¬ wokOk s) := Hid.mk (fun h => by have := (HOKS.out.1 h).1; rw [hok] at this; cases this)
                    rw [hok] at q2
                    clear hok
                    go_upto_region 41 with fail
                    have HBE := Hid.mk BE
                    clear IE BE q2 f1 f2 f3 f5 g2 sA sC sD sC2 sD2 hz hz2 hz3 hL
                    go_wp2_with (first
                      | (refine at_store 67 rfl ?_; refine wpl_store rtSide rfl _ _ rfl w.heap.size rfl _ rfl ?_ ?_ ?_ _ rfl ?_; (focus (rw [rrE.out]; rfl)); (focus rfl); (focus (simp [Value.oneCell']; done)))
                      | fail)
                    refine bodyPost_ret (results_row_tmp rtSide Tryz.results58 _ _ w.heap.size rfl ?_) rfl ?_
                    · rw [rowOf_setRow_same (by rw [rrE.out]; exact side0_pos)]; rfl
                    · rw [rowOf_setRow_same (by rw [rrE.out]; exact side0_pos)]; exact ⟨Or.inr ⟨HNO.out, rfl⟩, below_setRow HBE.out (Nat.le_refl _) _⟩
                  | true =>
                    rw [hok] at q2
                    by_cases hts : kx.toList = s.toList
                    · have e1 : (kx.toList == s.toList) = true := by rw [hts]; simp
                      have e2 : (kx.toList != s.toList) = false := by rw [hts]; simp
                      have hks : kx = s := toList_inj.1 hts
                      by_cases hy2 : y2.toList = []
                      · have b2 : y2.toList.isEmpty = true := by rw [hy2]; rfl
                        have HYES : Hid (wokOk s) := Hid.mk (HOKS.out.2 ⟨hok, hks, Or.inl (toList_nil.1 hy2)⟩)
                        clear hok hks hy2
                        go_wp2_with (first
                          | (go_at_call 57; have M := rpublic_f a3.1 z3 WE; with_reducible refine M.mono ?_; clear M; rintro e WF ⟨rfl, bF⟩; have IF := IE.below bF; clear f1 f2 f3 f5 g2; have f2 := d_c2 IF.rx; have g2 := d_z IF.rx 2 (by omega); have IG := (IF.store 2 (.string (pubF a3.1))).asRow (dC_sets.2.2.1 _); have KF := Hid.mk (KE.out.below bF); have PF := Hid.mk (PE.out.below bF); have DF := Hid.mk (DE.out.below bF))
                          | (refine at_load 67 rfl ?_; refine wpl_load rtSide rfl _ rfl (w.heap.size + 2) rfl (sideC X vS vP vD) (IG.rx.trans HROW2.out) (sideC_size _ _ _ _) ?_)
                          | (refine at_store 67 rfl ?_; refine wpl_store rtSide rfl _ _ rfl w.heap.size rfl (sideC X vS vP vD) rfl ?_ (sideC_size _ _ _ _) (side_one KF.out PF.out DF.out) _ rfl ?_; (focus (exact (congrArg Array.size IG.rr).trans side0_size)))
                          | fail)
                        refine bodyPost_ret (results_row_tmp rtSide Tryz.results58 _ _ w.heap.size rfl ?_) rfl ?_
                        · rw [rowOf_setRow_same (by rw [IG.rr]; exact side0_pos)]; rfl
                        · rw [rowOf_setRow_same (by rw [IG.rr]; exact side0_pos)]
                          have t1 : Tch (w.heap.size + 2) WF (WF.setCell ⟨w.heap.size + 2, 2, none⟩ (.string (pubF a3.1))) := tch_own _ 2 WF _
                          have t2 : Tch w.heap.size (WF.setCell ⟨w.heap.size + 2, 2, none⟩ (.string (pubF a3.1))) ((WF.setCell ⟨w.heap.size + 2, 2, none⟩ (.string (pubF a3.1))).setRow w.heap.size (sideC X vS vP vD)) := Tch.setRow (tch_refl _ _) _
                          refine ⟨Or.inl ⟨HYES.out, vS, vP, vD, by rw [← HXS.out]; rfl, ?_, ?_, ?_, HOF.out⟩, below_setRow IG.bl (Nat.le_refl _) _⟩
                          · rw [← HXS.out]; exact (KF.out.tch t1 (OS.out _ (by omega))).tch t2 (OS.out _ (by omega))
                          · rw [← HXS.out]; exact (PF.out.tch t1 (OP.out _ (by omega))).tch t2 (OP.out _ (by omega))
                          · rw [← HXS.out]; exact (DF.out.tch t1 (OD.out _ (by omega))).tch t2 (OD.out _ (by omega))
                      · have b2 : y2.toList.isEmpty = false := by cases h : y2.toList <;> simp_all
                        by_cases hy0 : y0.toList = []
                        · have b0 : y0.toList.isEmpty = true := by rw [hy0]; rfl
                          have HNO : Hid (¬ wokOk s) := Hid.mk (fun h => by
                            rcases (HOKS.out.1 h).2.2 with h1 | h1
                            · exact hy2 (toList_nil.2 h1)
                            · exact h1 (toList_nil.1 hy0))
                          clear hok hks hy2 hy0
                          go_upto_region 41 with fail
                          have HBE := Hid.mk BE
                          clear IE BE q2 f1 f2 f3 f5 g2 sA sC sD sC2 sD2 hz hz2 hz3 hL
                          go_wp2_with (first
                            | (refine at_store 67 rfl ?_; refine wpl_store rtSide rfl _ _ rfl w.heap.size rfl _ rfl ?_ ?_ ?_ _ rfl ?_; (focus (rw [rrE.out]; rfl)); (focus rfl); (focus (simp [Value.oneCell']; done)))
                            | fail)
                          refine bodyPost_ret (results_row_tmp rtSide Tryz.results58 _ _ w.heap.size rfl ?_) rfl ?_
                          · rw [rowOf_setRow_same (by rw [rrE.out]; exact side0_pos)]; rfl
                          · rw [rowOf_setRow_same (by rw [rrE.out]; exact side0_pos)]; exact ⟨Or.inr ⟨HNO.out, rfl⟩, below_setRow HBE.out (Nat.le_refl _) _⟩
                        · have b0 : y0.toList.isEmpty = false := by cases h : y0.toList <;> simp_all
                          have HYES : Hid (wokOk s) := Hid.mk (HOKS.out.2 ⟨hok, hks, Or.inr (fun h => hy0 (toList_nil.2 h))⟩)
                          clear hok hks hy2 hy0
                          go_wp2_with (first
                            | (go_at_call 57; have M := rpublic_f a3.1 z3 WE; with_reducible refine M.mono ?_; clear M; rintro e WF ⟨rfl, bF⟩; have IF := IE.below bF; clear f1 f2 f3 f5 g2; have f2 := d_c2 IF.rx; have g2 := d_z IF.rx 2 (by omega); have IG := (IF.store 2 (.string (pubF a3.1))).asRow (dC_sets.2.2.1 _); have KF := Hid.mk (KE.out.below bF); have PF := Hid.mk (PE.out.below bF); have DF := Hid.mk (DE.out.below bF))
                            | (refine at_load 67 rfl ?_; refine wpl_load rtSide rfl _ rfl (w.heap.size + 2) rfl (sideC X vS vP vD) (IG.rx.trans HROW2.out) (sideC_size _ _ _ _) ?_)
                            | (refine at_store 67 rfl ?_; refine wpl_store rtSide rfl _ _ rfl w.heap.size rfl (sideC X vS vP vD) rfl ?_ (sideC_size _ _ _ _) (side_one KF.out PF.out DF.out) _ rfl ?_; (focus (exact (congrArg Array.size IG.rr).trans side0_size)))
                            | fail)
                          refine bodyPost_ret (results_row_tmp rtSide Tryz.results58 _ _ w.heap.size rfl ?_) rfl ?_
                          · rw [rowOf_setRow_same (by rw [IG.rr]; exact side0_pos)]; rfl
                          · rw [rowOf_setRow_same (by rw [IG.rr]; exact side0_pos)]
                            have t1 : Tch (w.heap.size + 2) WF (WF.setCell ⟨w.heap.size + 2, 2, none⟩ (.string (pubF a3.1))) := tch_own _ 2 WF _
                            have t2 : Tch w.heap.size (WF.setCell ⟨w.heap.size + 2, 2, none⟩ (.string (pubF a3.1))) ((WF.setCell ⟨w.heap.size + 2, 2, none⟩ (.string (pubF a3.1))).setRow w.heap.size (sideC X vS vP vD)) := Tch.setRow (tch_refl _ _) _
                            refine ⟨Or.inl ⟨HYES.out, vS, vP, vD, by rw [← HXS.out]; rfl, ?_, ?_, ?_, HOF.out⟩, below_setRow IG.bl (Nat.le_refl _) _⟩
                            · rw [← HXS.out]; exact (KF.out.tch t1 (OS.out _ (by omega))).tch t2 (OS.out _ (by omega))
                            · rw [← HXS.out]; exact (PF.out.tch t1 (OP.out _ (by omega))).tch t2 (OP.out _ (by omega))
                            · rw [← HXS.out]; exact (DF.out.tch t1 (OD.out _ (by omega))).tch t2 (OD.out _ (by omega))
                    · have e1 : (kx.toList == s.toList) = false := by simpa using hts
                      have e2 : (kx.toList != s.toList) = true := by simp [hts]
                      have HNO : Hid (¬ wokOk s) := Hid.mk (fun h => hts (by rw [(HOKS.out.1 h).2.1]))
                      clear hok
                      go_upto_region 41 with fail
                      have HBE := Hid.mk BE
                      clear IE BE q2 f1 f2 f3 f5 g2 sA sC sD sC2 sD2 hz hz2 hz3 hL
                      go_wp2_with (first
                        | (refine at_store 67 rfl ?_; refine wpl_store rtSide rfl _ _ rfl w.heap.size rfl _ rfl ?_ ?_ ?_ _ rfl ?_; (focus (rw [rrE.out]; rfl)); (focus rfl); (focus (simp [Value.oneCell']; done)))
                        | fail)
                      refine bodyPost_ret (results_row_tmp rtSide Tryz.results58 _ _ w.heap.size rfl ?_) rfl ?_
                      · rw [rowOf_setRow_same (by rw [rrE.out]; exact side0_pos)]; rfl
                      · rw [rowOf_setRow_same (by rw [rrE.out]; exact side0_pos)]; exact ⟨Or.inr ⟨HNO.out, rfl⟩, below_setRow HBE.out (Nat.le_refl _) _⟩
end Go.Proofs.YteghoooelgcpkabGreatDoor
