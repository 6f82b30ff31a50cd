/- The walks of the document's own answer: the bytes of a state, piece by piece. -/
import Derived.Test.YtogkchcclcbobaaHs7
namespace Go.Proofs.Ytogkchcclcbobaa
open Go.RowKit Go.Msg
/-- All that was there is as it was, but block g. -/
structure But (g : Nat) (w w' : World) : Prop where
  os : w'.os = w.os
  tape : w'.tape = w.tape
  output : w'.output = w.output
  size : w.heap.size ≤ w'.heap.size
  block : ∀ k, k < w.heap.size → k ≠ g → w'.heap[k]? = w.heap[k]?
theorem But.trans {g : Nat} {a b c : World} (h : But g a b) (k : But g b c) : But g a c :=
  ⟨k.os.trans h.os, k.tape.trans h.tape, k.output.trans h.output, Nat.le_trans h.size k.size, fun i hi hg => (k.block i (Nat.lt_of_lt_of_le hi h.size) hg).trans (h.block i hi hg)⟩
theorem But.of_below {g : Nat} {w w' : World} (h : Below w.heap.size w w') : But g w w' := ⟨h.os, h.tape, h.output, h.size, fun k hk _ => h.block k hk⟩
theorem But.refl (g : Nat) (w : World) : But g w w := But.of_below (Below.refl _ _)
theorem But.set (w : World) (a : Addr) (v : Value) : But a.block w (w.setCell a v) := ⟨rfl, rfl, rfl, by simp, fun k _ hg => Below.heap_setCell w a v k hg⟩
theorem But.below {g B : Nat} {w0 w w' : World} (h : But g w w') (hB : Below B w0 w) (hs : B ≤ w.heap.size) (hg : B ≤ g) : Below B w0 w' :=
  hB.trans ⟨h.os, h.tape, h.output, h.size, fun k hk => h.block k (by omega) (by omega)⟩
theorem But.row {g : Nat} {w w' : World} (h : But g w w') {b : Nat} (hb : b ≠ g) (hs : 0 < (w.rowOf b).size) : w'.rowOf b = w.rowOf b := by
  simp only [World.rowOf, h.block b (rowOf_lt hs) hb]
/-- A state under way: its text, how far it is read (b at most), whether all is well. -/
def ShAt (w : World) (g : Nat) (s : ByteArray) (b : Nat) : Prop :=
  ∃ (k : Nat) (ok : Bool), k ≤ b ∧ k ≤ s.size ∧ w.cell? ⟨g, 0, none⟩ = some (.string s) ∧ w.cell? ⟨g, 1, none⟩ = some (.int .i64 (k : Int)) ∧ w.cell? ⟨g, 2, none⟩ = some (.bool ok) ∧ w.frozen? ⟨g, 0, none⟩ = false ∧ w.frozen? ⟨g, 1, none⟩ = false ∧ w.frozen? ⟨g, 2, none⟩ = false
theorem ShAt.mono {w : World} {g : Nat} {s : ByteArray} {b c : Nat} (h : ShAt w g s b) (hb : b ≤ c) : ShAt w g s c := by
  obtain ⟨k, ok, h1, h2⟩ := h
  exact ⟨k, ok, by omega, h2⟩
theorem ShAt.lt {w : World} {g : Nat} {s : ByteArray} {b : Nat} (h : ShAt w g s b) : g < w.heap.size := by
  obtain ⟨k, ok, h1, h2, h3, _⟩ := h
  exact World.block_lt_of_cell? w _ h3
theorem ShAt.heap {w w' : World} {g : Nat} {s : ByteArray} {b : Nat} (h : ShAt w g s b) (he : w'.heap[g]? = w.heap[g]?) : ShAt w' g s b := by
  obtain ⟨k, ok, h1, h2, h3, h4, h5, h6, h7, h8⟩ := h
  refine ⟨k, ok, h1, h2, ?_, ?_, ?_, ?_, ?_, ?_⟩
  · rw [World.cell?_of_block (w := w) he]; exact h3
  · rw [World.cell?_of_block (w := w) he]; exact h4
  · rw [World.cell?_of_block (w := w) he]; exact h5
  · rw [World.frozen?_of_block (w := w) he]; exact h6
  · rw [World.frozen?_of_block (w := w) he]; exact h7
  · rw [World.frozen?_of_block (w := w) he]; exact h8
theorem ShAt.below {w w' : World} {g : Nat} {s : ByteArray} {b : Nat} (h : ShAt w g s b) (hb : Below w.heap.size w w') : ShAt w' g s b := h.heap (hb.block g h.lt)
theorem ShAt.no {w : World} {g : Nat} {s : ByteArray} {b : Nat} (h : ShAt w g s b) : ShAt (w.setCell ⟨g, 2, none⟩ (.bool false)) g s b := by
  obtain ⟨k, ok, h1, h2, h3, h4, h5, h6, h7, h8⟩ := h
  refine ⟨k, false, h1, h2, ?_, ?_, ?_, by simp [h6], by simp [h7], by simp [h8]⟩
  · rw [World.cell?_setCell_other _ _ _ _ (by simp)]; exact h3
  · rw [World.cell?_setCell_other _ _ _ _ (by simp)]; exact h4
  · exact World.cell?_setCell_same _ _ _ h5
theorem ShAt.fwd {w : World} {g : Nat} {s : ByteArray} {b : Nat} (h : ShAt w g s b) (k : Nat) (c : Nat) (hk : k ≤ c) (hs : k ≤ s.size) : ShAt (w.setCell ⟨g, 1, none⟩ (.int .i64 (k : Int))) g s c := by
  obtain ⟨k', ok, h1, h2, h3, h4, h5, h6, h7, h8⟩ := h
  refine ⟨k, ok, hk, hs, ?_, ?_, ?_, by simp [h6], by simp [h7], by simp [h8]⟩
  · rw [World.cell?_setCell_other _ _ _ _ (by simp)]; exact h3
  · exact World.cell?_setCell_same _ _ _ h4
  · rw [World.cell?_setCell_other _ _ _ _ (by simp)]; exact h5
theorem rowOf_drewN (w : World) (n g : Nat) : (w.drewN n).rowOf g = w.rowOf g := rfl
theorem rowOf_new (w : World) (c : Array Value) (t g : Nat) (h : w.heap.size = g) : (w.alloc (.cells c t)).rowOf g = c := by subst h; simp [go_sem]
set_option maxRecDepth 4000 in
set_option maxHeartbeats 4000000 in
theorem cut_any (g : Nat) (s : ByteArray) (b n : Nat) (hb : b ≤ 100000) (hn : n ≤ 32) (w : World) (hS : ShAt w g s b) :
    Calls Try.prog 45 #[.pointer (some ⟨g, 0, none⟩), .int .i64 (n : Int)] w fun e w' => ∃ t, e = .returned (.string t) ∧ t.size = n ∧ ShAt w' g s (b + n) ∧ But g w w' := by
  have HS : Hid (ShAt w g s b) := hS
  obtain ⟨k, ok, hk, hks, h3, h4, h5, h6, h7, h8⟩ := hS
  have c0 : (n : Int) ≤ 32 := by omega
  have c1 : (k : Int) ≤ 100000 := by omega
  cases ok with
  | false =>
    go_enter Try.func45, Try.ntmps45
    go_wp2_with fail
    go_quiet (fail)
    go_wp2_with (first
      | (at_make; refine wpl_make u8s rfl _ _ rfl n (n : Int) (n : Int) rfl rfl rfl rfl (by omega) ?_)
      | (refine wpl_convert rfl 58 9 5 _ rfl Try.underlying58 Try.underlying5 Try.underlying9 _ 0 n n rfl n (fun _ => 0) ?_ (by omega) ?_; (focus (first | exact rowOf_new _ _ _ _ rfl | (rw [rowOf_drewN]; exact rowOf_new _ _ _ _ (by simp)))))
      | fail)
    go_ret
    exact ⟨_, rfl, bstr_size _ _, (HS.out.no.below (below_drewN (by_alloc _ _) _)).mono (by omega), (But.set w ⟨g, 2, none⟩ _).trans (But.of_below (below_drewN (by_alloc _ _) _))⟩
  | true =>
    by_cases hlt : k + n ≤ s.size
    · have c2 : ¬ (k : Int) + n > s.size := by omega
      have c3 : (k : Int) + n ≤ s.size := by omega
      have c4 : (k : Int) ≤ s.size := by omega
      go_enter Try.func45, Try.ntmps45
      go_wp2_with fail
      go_quiet (fail)
      go_wp2_with fail
      go_quiet (fail)
      go_wp2
      go_ret
      refine ⟨_, rfl, ?_, ?_, ?_⟩
      · simp [ByteArray.size_extract]; omega
      · exact (HS.out.fwd (k + n) (b + n) (by omega) hlt).heap rfl
      · exact (But.set w ⟨g, 1, none⟩ _).trans (But.of_below (below_drewN (Below.refl _ _) _))
    · have c2 : (k : Int) + n > s.size := by omega
      go_enter Try.func45, Try.ntmps45
      go_wp2_with fail
      go_quiet (fail)
      go_wp2_with (first
        | (at_make; refine wpl_make u8s rfl _ _ rfl n (n : Int) (n : Int) rfl rfl rfl rfl (by omega) ?_)
        | (refine wpl_convert rfl 58 9 5 _ rfl Try.underlying58 Try.underlying5 Try.underlying9 _ 0 n n rfl n (fun _ => 0) ?_ (by omega) ?_; (focus (first | exact rowOf_new _ _ _ _ rfl | (rw [rowOf_drewN]; exact rowOf_new _ _ _ _ (by simp)))))
        | fail)
      go_ret
      exact ⟨_, rfl, bstr_size _ _, (HS.out.no.below (below_drewN (by_alloc _ _) _)).mono (by omega), (But.set w ⟨g, 2, none⟩ _).trans (But.of_below (below_drewN (by_alloc _ _) _))⟩
end Go.Proofs.Ytogkchcclcbobaa
