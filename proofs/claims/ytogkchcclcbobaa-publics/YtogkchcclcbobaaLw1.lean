/- The walks of the statement's own world: small functions. -/
import Derived.Test.YtogkchcclcbobaaWk4
namespace Go
open Go.RowKit Go.Msg Go.Proofs.Ytogkchcclcbobaa
theorem copied_tab (s : ByteArray) (n N : Nat) (f : Nat → Int) (hn : n ≤ s.size) (hN : n ≤ N) :
    ((tab .u8 N f).toList.take 0 ++ ((s.extract 0 n).data.map fun b => Value.int .u8 b.toNat).toList ++ (tab .u8 N f).toList.drop (0 + n)).toArray = tab .u8 N (fun i => if i < n then sb s i else f i) := by
  have hm : min n s.size = n := by omega
  apply Array.ext_getElem?
  intro i
  by_cases hi : i < N
  · rw [tab_get _ _ _ _ hi]
    by_cases h2 : i < n
    · have hs : i < s.size := by omega
      simp [List.getElem?_append, hm, h2, sb, hs]
      rfl
    · have : n + (i - n) = i := by omega
      simp [List.getElem?_append, hm, h2, this, tab_get _ _ _ _ hi]
  · have h1 : ∀ g, (tab .u8 N g)[i]? = none := fun g => by simp [tab_eq]; omega
    rw [h1]
    have h3 : ¬ i < n := by omega
    have h4 : n + (i - n) = i := by omega
    simp [List.getElem?_append, hm, h3, h4, h1]
/-- 'copy(b, s)', s a text, b a row of bytes from its begin. -/
theorem wpl_copyS {P : Program} {ops : Array Oper} {rest : List Oper} {o : Oper} {a : Act} {w : World} {Q : Exit → Act → World → Prop} (hgd : o.guard = none) (d x : Operand) (dT sT elem : TypeId) (ho : o.op = .call { callee := .builtin .copy, args := #[d, x], argTypes := #[dT, sT] })
    (hu : P.underlying dT = some (.slice elem)) (hs : (P.info? elem).map (·.size) = some 1) (g N cap : Nat) (hN : 0 < N) (s : ByteArray) (hd : a.eval d = .slice (some ⟨g, 0, none⟩) N cap) (hx : a.eval x = .string s) (f : Nat → Int) (hr : w.rowOf g = tab .u8 N f)
    (h : ∀ v F, wpList P ops Q rest (a.put o.dst v) (w.setRow g (tab .u8 N F))) : wpList P ops Q (o :: rest) a w := by
  refine wpList_plain hgd fun _ hK => ?_
  obtain ⟨t', hh⟩ := rowOf_heap (w := w) (g := g) rfl (by rw [hr, tab_size]; exact hN)
  rw [hr] at hh
  have hrun : ∀ ty, ∃ v F, (Builtin.copy_ #[dT, sT] ty #[.slice (some ⟨g, 0, none⟩) N cap, .string s]).run P w = .ok v (w.setRow g (tab .u8 N F)) := by
    intro ty
    have hm : Nat.min s.size N ≤ s.size := Nat.min_le_left _ _
    have hm2 : Nat.min s.size N ≤ N := Nat.min_le_right _ _
    have hz : ((s.extract 0 (Nat.min s.size N)).data.map fun b => Value.int .u8 (b.toNat : Int)).toList.length = Nat.min s.size N := by
      rw [Array.length_toList, Array.size_map]; show (s.extract 0 _).size = _; rw [ByteArray.size_extract]; omega
    have hst := run_storeCells_at P g 0 t' ((s.extract 0 (Nat.min s.size N)).data.map fun b => Value.int .u8 (b.toNat : Int)).toList 0 _ w hh (by rw [hz, tab_size]; omega) (by
      intro v hv
      rw [Array.mem_toList_iff, Array.mem_map] at hv
      obtain ⟨b, _, rfl⟩ := hv
      rfl)
    rw [hz] at hst
    simp only [Nat.add_zero] at hst
    rw [copied_tab s _ N f hm hm2] at hst
    refine ⟨goInt (Nat.min s.size N), fun i => if i < Nat.min s.size N then sb s i else f i, ?_⟩
    cases hq : P.info? elem with
    | none => simp [hq] at hs
    | some i =>
      simp only [Builtin.copy_, Builtin.lenOf, Builtin.firstCells, sizeOf, typeInfo, Sem.run_bind, run_underlying hu, Result.andThen_ok, Sem.run_pure, List.getElem?_toArray, List.getElem?_cons_zero, List.getElem?_cons_succ]
      rw [show (Sem.run P program w) = .ok P w from rfl]
      simp only [Result.andThen_ok, hq, Sem.run_pure, hst]
  obtain ⟨v, F, hrun⟩ := hrun o.type
  unfold Oper.wp
  simp only [execOp, ho, resolve, invoke, builtin, List.map_toArray, List.map_cons, List.map_nil, hd, hx, Sem.run_bind, Sem.run_pure, Result.andThen_ok, hrun]
  exact hK _ _ (h v F)
end Go
namespace Go.Proofs.Ytogkchcclcbobaa
open Go.RowKit Go.Msg
theorem pick_any (c : Int) (n : Nat) (hn : 0 < n) (h1 : -9223372036854775808 ≤ c) (h2 : c ≤ 9223372036854775807) (hn2 : n ≤ 9223372036854775807) (w : World) :
    Calls Try.prog 16 #[.int .i64 c, .int .i64 (n : Int)] w fun e w' => ∃ k : Nat, e = .returned (.int .i64 (k : Int)) ∧ k < n ∧ w' = w := by
  have c0 : (n : Int) ≠ 0 := by omega
  by_cases hc : c < 0
  · go_enter Try.func16, Try.ntmps16
    go_wp2_with fail
    go_ret
    have e1 : -(c + 1).tmod n = (-(c + 1)) % n := by rw [← Int.neg_tmod, Int.tmod_eq_emod_of_nonneg (by omega)]
    have e2 := Int.emod_nonneg (-(c + 1)) c0
    have e3 := Int.emod_lt_of_pos (-(c + 1)) (show (0 : Int) < n by omega)
    refine ⟨((-(c + 1)) % n).toNat, ?_, by omega, rfl⟩
    rw [Int.toNat_of_nonneg e2, ← e1]; rfl
  · go_enter Try.func16, Try.ntmps16
    go_wp2_with fail
    go_ret
    have e2 := Int.emod_nonneg c c0
    have e3 := Int.emod_lt_of_pos c (show (0 : Int) < n by omega)
    refine ⟨(c % n).toNat, ?_, by omega, rfl⟩
    rw [Int.toNat_of_nonneg e2]; rfl
theorem sstart_any (a b c : ByteArray) (w : World) : Calls Try.prog 26 #[.string a, .string b, .string c] w fun e w' => e = .returned (.tuple #[.pointer none, .int .i64 0]) ∧ w' = w := by
  go_enter Try.func26, Try.ntmps26
  go_wp2
  go_ret2
  exact ⟨rfl, rfl⟩
theorem swait_any (a b : ByteArray) (w : World) : Calls Try.prog 29 #[.string a, .string b] w fun e w' => e = .returned (.tuple #[.pointer none, .int .i64 0]) ∧ w' = w := by
  go_enter Try.func29, Try.ntmps29
  go_wp2
  go_ret2
  exact ⟨rfl, rfl⟩
theorem simport_any (a : ByteArray) (w : World) : Calls Try.prog 33 #[.string a] w fun e w' => e = .returned (.tuple #[.pointer none, .int .i64 0]) ∧ w' = w := by
  go_enter Try.func33, Try.ntmps33
  go_wp2
  go_ret2
  exact ⟨rfl, rfl⟩
set_option maxRecDepth 4000 in
set_option maxHeartbeats 1000000 in
theorem full_any (t : ByteArray) (c : Int) (w : World) :
    Calls Try.prog 11 #[.string t, .int .i64 c] w fun e w' => ∃ s, e = .returned (.string s) ∧ Below w.heap.size w w' := by
  go_enter Try.func11, Try.ntmps11
  go_wp2_with (first
    | (at_make; refine wpl_make u8s rfl _ _ rfl 32 32 32 rfl rfl rfl rfl (by omega) ?_)
    | (refine wpl_copyS rfl _ _ _ _ 5 rfl Try.underlying58 (by kernel_rfl) w.heap.size 32 32 (by omega) t rfl rfl (fun _ => 0) ?_ ?_; (focus (exact rowOf_new _ _ _ _ rfl)); intro v F)
    | (refine wpl_convert rfl 58 9 5 _ rfl Try.underlying58 Try.underlying5 Try.underlying9 w.heap.size 0 32 32 rfl 32 F ?_ (by omega) ?_; (focus (exact rowOf_new _ _ _ _ rfl)))
    | fail)
  · go_ret
    exact ⟨_, rfl, Below.refl _ _⟩
  · go_ret
    exact ⟨_, rfl, by_alloc _ _⟩
/-- What the script has made: no session, no message; the point at hand, the state at hand. -/
structure LW (w0 : World) (g : Nat) (p : Value) (w : World) (a b : ByteArray) : Prop where
  row : w.rowOf g = #[p, .slice none 0 0, .slice none 0 0, .string a, .string b]
  bl : Below w0.heap.size w0 w
  pr : PrimAt w0 p
  hg : w0.heap.size ≤ g
  sz : b.size ≤ 9223372036854775807
theorem LW.lt {w0 w : World} {g : Nat} {p : Value} {a b : ByteArray} (h : LW w0 g p w a b) : g < w.heap.size := rowOf_lt (by rw [h.row]; exact Nat.succ_pos 4)
theorem LW.below {w0 w w' : World} {g : Nat} {p : Value} {a b : ByteArray} (h : LW w0 g p w a b) (hb : Below w.heap.size w w') : LW w0 g p w' a b :=
  ⟨by rw [below_row hb (by rw [h.row]; exact Nat.succ_pos 4), h.row], below_lift h.bl h.bl.size hb, h.pr, h.hg, h.sz⟩
theorem LW.prim {w0 w : World} {g : Nat} {p : Value} {a b : ByteArray} (h : LW w0 g p w a b) : PrimAt w p := h.pr.below h.bl
theorem LW.point {w0 w : World} {g : Nat} {p : Value} {a b : ByteArray} (h : LW w0 g p w a b) (s : ByteArray) : LW w0 g p (w.setCell ⟨g, 3, none⟩ (.string s)) s b :=
  ⟨by rw [row_set h.row (Nat.succ_pos 4)]; rfl, (But.set w ⟨g, 3, none⟩ (.string s)).below h.bl h.bl.size h.hg, h.pr, h.hg, h.sz⟩
theorem LW.state {w0 w : World} {g : Nat} {p : Value} {a b : ByteArray} (h : LW w0 g p w a b) (s : ByteArray) (hs : s.size ≤ 9223372036854775807) : LW w0 g p (w.setCell ⟨g, 4, none⟩ (.string s)) a s :=
  ⟨by rw [row_set h.row (Nat.succ_pos 4)]; rfl, (But.set w ⟨g, 4, none⟩ (.string s)).below h.bl h.bl.size h.hg, h.pr, h.hg, hs⟩
theorem LW.c0 {w0 w : World} {g : Nat} {p : Value} {a b : ByteArray} (h : LW w0 g p w a b) : w.cell? ⟨g, 0, none⟩ = some p := rowcell h.row 0 _ rfl
theorem LW.c1 {w0 w : World} {g : Nat} {p : Value} {a b : ByteArray} (h : LW w0 g p w a b) : w.cell? ⟨g, 1, none⟩ = some (.slice none 0 0) := rowcell h.row 1 _ rfl
theorem LW.c2 {w0 w : World} {g : Nat} {p : Value} {a b : ByteArray} (h : LW w0 g p w a b) : w.cell? ⟨g, 2, none⟩ = some (.slice none 0 0) := rowcell h.row 2 _ rfl
theorem LW.c3 {w0 w : World} {g : Nat} {p : Value} {a b : ByteArray} (h : LW w0 g p w a b) : w.cell? ⟨g, 3, none⟩ = some (.string a) := rowcell h.row 3 _ rfl
theorem LW.c4 {w0 w : World} {g : Nat} {p : Value} {a b : ByteArray} (h : LW w0 g p w a b) : w.cell? ⟨g, 4, none⟩ = some (.string b) := rowcell h.row 4 _ rfl
theorem LW.z3 {w0 w : World} {g : Nat} {p : Value} {a b : ByteArray} (h : LW w0 g p w a b) : w.frozen? ⟨g, 3, none⟩ = false := rowfz h.row 3 (by show 3 < 5; omega)
theorem LW.z4 {w0 w : World} {g : Nat} {p : Value} {a b : ByteArray} (h : LW w0 g p w a b) : w.frozen? ⟨g, 4, none⟩ = false := rowfz h.row 4 (by show 4 < 5; omega)
set_option maxHeartbeats 1000000 in
theorem looks_any {w0 w : World} {g : Nat} {p : Value} {a b : ByteArray} (h : LW w0 g p w a b) :
    Calls Try.prog 7 #[.pointer (some ⟨g, 0, none⟩)] w fun e w' => e = .returned (.bool true) ∧ w' = w := by
  have h1 := h.c1
  go_enter Try.func7, Try.ntmps7
  go_wp2_with fail
  go_loopw [3] (fun i wq => i = .int .i64 0 ∧ wq = w) (fun _ _ => 0)
  case atStart => exact ⟨rfl, rfl⟩
  case round =>
    obtain ⟨rfl, rfl⟩ := hrel
    go_wp2
    go_ret
    exact ⟨rfl, rfl⟩
set_option maxHeartbeats 1000000 in
theorem published_any {w0 w : World} {g : Nat} {p : Value} {a b : ByteArray} (h : LW w0 g p w a b) (k : ByteArray) :
    Calls Try.prog 14 #[.pointer (some ⟨g, 0, none⟩), .string k] w fun e w' => e = .returned (.bool true) ∧ ∃ a', LW w0 g p w' a' b := by
  by_cases hk : k.size = 32
  · have hk1 : (k.size : Int) = 32 := by omega
    go_enter Try.func14, Try.ntmps14
    go_wp2_with (first
      | (go_at_call 31; refine (spublic_any k hk _).mono ?_; rintro e W1 ⟨f, rfl, hf, hb1⟩; (have h1 := h.below hb1); clear hb1)
      | (go_at_call 32; refine (rpublic_any k hk _).mono ?_; rintro e W2 ⟨s, rfl, hs, hb2⟩; (have h2 := h1.below hb2); (have e2 := hs.same hf); subst e2; (have z2 := h2.z3); (have y2 := h2.c3); clear hb2 hs)
      | fail)
    go_ret
    exact ⟨rfl, _, h2.point _⟩
  · have hk1 : ((k.size : Int) != 32) = true := by simp; omega
    go_enter Try.func14, Try.ntmps14
    go_wp2_with (go_at_call 31; refine (spublic_bad k hk _).mono ?_; rintro e W1 ⟨rfl, rfl⟩)
    go_ret
    exact ⟨rfl, _, h⟩
end Go.Proofs.Ytogkchcclcbobaa
