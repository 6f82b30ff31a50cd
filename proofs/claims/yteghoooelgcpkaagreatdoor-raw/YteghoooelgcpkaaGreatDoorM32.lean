import Derived.Deep.RegionWith
import Derived.Deep.Cut
import Derived.Test.YteghoooelgcpkaaGreatDoorM25
import Derived.Test.YteghoooelgcpkaaGreatDoorM31
namespace Go.Proofs.YteghoooelgcpkaaGreatDoor
open Go.RowKit Go.Msg
theorem pair_cells {w : World} {g gs : Nat} {x : Sd} {vS vP vD : Value} (h : w.rowOf g = pairC gs x vS vP vD) : w.cell? ⟨g, 1, none⟩ = some (.string x.root) ∧ w.cell? ⟨g, 2, none⟩ = some (.string x.self) ∧ w.cell? ⟨g, 3, none⟩ = some (.string (pubF x.self)) ∧ w.cell? ⟨g, 4, none⟩ = some (.string x.theirs) ∧ w.cell? ⟨g, 5, none⟩ = some (.string x.send) ∧ w.cell? ⟨g, 6, none⟩ = some (.string x.read) ∧ w.cell? ⟨g, 7, none⟩ = some (.int .i64 (x.ns : Int)) ∧ w.cell? ⟨g, 8, none⟩ = some (.int .i64 (x.nr : Int)) ∧ w.cell? ⟨g, 9, none⟩ = some (.int .i64 (x.pn : Int)) ∧ w.cell? ⟨g, 10, none⟩ = some vS ∧ w.cell? ⟨g, 11, none⟩ = some vP ∧ w.cell? ⟨g, 12, none⟩ = some vD :=
  ⟨rowcell h 1 _ rfl, rowcell h 2 _ rfl, rowcell h 3 _ rfl, rowcell h 4 _ rfl, rowcell h 5 _ rfl, rowcell h 6 _ rfl, rowcell h 7 _ rfl, rowcell h 8 _ rfl, rowcell h 9 _ rfl, rowcell h 10 _ rfl, rowcell h 11 _ rfl, rowcell h 12 _ rfl⟩
theorem side_cells {W : World} {g : Nat} (r : W.rowOf g = side0) :
    (W.cell? ⟨g, 0, none⟩ = some (.string ⟨#[]⟩) ∧ W.cell? ⟨g, 1, none⟩ = some (.string ⟨#[]⟩) ∧ W.cell? ⟨g, 2, none⟩ = some (.string ⟨#[]⟩) ∧ W.cell? ⟨g, 3, none⟩ = some (.string ⟨#[]⟩) ∧ W.cell? ⟨g, 4, none⟩ = some (.string ⟨#[]⟩) ∧ W.cell? ⟨g, 5, none⟩ = some (.string ⟨#[]⟩) ∧ W.cell? ⟨g, 6, none⟩ = some (.int .i64 0) ∧ W.cell? ⟨g, 7, none⟩ = some (.int .i64 0) ∧ W.cell? ⟨g, 8, none⟩ = some (.int .i64 0) ∧ W.cell? ⟨g, 9, none⟩ = some (.slice none 0 0) ∧ W.cell? ⟨g, 10, none⟩ = some (.slice none 0 0) ∧ W.cell? ⟨g, 11, none⟩ = some (.slice none 0 0)) ∧
    (W.frozen? ⟨g, 0, none⟩ = false ∧ W.frozen? ⟨g, 1, none⟩ = false ∧ W.frozen? ⟨g, 2, none⟩ = false ∧ W.frozen? ⟨g, 3, none⟩ = false ∧ W.frozen? ⟨g, 4, none⟩ = false ∧ W.frozen? ⟨g, 5, none⟩ = false ∧ W.frozen? ⟨g, 6, none⟩ = false ∧ W.frozen? ⟨g, 7, none⟩ = false ∧ W.frozen? ⟨g, 8, none⟩ = false ∧ W.frozen? ⟨g, 9, none⟩ = false ∧ W.frozen? ⟨g, 10, none⟩ = false ∧ W.frozen? ⟨g, 11, none⟩ = false) :=
  ⟨⟨rowcell r 0 _ rfl, rowcell r 1 _ rfl, rowcell r 2 _ rfl, rowcell r 3 _ rfl, rowcell r 4 _ rfl, rowcell r 5 _ rfl, rowcell r 6 _ rfl, rowcell r 7 _ rfl, rowcell r 8 _ rfl, rowcell r 9 _ rfl, rowcell r 10 _ rfl, rowcell r 11 _ rfl⟩,
   ⟨rowfz2 r 0 (by decide), rowfz2 r 1 (by decide), rowfz2 r 2 (by decide), rowfz2 r 3 (by decide), rowfz2 r 4 (by decide), rowfz2 r 5 (by decide), rowfz2 r 6 (by decide), rowfz2 r 7 (by decide), rowfz2 r 8 (by decide), rowfz2 r 9 (by decide), rowfz2 r 10 (by decide), rowfz2 r 11 (by decide)⟩⟩
theorem row_setE {w : World} {g : Nat} {c : Array Value} (h : w.rowOf g = c) (hc : 0 < c.size) (i : Nat) (v : Value) {d : Array Value} (hd : c.setIfInBounds i v = d) : (w.setCell ⟨g, i, none⟩ v).rowOf g = d := by rw [← hd]; exact rowOf_setCell h hc i v
abbrev sets12 (w : World) (g : Nat) (v0 v1 v2 v3 v4 v5 v6 v7 v8 v9 vA vB : Value) : World := (((((((((((w.setCell ⟨g, 0, none⟩ v0).setCell ⟨g, 1, none⟩ v1).setCell ⟨g, 2, none⟩ v2).setCell ⟨g, 3, none⟩ v3).setCell ⟨g, 4, none⟩ v4).setCell ⟨g, 5, none⟩ v5).setCell ⟨g, 6, none⟩ v6).setCell ⟨g, 7, none⟩ v7).setCell ⟨g, 8, none⟩ v8).setCell ⟨g, 9, none⟩ v9).setCell ⟨g, 10, none⟩ vA).setCell ⟨g, 11, none⟩ vB
theorem sets12_row {w : World} {g : Nat} {c : Array Value} (h : w.rowOf g = c) (hc : c.size = 12) (v0 v1 v2 v3 v4 v5 v6 v7 v8 v9 vA vB : Value) : (sets12 w g v0 v1 v2 v3 v4 v5 v6 v7 v8 v9 vA vB).rowOf g = #[v0, v1, v2, v3, v4, v5, v6, v7, v8, v9, vA, vB] := by
  obtain ⟨l⟩ := c
  have hl : l.length = 12 := hc
  match l, hl with
  | [a0, a1, a2, a3, a4, a5, a6, a7, a8, a9, aA, aB], _ =>
    have e0 := row_setE h (Nat.succ_pos 11) 0 v0 (d := #[v0, a1, a2, a3, a4, a5, a6, a7, a8, a9, aA, aB]) rfl
    have e1 := row_setE e0 (Nat.succ_pos 11) 1 v1 (d := #[v0, v1, a2, a3, a4, a5, a6, a7, a8, a9, aA, aB]) rfl
    have e2 := row_setE e1 (Nat.succ_pos 11) 2 v2 (d := #[v0, v1, v2, a3, a4, a5, a6, a7, a8, a9, aA, aB]) rfl
    have e3 := row_setE e2 (Nat.succ_pos 11) 3 v3 (d := #[v0, v1, v2, v3, a4, a5, a6, a7, a8, a9, aA, aB]) rfl
    have e4 := row_setE e3 (Nat.succ_pos 11) 4 v4 (d := #[v0, v1, v2, v3, v4, a5, a6, a7, a8, a9, aA, aB]) rfl
    have e5 := row_setE e4 (Nat.succ_pos 11) 5 v5 (d := #[v0, v1, v2, v3, v4, v5, a6, a7, a8, a9, aA, aB]) rfl
    have e6 := row_setE e5 (Nat.succ_pos 11) 6 v6 (d := #[v0, v1, v2, v3, v4, v5, v6, a7, a8, a9, aA, aB]) rfl
    have e7 := row_setE e6 (Nat.succ_pos 11) 7 v7 (d := #[v0, v1, v2, v3, v4, v5, v6, v7, a8, a9, aA, aB]) rfl
    have e8 := row_setE e7 (Nat.succ_pos 11) 8 v8 (d := #[v0, v1, v2, v3, v4, v5, v6, v7, v8, a9, aA, aB]) rfl
    have e9 := row_setE e8 (Nat.succ_pos 11) 9 v9 (d := #[v0, v1, v2, v3, v4, v5, v6, v7, v8, v9, aA, aB]) rfl
    have eA := row_setE e9 (Nat.succ_pos 11) 10 vA (d := #[v0, v1, v2, v3, v4, v5, v6, v7, v8, v9, vA, aB]) rfl
    have eB := row_setE eA (Nat.succ_pos 11) 11 vB (d := #[v0, v1, v2, v3, v4, v5, v6, v7, v8, v9, vA, vB]) rfl
    exact eB
theorem sets12_tch (w : World) (g : Nat) (v0 v1 v2 v3 v4 v5 v6 v7 v8 v9 vA vB : Value) : Tch g w (sets12 w g v0 v1 v2 v3 v4 v5 v6 v7 v8 v9 vA vB) :=
  (((((((((((tch_own g 0 w v0).setCell 1 v1).setCell 2 v2).setCell 3 v3).setCell 4 v4).setCell 5 v5).setCell 6 v6).setCell 7 v7).setCell 8 v8).setCell 9 v9).setCell 10 vA).setCell 11 vB
theorem tch_below {g B : Nat} {a w w' : World} (h : Tch g w w') (hB : Below B a w) (hs : B ≤ w.heap.size) (hg : B ≤ g) : Below B a w' := (TchS.of_tch (S := fun k => k = g) h (fun _ => rfl)).below hB hs (fun k e => by omega)
structure NewL (w ω w' : World) (r : PR) (y : Sd) (vS vP vD : Value) : Prop where
  ks : KpsAt w' vS y.saved
  ps : StrsAt w' vP y.past
  ds : StrsAt w' vD y.draws
  of : ∀ k, k < ω.heap.size → Offs k r.vS r.vP r.vD → Offs k vS vP vD
  b1 : Below w.heap.size w ω
  b2 : Below ω.heap.size ω w'
def CutP (w : World) (r : PR) (y : Sd) (t : ByteArray) (c : Int) (v11 v12 v13 : Value) (wx : World) : Prop :=
  v12 = .string t ∧ v13 = .int .i64 c ∧ ∃ g vS vP vD, v11 = .pointer (some ⟨g, 0, none⟩) ∧ w.heap.size ≤ g ∧ wx.rowOf g = sideC y vS vP vD ∧ KpsAt wx vS y.saved ∧ StrsAt wx vP y.past ∧ StrsAt wx vD y.draws ∧ (∀ k, k < w.heap.size → Offs k r.vS r.vP r.vD → Offs k vS vP vD) ∧ Below w.heap.size w wx
section
variable {w ω w' : World} {r : PR} {y : Sd} {vS vP vD : Value} {t : ByteArray} {c : Int}
theorem NewL.below (h : NewL w ω w' r y vS vP vD) : Below w.heap.size w w' := below_lift h.b1 h.b1.size h.b2
theorem NewL.boxB (h : NewL w ω w' r y vS vP vD) : CutP w r y t c (.pointer (some ⟨w'.heap.size, 0, none⟩)) (.string t) (.int .i64 c) (w'.alloc (.cells #[.string y.root, .string y.self, .string (pubF y.self), .string y.theirs, .string y.send, .string y.read, .int .i64 (y.ns : Int), .int .i64 (y.nr : Int), .int .i64 (y.pn : Int), vS, vP, vD] 55)) :=
  ⟨rfl, rfl, w'.heap.size, vS, vP, vD, rfl, h.below.size, rowOf_new2 _ _ _ _ rfl, h.ks.below (by_alloc _ _), h.ps.below (by_alloc _ _), h.ds.below (by_alloc _ _), fun k hk q => h.of k (Nat.lt_of_lt_of_le hk h.b1.size) q, h.below.alloc h.below.size _⟩
theorem NewL.boxA (h : NewL w ω w' r y vS vP vD) (hf : Offs w.heap.size r.vS r.vP r.vD) (hω : ω.rowOf w.heap.size = side0) : CutP w r y t c (.pointer (some ⟨w.heap.size, 0, none⟩)) (.string t) (.int .i64 c) (sets12 w' w.heap.size (.string y.root) (.string y.self) (.string (pubF y.self)) (.string y.theirs) (.string y.send) (.string y.read) (.int .i64 (y.ns : Int)) (.int .i64 (y.nr : Int)) (.int .i64 (y.pn : Int)) vS vP vD) := by
  have hlt : w.heap.size < ω.heap.size := rowOf_lt (by rw [hω]; exact side0_pos)
  have hr : w'.rowOf w.heap.size = side0 := (below_row h.b2 (by rw [hω]; exact side0_pos)).trans hω
  have T := sets12_tch w' w.heap.size (.string y.root) (.string y.self) (.string (pubF y.self)) (.string y.theirs) (.string y.send) (.string y.read) (.int .i64 (y.ns : Int)) (.int .i64 (y.nr : Int)) (.int .i64 (y.pn : Int)) vS vP vD
  have O := h.of w.heap.size hlt hf
  exact ⟨rfl, rfl, w.heap.size, vS, vP, vD, rfl, Nat.le_refl _, sets12_row hr side0_size _ _ _ _ _ _ _ _ _ _ _ _, h.ks.tch T O.k, h.ps.tch T O.p, h.ds.tch T O.d, fun k hk q => h.of k (Nat.lt_of_lt_of_le hk h.b1.size) q, tch_below T h.below h.below.size (Nat.le_refl _)⟩
end
def putSide (w : World) (g : Nat) (y : Sd) (vS vP vD : Value) : World := w.setCells g 1 (sideC y vS vP vD).toList
theorem putSide_row {w : World} {g gs : Nat} {x : Sd} {uS uP uD : Value} (h : w.rowOf g = pairC gs x uS uP uD) (y : Sd) (vS vP vD : Value) : (putSide w g y vS vP vD).rowOf g = pairC gs y vS vP vD := by
  have e0 := row_setE h (Nat.succ_pos 12) 1 (.string y.root) (d := #[.pointer (some ⟨gs, 0, none⟩), .string y.root, .string x.self, .string (pubF x.self), .string x.theirs, .string x.send, .string x.read, .int .i64 (x.ns : Int), .int .i64 (x.nr : Int), .int .i64 (x.pn : Int), uS, uP, uD]) rfl
  have e1 := row_setE e0 (Nat.succ_pos 12) 2 (.string y.self) (d := #[.pointer (some ⟨gs, 0, none⟩), .string y.root, .string y.self, .string (pubF x.self), .string x.theirs, .string x.send, .string x.read, .int .i64 (x.ns : Int), .int .i64 (x.nr : Int), .int .i64 (x.pn : Int), uS, uP, uD]) rfl
  have e2 := row_setE e1 (Nat.succ_pos 12) 3 (.string (pubF y.self)) (d := #[.pointer (some ⟨gs, 0, none⟩), .string y.root, .string y.self, .string (pubF y.self), .string x.theirs, .string x.send, .string x.read, .int .i64 (x.ns : Int), .int .i64 (x.nr : Int), .int .i64 (x.pn : Int), uS, uP, uD]) rfl
  have e3 := row_setE e2 (Nat.succ_pos 12) 4 (.string y.theirs) (d := #[.pointer (some ⟨gs, 0, none⟩), .string y.root, .string y.self, .string (pubF y.self), .string y.theirs, .string x.send, .string x.read, .int .i64 (x.ns : Int), .int .i64 (x.nr : Int), .int .i64 (x.pn : Int), uS, uP, uD]) rfl
  have e4 := row_setE e3 (Nat.succ_pos 12) 5 (.string y.send) (d := #[.pointer (some ⟨gs, 0, none⟩), .string y.root, .string y.self, .string (pubF y.self), .string y.theirs, .string y.send, .string x.read, .int .i64 (x.ns : Int), .int .i64 (x.nr : Int), .int .i64 (x.pn : Int), uS, uP, uD]) rfl
  have e5 := row_setE e4 (Nat.succ_pos 12) 6 (.string y.read) (d := #[.pointer (some ⟨gs, 0, none⟩), .string y.root, .string y.self, .string (pubF y.self), .string y.theirs, .string y.send, .string y.read, .int .i64 (x.ns : Int), .int .i64 (x.nr : Int), .int .i64 (x.pn : Int), uS, uP, uD]) rfl
  have e6 := row_setE e5 (Nat.succ_pos 12) 7 (.int .i64 (y.ns : Int)) (d := #[.pointer (some ⟨gs, 0, none⟩), .string y.root, .string y.self, .string (pubF y.self), .string y.theirs, .string y.send, .string y.read, .int .i64 (y.ns : Int), .int .i64 (x.nr : Int), .int .i64 (x.pn : Int), uS, uP, uD]) rfl
  have e7 := row_setE e6 (Nat.succ_pos 12) 8 (.int .i64 (y.nr : Int)) (d := #[.pointer (some ⟨gs, 0, none⟩), .string y.root, .string y.self, .string (pubF y.self), .string y.theirs, .string y.send, .string y.read, .int .i64 (y.ns : Int), .int .i64 (y.nr : Int), .int .i64 (x.pn : Int), uS, uP, uD]) rfl
  have e8 := row_setE e7 (Nat.succ_pos 12) 9 (.int .i64 (y.pn : Int)) (d := #[.pointer (some ⟨gs, 0, none⟩), .string y.root, .string y.self, .string (pubF y.self), .string y.theirs, .string y.send, .string y.read, .int .i64 (y.ns : Int), .int .i64 (y.nr : Int), .int .i64 (y.pn : Int), uS, uP, uD]) rfl
  have e9 := row_setE e8 (Nat.succ_pos 12) 10 (vS) (d := #[.pointer (some ⟨gs, 0, none⟩), .string y.root, .string y.self, .string (pubF y.self), .string y.theirs, .string y.send, .string y.read, .int .i64 (y.ns : Int), .int .i64 (y.nr : Int), .int .i64 (y.pn : Int), vS, uP, uD]) rfl
  have eA := row_setE e9 (Nat.succ_pos 12) 11 (vP) (d := #[.pointer (some ⟨gs, 0, none⟩), .string y.root, .string y.self, .string (pubF y.self), .string y.theirs, .string y.send, .string y.read, .int .i64 (y.ns : Int), .int .i64 (y.nr : Int), .int .i64 (y.pn : Int), vS, vP, uD]) rfl
  have eB := row_setE eA (Nat.succ_pos 12) 12 (vD) (d := #[.pointer (some ⟨gs, 0, none⟩), .string y.root, .string y.self, .string (pubF y.self), .string y.theirs, .string y.send, .string y.read, .int .i64 (y.ns : Int), .int .i64 (y.nr : Int), .int .i64 (y.pn : Int), vS, vP, vD]) rfl
  exact eB
theorem putSide_tch (w : World) (g : Nat) (y : Sd) (vS vP vD : Value) : Tch g w (putSide w g y vS vP vD) :=
  (((((((((((tch_own g 1 w (.string y.root)).setCell 2 (.string y.self)).setCell 3 (.string (pubF y.self))).setCell 4 (.string y.theirs)).setCell 5 (.string y.send)).setCell 6 (.string y.read)).setCell 7 (.int .i64 (y.ns : Int))).setCell 8 (.int .i64 (y.nr : Int))).setCell 9 (.int .i64 (y.pn : Int))).setCell 10 vS).setCell 11 vP).setCell 12 vD
theorem pair_there {w : World} {g gs : Nat} {x : Sd} {uS uP uD : Value} (h : w.rowOf g = pairC gs x uS uP uD) (y : Sd) (vS vP vD : Value) : w.there g 1 (sideC y vS vP vD).size := by
  intro j hj
  have hj' : j < 12 := hj
  have q := cell_of_rowOf h (1 + j) (by rw [pairC_size]; omega)
  refine ⟨?_, q.2⟩
  rw [q.1, Array.getElem?_eq_getElem (by rw [pairC_size]; omega)]; rfl
theorem wpl_put {ops : Array Oper} {rest : List Oper} {o : Oper} {a : Act} {w : World} {Q : Exit → Act → World → Prop} (hgd : o.guard = none) (x z : Operand) (ho : o.op = .store 55 x z)
    (g : Nat) (y : Sd) (vS vP vD : Value) (hx : a.eval x = .pointer (some ⟨g, 1, none⟩)) (hz : a.eval z = .agg (sideC y vS vP vD)) (ht : w.there g 1 (sideC y vS vP vD).size) (h1 : (sideC y vS vP vD).all (·.oneCell') = true)
    (h : wpList Tryz.prog ops Q rest (a.put o.dst undef) (putSide w g y vS vP vD)) : wpList Tryz.prog ops Q (o :: rest) a w :=
  wpList_store_mid hgd _ x z ho g 1 _ hx hz ht iSide h1 h
theorem put_pair {w w1 wx : World} {r : PR} (hp : PairAt w r) (hne : r.gp ≠ r.gs) (op : r.Off r.gp) {y : Sd} (hwf : y.Wf) {vK vQ vE : Value} (T1 : Tch r.gs w w1) (s1 : SesAt w1 r.gs y vK vQ vE) (ok : ∀ k, k < w.heap.size → Offs k r.vK r.vQ r.vE → Offs k vK vQ vE) (bx : Below w1.heap.size w1 wx) {vS vP vD : Value} (hS : KpsAt wx vS y.saved) (hP : StrsAt wx vP y.past) (hD : StrsAt wx vD y.draws) (ov : ∀ k, k < w1.heap.size → Offs k r.vS r.vP r.vD → Offs k vS vP vD) :
    PairAt (putSide wx r.gp y vS vP vD) ⟨r.gp, r.gs, y, vS, vP, vD, vK, vQ, vE⟩ ∧ TchS (fun g => g = r.gp ∨ g = r.gs) w (putSide wx r.gp y vS vP vD) ∧ ∀ g, g < w.heap.size → r.Off g → PR.Off ⟨r.gp, r.gs, y, vS, vP, vD, vK, vQ, vE⟩ g := by
  have hlt := hp.lt
  have hl1 : r.gp < w1.heap.size := Nat.lt_of_lt_of_le hlt T1.size
  have row1 := pair_tch hp T1 hne
  have rowx : wx.rowOf r.gp = pairC r.gs r.x r.vS r.vP r.vD := (below_row bx (by rw [row1, pairC_size]; omega)).trans row1
  have Tp := putSide_tch wx r.gp y vS vP vD
  have T5 : TchS (fun g => g = r.gp ∨ g = r.gs) w (putSide wx r.gp y vS vP vD) := ((TchS.of_tch T1 (fun _ => Or.inr rfl)).trans (TchS.of_below bx)).trans (TchS.of_tch Tp (fun _ => Or.inl rfl))
  have O := ov r.gp hl1 op.s
  refine ⟨⟨hwf, putSide_row rowx y vS vP vD, hS.tch Tp O.k, hP.tch Tp O.p, hD.tch Tp O.d, (s1.below bx).tch Tp (Ne.symm hne) (ok r.gp hlt op.k)⟩, T5, fun g hg q => ⟨ov g (Nat.lt_of_lt_of_le hg T1.size) q.s, ok g hg q.k⟩⟩
theorem hearS_err {x : Sd} {m data : ByteArray} (h : (hearS x m data).2.2 ≠ 0) : (hearS x m data).1 = x := by
  unfold hearS at h ⊢
  split
  · rfl
  · next hm =>
    rw [if_neg hm] at h
    split
    · next i hi =>
      rw [hi] at h
      simp only at h
      split
      · next k hk =>
        rw [hk] at h
        simp only at h
        unfold hearK at h ⊢
        split
        · next q => rw [if_pos q] at h; exact absurd rfl h
        · rfl
      · rfl
    · next hi =>
      rw [hi] at h
      simp only at h
      split
      · next ht =>
        rw [if_pos ht] at h
        split
        · rfl
        · next q1 =>
          rw [if_neg q1] at h
          split
          · rfl
          · next q2 =>
            rw [if_neg q2] at h
            unfold hearC at h ⊢
            split
            · next q => rw [if_pos q] at h; exact absurd rfl h
            · rfl
      · next ht =>
        rw [if_neg ht] at h
        split
        · rfl
        · next q1 =>
          rw [if_neg q1] at h
          split
          · rfl
          · next q2 =>
            rw [if_neg q2] at h
            split
            · rfl
            · next q3 =>
              rw [if_neg q3] at h
              split
              · rfl
              · next q4 =>
                rw [if_neg q4] at h
                split
                · rfl
                · next d l hd =>
                  rw [hd] at h
                  simp only at h
                  split
                  · rfl
                  · next q5 =>
                    rw [if_neg q5] at h
                    unfold hearN at h ⊢
                    split
                    · next q => rw [if_pos q] at h; exact absurd rfl h
                    · rfl
end Go.Proofs.YteghoooelgcpkaaGreatDoor
