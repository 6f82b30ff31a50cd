import Derived.Maps.AppendAt
import Derived.Test.YteghoooelgcpkaaGreatDoorM24
namespace Go
open Go.RowKit
structure TchS (S : Nat → Prop) (w w' : World) : Prop where
  os : w'.os = w.os
  tape : w'.tape = w.tape
  output : w'.output = w.output
  size : w.heap.size ≤ w'.heap.size
  block : ∀ k, k < w.heap.size → ¬ S k → w'.heap[k]? = w.heap[k]?
section
variable {S S' : Nat → Prop} {g B : Nat} {a b c w w' : World}
theorem TchS.mono (h : TchS S w w') (hs : ∀ g, g < w.heap.size → S g → S' g) : TchS S' w w' := ⟨h.os, h.tape, h.output, h.size, fun k hk hn => h.block k hk (fun q => hn (hs k hk q))⟩
theorem TchS.trans (h : TchS S a b) (k : TchS S b c) : TchS S a c :=
  ⟨k.os.trans h.os, k.tape.trans h.tape, k.output.trans h.output, Nat.le_trans h.size k.size, fun i hi hg => (k.block i (Nat.lt_of_lt_of_le hi h.size) hg).trans (h.block i hi hg)⟩
theorem TchS.of_below (h : Below w.heap.size w w') : TchS S w w' := ⟨h.os, h.tape, h.output, h.size, fun k hk _ => h.block k hk⟩
theorem TchS.refl (S : Nat → Prop) (w : World) : TchS S w w := TchS.of_below (Below.refl _ _)
theorem TchS.of_tch (h : Tch g w w') (hg : g < w.heap.size → S g) : TchS S w w' := ⟨h.os, h.tape, h.output, h.size, fun k hk hn => h.block k hk (fun e => hn (by subst e; exact hg hk))⟩
theorem TchS.of_grown {r : Option Nat} (h : w.grownBy w' r) (hg : ∀ g, r = some g → S g) : TchS S w w' := ⟨h.os, h.tape, h.output, h.size, fun k hk hn => h.block k hk (fun e => hn (hg k e.symm))⟩
theorem TchS.below (h : TchS S w w') (hB : Below B a w) (hs : B ≤ w.heap.size) (hg : ∀ g, S g → B ≤ g) : Below B a w' :=
  ⟨h.os.trans hB.os, h.tape.trans hB.tape, h.output.trans hB.output, Nat.le_trans hB.size h.size, fun k hk => (h.block k (by omega) (fun q => by have := hg k q; omega)).trans (hB.block k hk)⟩
theorem TchS.cell (h : TchS S w w') {p : Addr} (hp : p.block < w.heap.size) (hg : ¬ S p.block) : w'.cell? p = w.cell? p := World.cell?_of_block (w := w) (h.block p.block hp hg)
theorem TchS.row (h : TchS S w w') {k : Nat} (hs : 0 < (w.rowOf k).size) (hg : ¬ S k) : w'.rowOf k = w.rowOf k := by
  have := h.block k (rowOf_lt hs) hg
  simp only [World.rowOf, this]
theorem TchS.owns (h : TchS S w w') {B e s n : Nat} {v : Value} {xs : List Value} (o : w.ownsRow B e s v n xs) (hg : ∀ g, v.ownBlock = some g → ¬ S g) : w'.ownsRow B e s v n xs := by
  refine ⟨o.1, ?_⟩
  rcases o.2 with h1 | ⟨g, cap, cur, hv, hb, hh, rest⟩
  · exact Or.inl h1
  · refine Or.inr ⟨g, cap, cur, hv, hb, ?_, rest⟩
    rw [h.block g (Array.getElem?_eq_some_iff.1 hh).1 (hg g (by rw [hv]; rfl))]; exact hh
end
theorem wpl_appendT {P : Program} {t e S B : Nat} (ht : P.underlying t = some (.slice e)) (hi : (P.info? e).map (fun i => (i.zero.map (fun z => z.cells.size), i.size, i.bytes)) = some (some S, S, B)) (hS0 : 0 < S) (hB : B ≤ 100) {ops : Array Oper} {rest : List Oper} {o : Oper} {a : Act} {w : World} {Q : Exit → Act → World → Prop} (hgd : o.guard = none) (s x : Operand)
    (ho : o.op = .call { callee := .builtin .append, args := #[s, x], argTypes := #[t, t] }) (base : Nat) (v : Value) (n : Nat) (xs : List Value) (hs : a.eval s = v) (hown : w.ownsRow base e S v n xs) (ad : Addr) (m c : Nat) (news : List Value)
    (hx : a.eval x = .slice (some ad) m c) (hm0 : 0 < m) (hl : news.length = m * S) (hz : ∀ j u, news[j]? = some u → w.cell? (ad.add j) = some u) (h1 : ∀ u ∈ news, u.oneCell' = true) (hn : n ≤ 4000000) (hm : m ≤ 1000000) (hb : base ≤ w.heap.size)
    (h : ∀ v' w', w'.ownsRow base e S v' (n + m) (xs ++ news) → w.grownBy w' v.ownBlock → (v'.ownBlock = v.ownBlock ∨ v'.ownBlock = some w.heap.size) → wpList P ops Q rest (a.put o.dst v') w') : wpList P ops Q (o :: rest) a w := by
  cases hq : P.info? e with
  | none => simp [hq] at hi
  | some i =>
    cases hzz : i.zero with
    | none => simp [hq, hzz] at hi
    | some z =>
      simp [hq, hzz] at hi
      obtain ⟨i1, i2, i3⟩ := hi
      refine wpList_append_own_at _ hgd s x t ho base e i z S B ht hq hzz i2 i3 i1 hS0 v n xs hs hown ad m c news hx hl hz h1 ?_ ?_ hb ?_
      · unfold maxLen; omega
      · have : (n + m) * B ≤ 5000000 * 100 := Nat.mul_le_mul (by omega) (by omega)
        omega
      · intro v' w' h2 h3 _ h4
        exact h v' w' h2 h3 h4
end Go
namespace Go.Proofs.YteghoooelgcpkaaGreatDoor
open Go.RowKit Go.Msg
section
variable {S : Nat → Prop} {w w' : World}
theorem StrsAt.tchS {v : Value} {l : List ByteArray} (h : StrsAt w v l) (hb : TchS S w w') (ho : ∀ g, S g → Off g v) : StrsAt w' v l := by
  obtain ⟨ao, cap, k, o, rfl, h2, h3, h4⟩ := h
  refine ⟨ao, cap, k, o, rfl, h2, h3, fun i t hi => ?_⟩
  have hl : 0 < l.length := Nat.lt_of_le_of_lt (Nat.zero_le _) (List.getElem?_eq_some_iff.1 hi).1
  have hk : ¬ S k := fun q => ho k q ⟨k, o, none⟩ l.length cap (by rw [h3 hl]) hl rfl
  rw [hb.cell (World.block_lt_of_cell? w _ (h4 i t hi)) hk]; exact h4 i t hi
theorem KpsAt.tchS {v : Value} {l : List Kp} (h : KpsAt w v l) (hb : TchS S w w') (ho : ∀ g, S g → Off g v) : KpsAt w' v l := by
  obtain ⟨ao, cap, k, o, rfl, h2, h3, h4⟩ := h
  refine ⟨ao, cap, k, o, rfl, h2, h3, fun i t hi => ?_⟩
  have hl : 0 < l.length := Nat.lt_of_le_of_lt (Nat.zero_le _) (List.getElem?_eq_some_iff.1 hi).1
  have hk : ¬ S k := fun q => ho k q ⟨k, o, none⟩ l.length cap (by rw [h3 hl]) hl rfl
  obtain ⟨a, b, c⟩ := h4 i t hi
  exact ⟨by rw [hb.cell (World.block_lt_of_cell? w _ a) hk]; exact a, by rw [hb.cell (World.block_lt_of_cell? w _ b) hk]; exact b, by rw [hb.cell (World.block_lt_of_cell? w _ c) hk]; exact c⟩
theorem SesAt.tchS {k : Nat} {x : Sd} {vK vP vD : Value} (h : SesAt w k x vK vP vD) (hb : TchS S w w') (hk : ¬ S k) (ho : ∀ g, S g → Offs g vK vP vD) : SesAt w' k x vK vP vD :=
  ⟨by rw [hb.row (by rw [h.row, sesC_size]; omega) hk]; exact h.row, h.vk.tchS hb (fun g q => (ho g q).k), h.vp.tchS hb (fun g q => (ho g q).p), h.vd.tchS hb (fun g q => (ho g q).d)⟩
theorem SesAt.fresh {k : Nat} {x : Sd} {vK vP vD : Value} (h : SesAt w k x vK vP vD) {g : Nat} (hg : w.heap.size ≤ g) : Offs g vK vP vD := ⟨h.vk.fresh hg, h.vp.fresh hg, h.vd.fresh hg⟩
end
structure PR where
  gp : Nat
  gs : Nat
  x : Sd
  vS : Value
  vP : Value
  vD : Value
  vK : Value
  vQ : Value
  vE : Value
def pairC (gs : Nat) (x : Sd) (vS vP vD : Value) : Array Value := #[.pointer (some ⟨gs, 0, none⟩), .string x.root, .string x.self, .string (pubF x.self), .string x.theirs, .string x.send, .string x.read, .int .i64 (x.ns : Int), .int .i64 (x.nr : Int), .int .i64 (x.pn : Int), vS, vP, vD]
theorem pairC_size (gs : Nat) (x : Sd) (vS vP vD : Value) : (pairC gs x vS vP vD).size = 13 := rfl
structure PairAt (w : World) (r : PR) : Prop where
  wf : r.x.Wf
  row : w.rowOf r.gp = pairC r.gs r.x r.vS r.vP r.vD
  ks : KpsAt w r.vS r.x.saved
  ps : StrsAt w r.vP r.x.past
  ds : StrsAt w r.vD r.x.draws
  ses : SesAt w r.gs r.x r.vK r.vQ r.vE
structure PR.Off (r : PR) (g : Nat) : Prop where
  s : Offs g r.vS r.vP r.vD
  k : Offs g r.vK r.vQ r.vE
section
variable {S : Nat → Prop} {w w' : World} {r : PR}
theorem PairAt.tchS (h : PairAt w r) (hb : TchS S w w') (h1 : ¬ S r.gp) (h2 : ¬ S r.gs) (ho : ∀ g, S g → r.Off g) : PairAt w' r :=
  ⟨h.wf, by rw [hb.row (by rw [h.row, pairC_size]; omega) h1]; exact h.row, h.ks.tchS hb (fun g q => (ho g q).s.k), h.ps.tchS hb (fun g q => (ho g q).s.p), h.ds.tchS hb (fun g q => (ho g q).s.d), h.ses.tchS hb h2 (fun g q => (ho g q).k)⟩
theorem PairAt.below (h : PairAt w r) (hb : Below w.heap.size w w') : PairAt w' r := h.tchS (S := fun _ => False) (TchS.of_below hb) id id (fun _ q => q.elim)
theorem PairAt.fresh (h : PairAt w r) {g : Nat} (hg : w.heap.size ≤ g) : r.Off g := ⟨⟨h.ks.fresh hg, h.ps.fresh hg, h.ds.fresh hg⟩, h.ses.fresh hg⟩
theorem PairAt.lt (h : PairAt w r) : r.gp < w.heap.size := rowOf_lt (by rw [h.row, pairC_size]; omega)
theorem PairAt.side (h : PairAt w r) : SideAt w (sideC r.x r.vS r.vP r.vD) r.x r.vS r.vP r.vD := ⟨rfl, h.ks, h.ps, h.ds⟩
end
def ptrCells (L : List PR) : List Value := L.map fun r => .pointer (some ⟨r.gp, 0, none⟩)
theorem ptrCells_length (L : List PR) : (ptrCells L).length = L.length := by simp [ptrCells]
theorem ptrCells_append (L K : List PR) : ptrCells (L ++ K) = ptrCells L ++ ptrCells K := by simp [ptrCells]
theorem ptrCells_set (L : List PR) (i : Nat) (r r' : PR) (h : L[i]? = some r) (hg : r'.gp = r.gp) : ptrCells (L.set i r') = ptrCells L := by
  apply List.ext_getElem?
  intro j
  simp only [ptrCells, List.getElem?_map, List.getElem?_set]
  by_cases e : i = j
  · subst e
    rw [h]
    have := (List.getElem?_eq_some_iff.1 h).1
    simp [this, hg]
  · simp [e]
structure LW (w0 : World) (gw : Nat) (pv : Value) (ρ : Nat → Nat) (w : World) (vp vm : Value) (L : List PR) (M : List ByteArray) (a b : ByteArray) : Prop where
  row : w.rowOf gw = #[pv, vp, vm, .string a, .string b]
  bl : Below w0.heap.size w0 w
  pr : PrimAt w0 pv
  tb : Tbl w0
  rb : ∀ g, g < w0.heap.size → ρ g = 0
  rf : ∀ g, w.heap.size ≤ g → ρ g = 0
  rw : ρ gw = 1
  op : w.ownsRow w0.heap.size 36 1 vp L.length (ptrCells L)
  rp : ∀ g, vp.ownBlock = some g → ρ g = 2
  om : w.ownsRow w0.heap.size 9 1 vm M.length (strCells M)
  rm : ∀ g, vm.ownBlock = some g → ρ g = 3
  pa : ∀ i r, L[i]? = some r → PairAt w r ∧ ρ r.gp = 4 + 2 * i ∧ ρ r.gs = 5 + 2 * i ∧ ∀ g, ρ g ≠ 0 → r.Off g
  ms : ∀ m ∈ M, m.size ≤ 1000
  sz : b.size ≤ 9223372036854775807
section
variable {w0 w w' : World} {gw : Nat} {pv : Value} {ρ : Nat → Nat} {vp vm : Value} {L : List PR} {M : List ByteArray} {a b : ByteArray} {S : Nat → Prop}
theorem LW.lt (h : LW w0 gw pv ρ w vp vm L M a b) : gw < w.heap.size := rowOf_lt (by rw [h.row]; exact Nat.succ_pos 4)
theorem LW.prim (h : LW w0 gw pv ρ w vp vm L M a b) : PrimAt w pv := h.pr.below h.bl
theorem LW.tbl (h : LW w0 gw pv ρ w vp vm L M a b) : Tbl w := h.tb.below h.bl
theorem LW.old (h : LW w0 gw pv ρ w vp vm L M a b) {g : Nat} (hg : ρ g ≠ 0) : w0.heap.size ≤ g := by
  by_cases q : g < w0.heap.size
  · exact absurd (h.rb g q) hg
  · omega
theorem LW.bl' (h : LW w0 gw pv ρ w vp vm L M a b) (t : TchS S w w') (hS : ∀ g, S g → ρ g ≠ 0) : Below w0.heap.size w0 w' := t.below h.bl h.bl.size (fun g q => h.old (hS g q))
theorem LW.pa' (h : LW w0 gw pv ρ w vp vm L M a b) (t : TchS S w w') (hS : ∀ g, S g → ρ g ≠ 0) {i : Nat} {r : PR} (hi : L[i]? = some r) (h1 : ¬ S r.gp) (h2 : ¬ S r.gs) : PairAt w' r ∧ ρ r.gp = 4 + 2 * i ∧ ρ r.gs = 5 + 2 * i ∧ ∀ g, ρ g ≠ 0 → r.Off g := by
  obtain ⟨p1, p2, p3, p4⟩ := h.pa i r hi
  exact ⟨p1.tchS t h1 h2 (fun g q => p4 g (hS g q)), p2, p3, p4⟩
theorem LW.rf' (h : LW w0 gw pv ρ w vp vm L M a b) (hs : w.heap.size ≤ w'.heap.size) : ∀ g, w'.heap.size ≤ g → ρ g = 0 := fun g hg => h.rf g (by omega)
theorem LW.below (h : LW w0 gw pv ρ w vp vm L M a b) (hb : Below w.heap.size w w') : LW w0 gw pv ρ w' vp vm L M a b := by
  have t : TchS (fun _ => False) w w' := TchS.of_below hb
  exact ⟨by rw [t.row (by rw [h.row]; exact Nat.succ_pos 4) id]; exact h.row, h.bl' t (fun _ q => q.elim), h.pr, h.tb, h.rb, h.rf' hb.size, h.rw, t.owns h.op (fun _ _ => id), h.rp, t.owns h.om (fun _ _ => id), h.rm, fun i r hi => h.pa' t (fun _ q => q.elim) hi id id, h.ms, h.sz⟩
theorem LW.own (h : LW w0 gw pv ρ w vp vm L M a b) (j : Nat) (v : Value) (vp' vm' : Value) (M' : List ByteArray) (a' b' : ByteArray) (hr : (#[pv, vp, vm, .string a, .string b] : Array Value).setIfInBounds j v = #[pv, vp', vm', .string a', .string b'])
    (op : w.ownsRow w0.heap.size 36 1 vp' L.length (ptrCells L)) (rp : ∀ g, vp'.ownBlock = some g → ρ g = 2) (om : w.ownsRow w0.heap.size 9 1 vm' M'.length (strCells M')) (rm : ∀ g, vm'.ownBlock = some g → ρ g = 3) (ms : ∀ m ∈ M', m.size ≤ 1000) (sz : b'.size ≤ 9223372036854775807) :
    LW w0 gw pv ρ (w.setCell ⟨gw, j, none⟩ v) vp' vm' L M' a' b' ∧ TchS (fun g => ρ g ≠ 0) w (w.setCell ⟨gw, j, none⟩ v) := by
  have t : TchS (fun g => g = gw) w (w.setCell ⟨gw, j, none⟩ v) := TchS.of_tch (tch_own gw j w v) (fun _ => rfl)
  have hS : ∀ g, g = gw → ρ g ≠ 0 := fun g e => by rw [e, h.rw]; decide
  have nS : ∀ g, ρ g ≠ 1 → ¬ g = gw := fun g hg e => hg (by rw [e]; exact h.rw)
  refine ⟨⟨?_, h.bl' t hS, h.pr, h.tb, h.rb, h.rf' t.size, h.rw, t.owns op (fun g q => nS g (by rw [rp g q]; decide)), rp, t.owns om (fun g q => nS g (by rw [rm g q]; decide)), rm, fun i r hi => h.pa' t hS hi (nS _ (by rw [(h.pa i r hi).2.1]; omega)) (nS _ (by rw [(h.pa i r hi).2.2.1]; omega)), ms, sz⟩, t.mono (fun g _ q => hS g q)⟩
  rw [rowOf_setCell h.row (Nat.succ_pos 4), hr]
theorem LW.point (h : LW w0 gw pv ρ w vp vm L M a b) (s : ByteArray) : LW w0 gw pv ρ (w.setCell ⟨gw, 3, none⟩ (.string s)) vp vm L M s b ∧ TchS (fun g => ρ g ≠ 0) w (w.setCell ⟨gw, 3, none⟩ (.string s)) :=
  h.own 3 (.string s) vp vm M s b rfl h.op h.rp h.om h.rm h.ms h.sz
theorem LW.state (h : LW w0 gw pv ρ w vp vm L M a b) (s : ByteArray) (hs : s.size ≤ 9223372036854775807) : LW w0 gw pv ρ (w.setCell ⟨gw, 4, none⟩ (.string s)) vp vm L M a s ∧ TchS (fun g => ρ g ≠ 0) w (w.setCell ⟨gw, 4, none⟩ (.string s)) :=
  h.own 4 (.string s) vp vm M a s rfl h.op h.rp h.om h.rm h.ms hs
theorem LW.c0 (h : LW w0 gw pv ρ w vp vm L M a b) : w.cell? ⟨gw, 0, none⟩ = some pv := rowcell h.row 0 _ rfl
theorem LW.c1 (h : LW w0 gw pv ρ w vp vm L M a b) : w.cell? ⟨gw, 1, none⟩ = some vp := rowcell h.row 1 _ rfl
theorem LW.c2 (h : LW w0 gw pv ρ w vp vm L M a b) : w.cell? ⟨gw, 2, none⟩ = some vm := rowcell h.row 2 _ rfl
theorem LW.c3 (h : LW w0 gw pv ρ w vp vm L M a b) : w.cell? ⟨gw, 3, none⟩ = some (.string a) := rowcell h.row 3 _ rfl
theorem LW.c4 (h : LW w0 gw pv ρ w vp vm L M a b) : w.cell? ⟨gw, 4, none⟩ = some (.string b) := rowcell h.row 4 _ rfl
theorem LW.z (h : LW w0 gw pv ρ w vp vm L M a b) (j : Nat) (hj : j < 5) : w.frozen? ⟨gw, j, none⟩ = false := rowfz2 h.row j hj
theorem LW.pair (h : LW w0 gw pv ρ w vp vm L M a b) {i : Nat} {r : PR} (hi : L[i]? = some r) (t : TchS (fun g => g = r.gp ∨ g = r.gs) w w') (r' : PR) (h' : PairAt w' r') (e1 : r'.gp = r.gp) (e2 : r'.gs = r.gs) (ho : ∀ g, g < w.heap.size → r.Off g → r'.Off g) :
    LW w0 gw pv ρ w' vp vm (L.set i r') M a b ∧ TchS (fun g => ρ g ≠ 0) w w' := by
  obtain ⟨p1, p2, p3, p4⟩ := h.pa i r hi
  have hS : ∀ g, g = r.gp ∨ g = r.gs → ρ g ≠ 0 := fun g q => by rcases q with e | e <;> rw [e] <;> omega
  have nS : ∀ g, ρ g ≠ 4 + 2 * i → ρ g ≠ 5 + 2 * i → ¬ (g = r.gp ∨ g = r.gs) := fun g q1 q2 q => by
    rcases q with e | e
    · exact q1 (by rw [e]; exact p2)
    · exact q2 (by rw [e]; exact p3)
  refine ⟨⟨?_, h.bl' t hS, h.pr, h.tb, h.rb, h.rf' t.size, h.rw, ?_, h.rp, t.owns h.om (fun g q => nS g (by rw [h.rm g q]; omega) (by rw [h.rm g q]; omega)), h.rm, fun j q hj => ?_, h.ms, h.sz⟩, t.mono (fun g _ q => hS g q)⟩
  · rw [t.row (by rw [h.row]; exact Nat.succ_pos 4) (nS gw (by rw [h.rw]; omega) (by rw [h.rw]; omega))]; exact h.row
  · rw [ptrCells_set L i r r' hi e1, List.length_set]
    exact t.owns h.op (fun g q => nS g (by rw [h.rp g q]; omega) (by rw [h.rp g q]; omega))
  · rw [List.getElem?_set] at hj
    by_cases e : i = j
    · subst e
      rw [if_pos rfl] at hj
      split at hj
      · cases hj
        refine ⟨h', by rw [e1]; exact p2, by rw [e2]; exact p3, fun g hg => ho g ?_ (p4 g hg)⟩
        by_cases q : g < w.heap.size
        · exact q
        · exact absurd (h.rf g (by omega)) hg
      · cases hj
    · rw [if_neg e] at hj
      obtain ⟨q1, q2, q3, q4⟩ := h.pa j q hj
      exact h.pa' t hS hj (nS _ (by omega) (by omega)) (nS _ (by omega) (by omega))
theorem LW.fresh (h : LW w0 gw pv ρ w vp vm L M a b) {g : Nat} (hg : w.heap.size ≤ g) : ∀ r ∈ L, r.Off g := fun r hr => by
  obtain ⟨i, hi⟩ := List.getElem?_of_mem hr
  exact (h.pa i r hi).1.fresh hg
theorem LW.more (h : LW w0 gw pv ρ w vp vm L M a b) (m : ByteArray) (hm : m.size ≤ 1000) {w3 w4 : World} {v : Value} (B3 : Below w.heap.size w w3) (hg : w3.grownBy w4 vm.ownBlock) (ho : w4.ownsRow w0.heap.size 9 1 v (M.length + 1) (strCells M ++ [.string m])) (hv : v.ownBlock = vm.ownBlock ∨ v.ownBlock = some w3.heap.size) :
    ∃ ρ', LW w0 gw pv ρ' (w4.setCell ⟨gw, 2, none⟩ v) vp v L (M ++ [m]) a b ∧ TchS (fun g => ρ g ≠ 0) w (w4.setCell ⟨gw, 2, none⟩ v) := by
  have h3 := h.below B3
  have t4 : TchS (fun g => vm.ownBlock = some g) w3 w4 := TchS.of_grown hg (fun g e => e)
  have hS : ∀ g, vm.ownBlock = some g → ρ g ≠ 0 := fun g e => by rw [h.rm g e]; decide
  have nS : ∀ g, ρ g ≠ 3 → ¬ vm.ownBlock = some g := fun g hg e => hg (h.rm g e)
  obtain ⟨ρ', hρ⟩ : ∃ ρ' : Nat → Nat, ρ' = fun g => if v.ownBlock = some g then 3 else ρ g := ⟨_, rfl⟩
  have hsame : ∀ g, ρ g ≠ 0 → ρ' g = ρ g := fun g hg' => by
    rw [hρ]
    show (if v.ownBlock = some g then 3 else ρ g) = ρ g
    split
    · next e =>
      rcases hv with e2 | e2
      · rw [h.rm g (by rw [← e2]; exact e)]
      · rw [e2] at e; cases e; exact absurd (h3.rf _ (Nat.le_refl _)) hg'
    · rfl
  have hcase : ∀ g, ρ' g ≠ 0 → ρ g ≠ 0 ∨ g = w3.heap.size := fun g hg' => by
    by_cases e : v.ownBlock = some g
    · rcases hv with e2 | e2
      · left; rw [h.rm g (by rw [← e2]; exact e)]; decide
      · right; rw [e2] at e; exact (Option.some.inj e).symm
    · left; intro q; apply hg'; rw [hρ]; show (if v.ownBlock = some g then 3 else ρ g) = 0; rw [if_neg e]; exact q
  have w34 := hg.size
  have sz4 : ∀ g, v.ownBlock = some g → g < w4.heap.size := fun g e => (ho.lt g e).2
  have L4 : ∀ i r, L[i]? = some r → PairAt w4 r ∧ ρ' r.gp = 4 + 2 * i ∧ ρ' r.gs = 5 + 2 * i ∧ ∀ g, ρ' g ≠ 0 → r.Off g := fun i r hi => by
    obtain ⟨q1, q2, q3, q4⟩ := h3.pa i r hi
    obtain ⟨p1, _, _, _⟩ := h3.pa' t4 hS hi (nS _ (by omega)) (nS _ (by omega))
    refine ⟨p1, by rw [hsame _ (by omega)]; exact q2, by rw [hsame _ (by omega)]; exact q3, fun g hg' => ?_⟩
    rcases hcase g hg' with e | e
    · exact q4 g e
    · exact q1.fresh (by omega)
  have t5 : TchS (fun g => g = gw) w4 (w4.setCell ⟨gw, 2, none⟩ v) := TchS.of_tch (tch_own gw 2 w4 v) (fun _ => rfl)
  have r4 : w4.rowOf gw = #[pv, vp, vm, .string a, .string b] := by
    rw [t4.row (by rw [h3.row]; exact Nat.succ_pos 4) (nS gw (by rw [h.rw]; decide))]; exact h3.row
  have n5 : ∀ g, ρ' g ≠ 1 → ¬ g = gw := fun g hg' e => hg' (by rw [e, hsame gw (by rw [h.rw]; decide)]; exact h.rw)
  have hS5 : ∀ g, g = gw → ρ g ≠ 0 := fun g e => by rw [e, h.rw]; decide
  have rm' : ∀ g, v.ownBlock = some g → ρ' g = 3 := fun g e => by rw [hρ]; show (if v.ownBlock = some g then 3 else ρ g) = 3; rw [if_pos e]
  have bl4 := h3.bl' t4 hS
  have bl5 : Below w0.heap.size w0 (w4.setCell ⟨gw, 2, none⟩ v) := t5.below bl4 bl4.size (fun g e => h.old (hS5 g e))
  refine ⟨ρ', ⟨?_, bl5, h.pr, h.tb, ?_, ?_, by rw [hsame gw (by rw [h.rw]; decide)]; exact h.rw, ?_, ?_, ?_, rm', ?_, ?_, h.sz⟩, ?_⟩
  · rw [rowOf_setCell r4 (Nat.succ_pos 4)]; rfl
  · intro g hg'
    by_cases q : ρ' g = 0
    · exact q
    · rcases hcase g q with e | e
      · exact absurd (h.rb g hg') e
      · have := h3.bl.size; omega
  · intro g hg'
    have hg2 : w4.heap.size ≤ g := by simpa using hg'
    by_cases q : ρ' g = 0
    · exact q
    · by_cases e : v.ownBlock = some g
      · have := sz4 g e; omega
      · rw [hρ]; show (if v.ownBlock = some g then 3 else ρ g) = 0; rw [if_neg e]; exact h3.rf g (by omega)
  · exact t5.owns (t4.owns h3.op (fun g q => nS g (by rw [h.rp g q]; decide))) (fun g q => n5 g (by rw [hsame g (by rw [h.rp g q]; decide), h.rp g q]; decide))
  · intro g q; rw [hsame g (by rw [h.rp g q]; decide)]; exact h.rp g q
  · rw [List.length_append, strCells_append]; exact t5.owns ho (fun g q => n5 g (by rw [rm' g q]; decide))
  · intro i r hi
    obtain ⟨p1, p2, p3, p4⟩ := L4 i r hi
    exact ⟨p1.tchS t5 (n5 _ (by omega)) (n5 _ (by omega)) (fun g e => p4 g (by rw [hsame g (hS5 g e)]; exact hS5 g e)), p2, p3, p4⟩
  · intro m' hm'
    rcases List.mem_append.1 hm' with e | e
    · exact h.ms m' e
    · rw [List.mem_singleton.1 e]; exact hm
  · refine (TchS.of_below B3).trans ((t4.mono (fun g _ e => hS g e)).trans (t5.mono (fun g _ e => hS5 g e)))
theorem LW.kept (h : LW w0 gw pv ρ w vp vm L M a b) (r : PR) (h0 : ρ r.gs = 0) (hb : w0.heap.size ≤ r.gs) (hlt : r.gs < w.heap.size) (hold : ∀ q ∈ L, q.Off r.gs) (hnew : ∀ g, ρ g ≠ 0 ∨ g = r.gs → r.Off g) {w3 w4 : World} {v : Value} (hgp : w.heap.size ≤ r.gp) (hgp3 : r.gp < w3.heap.size) (B3 : Below w.heap.size w w3) (hr : PairAt w3 r)
    (hro : r.Off r.gp ∧ r.Off w3.heap.size) (hg : w3.grownBy w4 vp.ownBlock) (ho : w4.ownsRow w0.heap.size 36 1 v (L.length + 1) (ptrCells L ++ [.pointer (some ⟨r.gp, 0, none⟩)])) (hv : v.ownBlock = vp.ownBlock ∨ v.ownBlock = some w3.heap.size) :
    ∃ ρ', LW w0 gw pv ρ' (w4.setCell ⟨gw, 1, none⟩ v) v vm (L ++ [r]) M a b ∧ TchS (fun g => ρ g ≠ 0) w (w4.setCell ⟨gw, 1, none⟩ v) := by
  have h3 := h.below B3
  have t4 : TchS (fun g => vp.ownBlock = some g) w3 w4 := TchS.of_grown hg (fun g e => e)
  have hS : ∀ g, vp.ownBlock = some g → ρ g ≠ 0 := fun g e => by rw [h.rp g e]; decide
  have nS : ∀ g, ρ g ≠ 2 → ¬ vp.ownBlock = some g := fun g hg e => hg (h.rp g e)
  have hgp0 : ρ r.gp = 0 := h.rf _ hgp
  have hne : r.gs ≠ r.gp := by omega
  have hgwlt := h.lt
  have vne : ∀ g, v.ownBlock = some g → g ≠ r.gs ∧ g ≠ r.gp := fun g e => by
    rcases hv with e2 | e2
    · have e3 := h.rp g (by rw [← e2]; exact e)
      refine ⟨fun q => ?_, fun q => ?_⟩
      · rw [q, h0] at e3; omega
      · rw [q, hgp0] at e3; omega
    · rw [e2] at e; cases e
      have := B3.size
      omega
  obtain ⟨ρ', hρ⟩ : ∃ ρ' : Nat → Nat, ρ' = fun g => if g = r.gs then 5 + 2 * L.length else if g = r.gp then 4 + 2 * L.length else if v.ownBlock = some g then 2 else ρ g := ⟨_, rfl⟩
  have e1 : ρ' r.gs = 5 + 2 * L.length := by rw [hρ]; show (if r.gs = r.gs then _ else _) = _; rw [if_pos rfl]
  have e2 : ρ' r.gp = 4 + 2 * L.length := by rw [hρ]; show (if r.gp = r.gs then _ else if r.gp = r.gp then _ else _) = _; rw [if_neg (Ne.symm hne), if_pos rfl]
  have e3 : ∀ g, v.ownBlock = some g → ρ' g = 2 := fun g e => by
    rw [hρ]; show (if g = r.gs then _ else if g = r.gp then _ else if v.ownBlock = some g then 2 else ρ g) = 2
    rw [if_neg (vne g e).1, if_neg (vne g e).2, if_pos e]
  have e4 : ∀ g, g ≠ r.gs → g ≠ r.gp → v.ownBlock ≠ some g → ρ' g = ρ g := fun g n1 n2 n3 => by
    rw [hρ]; show (if g = r.gs then _ else if g = r.gp then _ else if v.ownBlock = some g then 2 else ρ g) = _
    rw [if_neg n1, if_neg n2, if_neg n3]
  have hsame : ∀ g, ρ g ≠ 0 → ρ' g = ρ g := fun g hg' => by
    by_cases e : v.ownBlock = some g
    · rw [e3 g e]
      rcases hv with q | q
      · rw [h.rp g (by rw [← q]; exact e)]
      · rw [q] at e; cases e; exact absurd (h3.rf _ (Nat.le_refl _)) hg'
    · exact e4 g (fun q => hg' (by rw [q]; exact h0)) (fun q => hg' (by rw [q]; exact hgp0)) e
  have hcase : ∀ g, ρ' g ≠ 0 → ρ g ≠ 0 ∨ g = r.gs ∨ g = r.gp ∨ g = w3.heap.size := fun g hg' => by
    by_cases q1 : g = r.gs
    · exact Or.inr (Or.inl q1)
    · by_cases q2 : g = r.gp
      · exact Or.inr (Or.inr (Or.inl q2))
      · by_cases e : v.ownBlock = some g
        · rcases hv with q | q
          · left; rw [h.rp g (by rw [← q]; exact e)]; decide
          · rw [q] at e; exact Or.inr (Or.inr (Or.inr (Option.some.inj e).symm))
        · left; rw [← e4 g q1 q2 e]; exact hg'
  have w34 := hg.size
  have w13 := B3.size
  have sz4 : ∀ g, v.ownBlock = some g → g < w4.heap.size := fun g e => (ho.lt g e).2
  have hro' : ∀ g, ρ' g ≠ 0 → r.Off g := fun g hg' => by
    rcases hcase g hg' with e | e | e | e
    · exact hnew g (Or.inl e)
    · exact hnew g (Or.inr e)
    · rw [e]; exact hro.1
    · rw [e]; exact hro.2
  have r4' : PairAt w4 r := hr.tchS t4 (nS _ (by rw [hgp0]; decide)) (nS _ (by rw [h0]; decide)) (fun g e => hnew g (Or.inl (hS g e)))
  have L4 : ∀ i q, (L ++ [r])[i]? = some q → PairAt w4 q ∧ ρ' q.gp = 4 + 2 * i ∧ ρ' q.gs = 5 + 2 * i ∧ ∀ g, ρ' g ≠ 0 → q.Off g := fun i q hi => by
    by_cases hil : i < L.length
    · rw [List.getElem?_append_left hil] at hi
      obtain ⟨q1, q2, q3, q4⟩ := h3.pa i q hi
      obtain ⟨p1, _, _, _⟩ := h3.pa' t4 hS hi (nS _ (by omega)) (nS _ (by omega))
      refine ⟨p1, by rw [hsame _ (by omega)]; exact q2, by rw [hsame _ (by omega)]; exact q3, fun g hg' => ?_⟩
      rcases hcase g hg' with e | e | e | e
      · exact q4 g e
      · rw [e]; exact hold q (List.mem_of_getElem? hi)
      · rw [e]; exact (h.pa i q hi).1.fresh hgp
      · rw [e]; exact q1.fresh (Nat.le_refl _)
    · rw [List.getElem?_append_right (by omega)] at hi
      have hi0 : i - L.length = 0 := by
        have := (List.getElem?_eq_some_iff.1 hi).1
        simp at this; omega
      have hiL : i = L.length := by omega
      rw [hi0] at hi
      have hq : r = q := by simpa using hi
      subst hq hiL
      exact ⟨r4', e2, e1, hro'⟩
  have t5 : TchS (fun g => g = gw) w4 (w4.setCell ⟨gw, 1, none⟩ v) := TchS.of_tch (tch_own gw 1 w4 v) (fun _ => rfl)
  have r4 : w4.rowOf gw = #[pv, vp, vm, .string a, .string b] := by
    rw [t4.row (by rw [h3.row]; exact Nat.succ_pos 4) (nS gw (by rw [h.rw]; decide))]; exact h3.row
  have n5 : ∀ g, ρ' g ≠ 1 → ¬ g = gw := fun g hg' e => hg' (by rw [e, hsame gw (by rw [h.rw]; decide)]; exact h.rw)
  have hS5 : ∀ g, g = gw → ρ g ≠ 0 := fun g e => by rw [e, h.rw]; decide
  have bl4 := h3.bl' t4 hS
  have bl5 : Below w0.heap.size w0 (w4.setCell ⟨gw, 1, none⟩ v) := t5.below bl4 bl4.size (fun g e => h.old (hS5 g e))
  have hb3 := h3.bl.size
  refine ⟨ρ', ⟨?_, bl5, h.pr, h.tb, ?_, ?_, by rw [hsame gw (by rw [h.rw]; decide)]; exact h.rw, ?_, e3, ?_, ?_, ?_, h.ms, h.sz⟩, ?_⟩
  · rw [rowOf_setCell r4 (Nat.succ_pos 4)]; rfl
  · intro g hg'
    by_cases q : ρ' g = 0
    · exact q
    · rcases hcase g q with e | e | e | e
      · exact absurd (h.rb g hg') e
      · omega
      · omega
      · omega
  · intro g hg'
    have hg2 : w4.heap.size ≤ g := by simpa using hg'
    by_cases q : ρ' g = 0
    · exact q
    · rcases hcase g q with e | e | e | e
      · exact absurd (h3.rf g (by omega)) e
      · omega
      · omega
      · by_cases e' : v.ownBlock = some g
        · have := sz4 g e'; omega
        · rw [e4 g (by omega) (by omega) e']; exact h3.rf g (by omega)
  · rw [List.length_append, ptrCells_append]; exact t5.owns ho (fun g q => n5 g (by rw [e3 g q]; decide))
  · exact t5.owns (t4.owns h3.om (fun g q => nS g (by rw [h.rm g q]; decide))) (fun g q => n5 g (by rw [hsame g (by rw [h.rm g q]; decide), h.rm g q]; decide))
  · intro g q; rw [hsame g (by rw [h.rm g q]; decide)]; exact h.rm g q
  · intro i q hi
    obtain ⟨p1, p2, p3, p4⟩ := L4 i q hi
    exact ⟨p1.tchS t5 (n5 _ (by omega)) (n5 _ (by omega)) (fun g e => p4 g (by rw [hsame g (hS5 g e)]; exact hS5 g e)), p2, p3, p4⟩
  · refine (TchS.of_below B3).trans ((t4.mono (fun g _ e => hS g e)).trans (t5.mono (fun g _ e => hS5 g e)))
end
def LWs (w0 : World) (gw : Nat) (pv : Value) (n : Nat) (ρ : Nat → Nat) (w : World) : Prop := ∃ vp vm L M a b, LW w0 gw pv ρ w vp vm L M a b ∧ L.length ≤ n ∧ M.length ≤ n
def Nxt (w0 : World) (gw : Nat) (pv : Value) (n : Nat) (ρ : Nat → Nat) (w w' : World) : Prop := TchS (fun g => ρ g ≠ 0) w w' ∧ ∃ ρ', LWs w0 gw pv n ρ' w'
section
variable {w0 w w' w1 : World} {gw n m : Nat} {pv : Value} {ρ : Nat → Nat}
theorem LWs.below (h : LWs w0 gw pv n ρ w) (hb : Below w.heap.size w w') : LWs w0 gw pv n ρ w' := by
  obtain ⟨vp, vm, L, M, a, b, h, h1, h2⟩ := h
  exact ⟨vp, vm, L, M, a, b, h.below hb, h1, h2⟩
theorem LWs.mono (h : LWs w0 gw pv n ρ w) (hn : n ≤ m) : LWs w0 gw pv m ρ w := by
  obtain ⟨vp, vm, L, M, a, b, h, h1, h2⟩ := h
  exact ⟨vp, vm, L, M, a, b, h, Nat.le_trans h1 hn, Nat.le_trans h2 hn⟩
theorem Nxt.mono (h : Nxt w0 gw pv n ρ w w') (hn : n ≤ m) : Nxt w0 gw pv m ρ w w' := by
  obtain ⟨t, ρ', h'⟩ := h
  exact ⟨t, ρ', h'.mono hn⟩
theorem Nxt.pre (h : Nxt w0 gw pv n ρ w1 w') (hb : Below w.heap.size w w1) : Nxt w0 gw pv n ρ w w' := ⟨(TchS.of_below hb).trans h.1, h.2⟩
theorem Nxt.post (h : Nxt w0 gw pv n ρ w w1) (hb : Below w1.heap.size w1 w') : Nxt w0 gw pv n ρ w w' := ⟨h.1.trans (TchS.of_below hb), by obtain ⟨_, ρ', h'⟩ := h; exact ⟨ρ', h'.below hb⟩⟩
theorem Nxt.of_below (h : LWs w0 gw pv n ρ w) (hb : Below w.heap.size w w') : Nxt w0 gw pv n ρ w w' := ⟨TchS.of_below hb, ρ, h.below hb⟩
theorem Nxt.of {vp vm : Value} {L : List PR} {M : List ByteArray} {a b : ByteArray} {ρ' : Nat → Nat} (t : TchS (fun g => ρ g ≠ 0) w w') (h : LW w0 gw pv ρ' w' vp vm L M a b) (h1 : L.length ≤ n) (h2 : M.length ≤ n) : Nxt w0 gw pv n ρ w w' := ⟨t, ρ', _, _, _, _, _, _, h, h1, h2⟩
end
end Go.Proofs.YteghoooelgcpkaaGreatDoor
namespace Go.Proofs.YteghoooelgcpkaaGreatDoor
open Go.RowKit Go.Msg
theorem iPair : (Tryz.prog.info? 36).map (fun i => (i.zero.map (fun z => z.cells.size), i.size, i.bytes)) = some (some 1, 1, 8) := by kernel_rfl
theorem keep_box (w : World) (gs : Nat) (x : Sd) (vS vP vD : Value) : ∃ W, W = (w.alloc (.cells #[.string x.root, .string x.self, .string (pubF x.self), .string x.theirs, .string x.send, .string x.read, .int .i64 (x.ns : Int), .int .i64 (x.nr : Int), .int .i64 (x.pn : Int), vS, vP, vD] 55)).alloc (.cells #[.pointer (some ⟨gs, 0, none⟩), .string x.root, .string x.self, .string (pubF x.self), .string x.theirs, .string x.send, .string x.read, .int .i64 (x.ns : Int), .int .i64 (x.nr : Int), .int .i64 (x.pn : Int), vS, vP, vD] 61) ∧
    W.rowOf (w.heap.size + 1) = pairC gs x vS vP vD ∧ Below w.heap.size w W ∧ W.heap.size = w.heap.size + 2 :=
  ⟨_, rfl, by rw [rowOf_new2 _ _ _ _ (by simp)]; rfl, by_alloc2 w _ _, by simp⟩
theorem lw_c1 {w : World} {g : Nat} {pv vp vm : Value} {a b : ByteArray} (h : w.rowOf g = #[pv, vp, vm, .string a, .string b]) : w.cell? ⟨g, 1, none⟩ = some vp := rowcell h 1 _ rfl
theorem lw_c2 {w : World} {g : Nat} {pv vp vm : Value} {a b : ByteArray} (h : w.rowOf g = #[pv, vp, vm, .string a, .string b]) : w.cell? ⟨g, 2, none⟩ = some vm := rowcell h 2 _ rfl
theorem lw_z {w : World} {g : Nat} {pv vp vm : Value} {a b : ByteArray} (h : w.rowOf g = #[pv, vp, vm, .string a, .string b]) (j : Nat) (hj : j < 5) : w.frozen? ⟨g, j, none⟩ = false := rowfz2 h j hj
theorem LW.grown {w0 w3 w4 : World} {gw : Nat} {pv : Value} {ρ : Nat → Nat} {vp vm : Value} {L : List PR} {M : List ByteArray} {a b : ByteArray} (h : LW w0 gw pv ρ w3 vp vm L M a b) {v : Value} (hv : v = vp ∨ v = vm) (hg : w3.grownBy w4 v.ownBlock) : w4.rowOf gw = #[pv, vp, vm, .string a, .string b] := by
  have t4 : TchS (fun g => v.ownBlock = some g) w3 w4 := TchS.of_grown hg (fun g e => e)
  rw [t4.row (by rw [h.row]; exact Nat.succ_pos 4) ?_]
  · exact h.row
  · intro e
    rcases hv with q | q
    · rw [q] at e; have := h.rp gw e; rw [h.rw] at this; omega
    · rw [q] at e; have := h.rm gw e; rw [h.rw] at this; omega
set_option maxHeartbeats 4000000 in
theorem keep_f {w0 w : World} {gw : Nat} {pv : Value} {ρ : Nat → Nat} {vp vm : Value} {L : List PR} {M : List ByteArray} {a b : ByteArray} (h : LW w0 gw pv ρ w vp vm L M a b) (x : Sd) (hx : x.Wf) (gs : Nat) (vS vP vD vK vQ vE : Value)
    (hS : KpsAt w vS x.saved) (hP : StrsAt w vP x.past) (hD : StrsAt w vD x.draws) (hs : SesAt w gs x vK vQ vE) (h0 : ρ gs = 0) (hb : w0.heap.size ≤ gs) (hold : ∀ q ∈ L, q.Off gs) (hnew : ∀ g, ρ g ≠ 0 ∨ g = gs → Offs g vS vP vD ∧ Offs g vK vQ vE) (hn : L.length ≤ 4000000) :
    Calls Tryz.prog 29 #[.pointer (some ⟨gw, 0, none⟩), .pointer (some ⟨gs, 0, none⟩), .agg (sideC x vS vP vD)] w fun e w' => e = .returned (.bool true) ∧ ∃ ρ' v r, LW w0 gw pv ρ' w' v vm (L ++ [r]) M a b ∧ TchS (fun g => ρ g ≠ 0) w w' := by
  have hlt := h.lt
  have H := Hid.mk h
  have HS := Hid.mk hS
  have HP := Hid.mk hP
  have HD := Hid.mk hD
  have HSS := Hid.mk hs
  have HN := Hid.mk hnew
  have HO := Hid.mk hold
  have HX := Hid.mk hx
  obtain ⟨aS, mS, cS, eS⟩ := hS.slice
  obtain ⟨aP, mP, cP, eP⟩ := hP.slice
  obtain ⟨aD, mD, cD, eD⟩ := hD.slice
  subst eS eP eD
  clear h hS hP hD hs hnew hold hx
  obtain ⟨W2, hW2, r2, B2, s2⟩ := keep_box w gs x (.slice aS mS cS) (.slice aP mP cP) (.slice aD mD cD)
  have h2 := H.out.below B2
  have k1 := h2.c1
  have R2 := Hid.mk r2
  have HS2 := Hid.mk s2
  clear s2
  have hbl := h2.bl.size
  have HL := Hid.mk hn
  clear r2 hn
  rw [side_lit]
  go_enter Tryz.func29, Tryz.ntmps29
  go_upto_region 2 with fail
  rw [← hW2]
  clear hW2
  have HLL : Hid ((ptrCells L).length = L.length) := Hid.mk (ptrCells_length L)
  generalize hnL : L.length = nL at *
  go_wp2_with (first
    | (at_builtin; go_loud (refine wpl_appendT Tryz.underlying31 iPair (by omega) (by omega) rfl _ _ rfl w0.heap.size vp nL (ptrCells L) rfl ?_ ⟨W2.heap.size, 0, none⟩ 1 1 [.pointer (some ⟨w.heap.size + 1, 0, none⟩)] rfl (by omega) rfl (cell_one_new _ _ _) ?_ HL.out (by omega) ?_ ?_; (focus (rw [← hnL]; exact h2.op.alloc _)); (focus (intro u hu; simp at hu; subst hu; rfl)); (focus (simp; omega)); intro v w4 hown hg hat; obtain ⟨aV, cV, eV⟩ := own_sl hown; subst eV; have G4 := LW.grown (h2.below (by_alloc _ _)) (Or.inl rfl) hg; have k4 := lw_c1 G4; have z4 := lw_z G4 1 (by omega); have HG := Hid.mk hg; have HW := Hid.mk hown; have HA := Hid.mk hat; clear hg hown hat G4))
    | fail)
  go_ret
  subst hnL
  refine ⟨rfl, ?_⟩
  have s2 := HS2.out
  have B3 : Below w.heap.size w (W2.alloc (.cells #[.pointer (some ⟨w.heap.size + 1, 0, none⟩)] 36)) := B2.alloc B2.size _
  have s3 : (W2.alloc (.cells #[.pointer (some ⟨w.heap.size + 1, 0, none⟩)] 36)).heap.size = w.heap.size + 3 := by simp [s2]
  have r3 := (below_row (by_alloc W2 (.cells #[.pointer (some ⟨w.heap.size + 1, 0, none⟩)] 36)) (by rw [R2.out, pairC_size]; omega)).trans R2.out
  have fr : ∀ g, w.heap.size ≤ g → PR.Off ⟨w.heap.size + 1, gs, x, .slice aS mS cS, .slice aP mP cP, .slice aD mD cD, vK, vQ, vE⟩ g := fun g hg => ⟨⟨HS.out.fresh hg, HP.out.fresh hg, HD.out.fresh hg⟩, HSS.out.fresh hg⟩
  have own := HW.out
  obtain ⟨ρ', h', t'⟩ := H.out.kept ⟨w.heap.size + 1, gs, x, .slice aS mS cS, .slice aP mP cP, .slice aD mD cD, vK, vQ, vE⟩ h0 hb HSS.out.lt HO.out (fun g hg => ⟨(HN.out g hg).1, (HN.out g hg).2⟩) (Nat.le_succ _) (by rw [s3]; show w.heap.size + 1 < _; omega) B3 ⟨HX.out, r3, HS.out.below B3, HP.out.below B3, HD.out.below B3, HSS.out.below B3⟩ ⟨fr _ (Nat.le_succ _), fr _ (by rw [s3]; omega)⟩ HG.out own HA.out
  exact ⟨ρ', _, _, h', t'⟩
set_option maxHeartbeats 4000000 in
theorem said_f {w0 w : World} {gw : Nat} {pv : Value} {ρ : Nat → Nat} {vp vm : Value} {L : List PR} {M : List ByteArray} {a b : ByteArray} (h : LW w0 gw pv ρ w vp vm L M a b) (m : ByteArray) (hm : m.size ≤ 1000) (hn : M.length ≤ 4000000) :
    Calls Tryz.prog 36 #[.pointer (some ⟨gw, 0, none⟩), .string m] w fun e w' => e = .returned (.tuple #[]) ∧ ∃ ρ' v, LW w0 gw pv ρ' w' vp v L (M ++ [m]) a b ∧ TchS (fun g => ρ g ≠ 0) w w' := by
  have k1 := h.c2
  have hlt := h.lt
  have hbl := h.bl.size
  have H := Hid.mk h
  have HL := Hid.mk hn
  have HM := Hid.mk hm
  clear h hn hm
  generalize hnL : M.length = nL at *
  have HLL : Hid ((strCells M).length = nL * 1) := Hid.mk (by rw [strCells_length, hnL])
  go_enter Tryz.func36, Tryz.ntmps36
  go_wp2_with (first
    | (at_builtin; refine wpl_appendT Tryz.underlying32 iStr (by omega) (by omega) rfl _ _ rfl w0.heap.size vm nL (strCells M) rfl ?_ ⟨w.heap.size, 0, none⟩ 1 1 [.string m] rfl (by omega) rfl (cell_one_new _ _ _) ?_ HL.out (by omega) ?_ ?_; (focus (rw [← hnL]; exact H.out.om.alloc _)); (focus (intro u hu; simp at hu; subst hu; rfl)); (focus (simp; omega)); intro v w4 hown hg hat; obtain ⟨aV, cV, eV⟩ := own_sl hown; subst eV; have G4 := LW.grown (H.out.below (by_alloc _ _)) (Or.inr rfl) hg; have k4 := lw_c2 G4; have z4 := lw_z G4 2 (by omega); have HG := Hid.mk hg; have HW := Hid.mk hown; have HA := Hid.mk hat; clear hg hown hat G4)
    | fail)
  go_end0
  subst hnL
  have own := HW.out
  obtain ⟨ρ', h', t'⟩ := H.out.more m HM.out (by_alloc _ _) HG.out own HA.out
  exact ⟨rfl, ρ', _, h', t'⟩
theorem pair_c0 {w : World} {g gs : Nat} {x : Sd} {vS vP vD : Value} (h : w.rowOf g = pairC gs x vS vP vD) : w.cell? ⟨g, 0, none⟩ = some (.pointer (some ⟨gs, 0, none⟩)) := rowcell h 0 _ rfl
theorem pair_range {w : World} {g gs : Nat} {x : Sd} {vS vP vD : Value} (h : w.rowOf g = pairC gs x vS vP vD) : w.rangeAt g 1 [.string x.root, .string x.self, .string (pubF x.self), .string x.theirs, .string x.send, .string x.read, .int .i64 (x.ns : Int), .int .i64 (x.nr : Int), .int .i64 (x.pn : Int), vS, vP, vD] := by
  intro j v hj
  have hlt : j < 12 := (List.getElem?_eq_some_iff.1 hj).1
  refine rowcell h (1 + j) v ?_
  rw [Nat.add_comm]
  simpa [pairC] using hj
theorem iSide : (Tryz.prog.info? 55).map (·.size) = some 12 := by kernel_rfl
set_option maxHeartbeats 4000000 in
theorem plook_f (w : World) (r : PR) (h : PairAt w r) :
    Calls Tryz.prog 20 #[.pointer (some ⟨r.gp, 0, none⟩)] w fun e w' => e = .returned (.bool true) ∧ Below w.heap.size w w' := by
  have k0 := pair_c0 h.row
  have H := Hid.mk h
  clear h
  have HT : Hid ((keptB r.x).toList = (keptB r.x).toList) := Hid.mk rfl
  generalize hk : keptB r.x = K at *
  go_enter Tryz.func20, Tryz.ntmps20
  go_wp2_with (first
    | (go_at_call 32; have M := export_f r.x H.out.wf r.gs r.vK r.vQ r.vE w H.out.ses; with_reducible refine M.mono ?_; clear M; rintro e w1 ⟨rfl, b1⟩; rw [hk]; have h1 := H.out.below b1; have HR := Hid.mk (pair_range h1.row); have H1 := Hid.mk h1; clear h1)
    | (refine at_load 55 rfl ?_; refine wpList_load_mid rfl _ _ rfl r.gp 1 rfl _ _ HR.out Tryz.underlying55 rfl iSide ?_)
    | (go_at_call 33; have M := kept_f r.x H.out.wf (sideC r.x r.vS r.vP r.vD) r.vS r.vP r.vD w1 H1.out.side; rw [side_lit] at M; with_reducible refine M.mono ?_; clear M; rintro e w2 ⟨rfl, b2⟩; rw [hk])
    | fail)
  go_ret
  exact ⟨rfl, below_lift b1 b1.size b2⟩
end Go.Proofs.YteghoooelgcpkaaGreatDoor
namespace Go
open Go.RowKit Go.Msg Go.Proofs.YteghoooelgcpkaaGreatDoor
theorem copied_tab (s : ByteArray) (n N : Nat) (f : Nat → Int) (hn : n ≤ s.size) (hN : n ≤ N) :
    ((tab .u8 N f).toList.take 0 ++ ((s.extract 0 n).data.map fun b => Value.int .u8 b.toNat).toList ++ (tab .u8 N f).toList.drop (0 + n)).toArray = tab .u8 N (fun i => if i < n then sb s i else f i) := by
  have hm : min n s.size = n := by omega
  apply Array.ext_getElem?
  intro i
  by_cases hi : i < N
  · rw [tab_get _ _ _ _ hi]
    by_cases h2 : i < n
    · have hs : i < s.size := by omega
      simp [List.getElem?_append, hm, h2, sb, hs]
      rfl
    · have : n + (i - n) = i := by omega
      simp [List.getElem?_append, hm, h2, this, tab_get _ _ _ _ hi]
  · have h1 : ∀ g, (tab .u8 N g)[i]? = none := fun g => by simp [tab_eq]; omega
    rw [h1]
    have h3 : ¬ i < n := by omega
    have h4 : n + (i - n) = i := by omega
    simp [List.getElem?_append, hm, h3, h4, h1]
theorem wpl_copyS {P : Program} {ops : Array Oper} {rest : List Oper} {o : Oper} {a : Act} {w : World} {Q : Exit → Act → World → Prop} (hgd : o.guard = none) (d x : Operand) (dT sT elem : TypeId) (ho : o.op = .call { callee := .builtin .copy, args := #[d, x], argTypes := #[dT, sT] })
    (hu : P.underlying dT = some (.slice elem)) (hs : (P.info? elem).map (·.size) = some 1) (g N cap : Nat) (hN : 0 < N) (s : ByteArray) (hd : a.eval d = .slice (some ⟨g, 0, none⟩) N cap) (hx : a.eval x = .string s) (f : Nat → Int) (hr : w.rowOf g = tab .u8 N f)
    (h : ∀ v F, wpList P ops Q rest (a.put o.dst v) (w.setRow g (tab .u8 N F))) : wpList P ops Q (o :: rest) a w := by
  refine wpList_plain hgd fun _ hK => ?_
  obtain ⟨t', hh⟩ := rowOf_heap (w := w) (g := g) rfl (by rw [hr, tab_size]; exact hN)
  rw [hr] at hh
  have hrun : ∀ ty, ∃ v F, (Builtin.copy_ #[dT, sT] ty #[.slice (some ⟨g, 0, none⟩) N cap, .string s]).run P w = .ok v (w.setRow g (tab .u8 N F)) := by
    intro ty
    have hm : Nat.min s.size N ≤ s.size := Nat.min_le_left _ _
    have hm2 : Nat.min s.size N ≤ N := Nat.min_le_right _ _
    have hz : ((s.extract 0 (Nat.min s.size N)).data.map fun b => Value.int .u8 (b.toNat : Int)).toList.length = Nat.min s.size N := by
      rw [Array.length_toList, Array.size_map]; show (s.extract 0 _).size = _; rw [ByteArray.size_extract]; omega
    have hst := run_storeCells_at P g 0 t' ((s.extract 0 (Nat.min s.size N)).data.map fun b => Value.int .u8 (b.toNat : Int)).toList 0 _ w hh (by rw [hz, tab_size]; omega) (by
      intro v hv
      rw [Array.mem_toList_iff, Array.mem_map] at hv
      obtain ⟨b, _, rfl⟩ := hv
      rfl)
    rw [hz] at hst
    simp only [Nat.add_zero] at hst
    rw [copied_tab s _ N f hm hm2] at hst
    refine ⟨goInt (Nat.min s.size N), fun i => if i < Nat.min s.size N then sb s i else f i, ?_⟩
    cases hq : P.info? elem with
    | none => simp [hq] at hs
    | some i =>
      simp only [Builtin.copy_, Builtin.lenOf, Builtin.firstCells, sizeOf, typeInfo, Sem.run_bind, run_underlying hu, Result.andThen_ok, Sem.run_pure, List.getElem?_toArray, List.getElem?_cons_zero, List.getElem?_cons_succ]
      rw [show (Sem.run P program w) = .ok P w from rfl]
      simp only [Result.andThen_ok, hq, Sem.run_pure, hst]
  obtain ⟨v, F, hrun⟩ := hrun o.type
  unfold Oper.wp
  simp only [execOp, ho, resolve, invoke, builtin, List.map_toArray, List.map_cons, List.map_nil, hd, hx, Sem.run_bind, Sem.run_pure, Result.andThen_ok, hrun]
  exact hK _ _ (h v F)
end Go
namespace Go.Proofs.YteghoooelgcpkaaGreatDoor
open Go.RowKit Go.Msg
theorem pick_any (c : Int) (n : Nat) (hn : 0 < n) (h1 : -9223372036854775808 ≤ c) (h2 : c ≤ 9223372036854775807) (hn2 : n ≤ 9223372036854775807) (w : World) :
    Calls Tryz.prog 43 #[.int .i64 c, .int .i64 (n : Int)] w fun e w' => ∃ k : Nat, e = .returned (.int .i64 (k : Int)) ∧ k < n ∧ w' = w := by
  have c0 : (n : Int) ≠ 0 := by omega
  by_cases hc : c < 0
  · go_enter Tryz.func43, Tryz.ntmps43
    go_wp2_with fail
    go_ret
    have e1 : -(c + 1).tmod n = (-(c + 1)) % n := by rw [← Int.neg_tmod, Int.tmod_eq_emod_of_nonneg (by omega)]
    have e2 := Int.emod_nonneg (-(c + 1)) c0
    have e3 := Int.emod_lt_of_pos (-(c + 1)) (show (0 : Int) < n by omega)
    refine ⟨((-(c + 1)) % n).toNat, ?_, by omega, rfl⟩
    rw [Int.toNat_of_nonneg e2, ← e1]; rfl
  · go_enter Tryz.func43, Tryz.ntmps43
    go_wp2_with fail
    go_ret
    have e2 := Int.emod_nonneg c c0
    have e3 := Int.emod_lt_of_pos c (show (0 : Int) < n by omega)
    refine ⟨(c % n).toNat, ?_, by omega, rfl⟩
    rw [Int.toNat_of_nonneg e2]; rfl
set_option maxRecDepth 4000 in
set_option maxHeartbeats 1000000 in
theorem full_any (t : ByteArray) (c : Int) (w : World) :
    Calls Tryz.prog 39 #[.string t, .int .i64 c] w fun e w' => ∃ s, e = .returned (.string s) ∧ Below w.heap.size w w' := by
  go_enter Tryz.func39, Tryz.ntmps39
  go_wp2_with (first
    | (at_make; refine wpl_make u8s rfl _ _ rfl 32 32 32 rfl rfl rfl rfl (by omega) ?_)
    | (refine wpl_copyS rfl _ _ _ _ 5 rfl Tryz.underlying112 (by kernel_rfl) w.heap.size 32 32 (by omega) t rfl rfl (fun _ => 0) ?_ ?_; (focus (exact rowOf_new2 _ _ _ _ rfl)); intro v F)
    | (refine wpl_convert rfl 112 9 5 _ rfl Tryz.underlying112 Tryz.underlying5 Tryz.underlying9 w.heap.size 0 32 32 rfl 32 F ?_ (by omega) ?_; (focus (exact rowOf_new2 _ _ _ _ rfl)))
    | fail)
  · go_ret
    exact ⟨_, rfl, Below.refl _ _⟩
  · go_ret
    exact ⟨_, rfl, by_alloc _ _⟩
theorem LW.ptr {w0 w : World} {gw : Nat} {pv : Value} {ρ : Nat → Nat} {vp vm : Value} {L : List PR} {M : List ByteArray} {a b : ByteArray} (h : LW w0 gw pv ρ w vp vm L M a b) : ∃ ao cap g, vp = .slice ao L.length cap ∧ (0 < L.length → ao = some ⟨g, 0, none⟩) ∧ ∀ k r, L[k]? = some r → w.cell? ⟨g, k, none⟩ = some (.pointer (some ⟨r.gp, 0, none⟩)) := by
  have h0 := h.op
  rcases h0.2 with ⟨e, hn⟩ | ⟨g, cap, cur, e, hg, hh, rest⟩
  · have hL : L = [] := List.eq_nil_of_length_eq_zero hn
    subst hL
    exact ⟨none, 0, 0, e, fun q => absurd q (by simp), fun k r hk => by simp at hk⟩
  · subst e
    refine ⟨some ⟨g, 0, none⟩, cap, g, rfl, fun _ => rfl, fun k r hk => ?_⟩
    have hlt := (List.getElem?_eq_some_iff.1 hk).1
    rw [h0.cellAt k (by omega)]
    simp [ptrCells, hk]
theorem LW.msg {w0 w : World} {gw : Nat} {pv : Value} {ρ : Nat → Nat} {vp vm : Value} {L : List PR} {M : List ByteArray} {a b : ByteArray} (h : LW w0 gw pv ρ w vp vm L M a b) : ∃ ao cap g, vm = .slice ao M.length cap ∧ (0 < M.length → ao = some ⟨g, 0, none⟩) ∧ ∀ k t, M[k]? = some t → w.cell? ⟨g, k, none⟩ = some (.string t) := by
  have h0 := h.om
  rcases h0.2 with ⟨e, hn⟩ | ⟨g, cap, cur, e, hg, hh, rest⟩
  · have hL : M = [] := List.eq_nil_of_length_eq_zero hn
    subst hL
    exact ⟨none, 0, 0, e, fun q => absurd q (by simp), fun k r hk => by simp at hk⟩
  · subst e
    refine ⟨some ⟨g, 0, none⟩, cap, g, rfl, fun _ => rfl, fun k r hk => ?_⟩
    have hlt := (List.getElem?_eq_some_iff.1 hk).1
    rw [h0.cellAt k (by omega)]
    simp [strCells, hk]
set_option maxHeartbeats 2000000 in
theorem looks_f {w0 w : World} {gw : Nat} {pv : Value} {ρ : Nat → Nat} {n : Nat} (hs : LWs w0 gw pv n ρ w) (hn : n ≤ 4000000) :
    Calls Tryz.prog 24 #[.pointer (some ⟨gw, 0, none⟩)] w fun e w' => e = .returned (.bool true) ∧ Below w.heap.size w w' := by
  obtain ⟨vp, vm, L, M, a, b, h, h1, _⟩ := hs
  obtain ⟨ao, cap, gV, rfl, hao, hcell⟩ := h.ptr
  have k1 := h.c1
  have H := Hid.mk h
  have HC := Hid.mk hcell
  have HA := Hid.mk hao
  have hnl : L.length ≤ 4000000 := by omega
  clear h hcell hao
  generalize hL : L.length = nL at *
  go_enter Tryz.func24, Tryz.ntmps24
  go_wp2_with fail
  go_loopw [3] (fun i wq => ∃ k : Nat, i = .int .i64 k ∧ k ≤ nL ∧ Below w.heap.size w wq) (fun i _ => nL - (intOf i).toNat)
  case atStart => exact ⟨0, rfl, by omega, Below.refl _ _⟩
  case round =>
    obtain ⟨k, rfl, hk, B⟩ := hrel
    have hq := (H.out.below B).c1
    clear k1
    by_cases hlt : k < nL
    · have c1 : (k : Int) < nL := by omega
      obtain ⟨r, hr⟩ : ∃ r, L[k]? = some r := ⟨L[k]'(by omega), List.getElem?_eq_getElem _⟩
      have e1 := HA.out (by omega)
      subst e1
      have hc := HC.out k r hr
      have hcq : wr.cell? ⟨gV, k, none⟩ = some (.pointer (some ⟨r.gp, 0, none⟩)) := by rw [B.cell (World.block_lt_of_cell? w _ hc)]; exact hc
      have HPA := Hid.mk ((H.out.below B).pa k r hr).1
      clear hc hr
      go_wp2_with (first | (go_at_call 20; have M := plook_f wr r HPA.out; with_reducible refine M.mono ?_; clear M; rintro e w2 ⟨rfl, b2⟩) | fail)
      go_roundw
      case rel => exact ⟨k + 1, by go_num, by omega, below_lift B B.size b2⟩
      case measure => simp [intOf]; omega
    · have c1 : ¬ (k : Int) < nL := by omega
      go_wp2_with fail
      go_ret
      exact ⟨rfl, B⟩
set_option maxHeartbeats 2000000 in
theorem published_f {w0 w : World} {gw : Nat} {pv : Value} {ρ : Nat → Nat} {n : Nat} (hs : LWs w0 gw pv n ρ w) (k : ByteArray) :
    Calls Tryz.prog 42 #[.pointer (some ⟨gw, 0, none⟩), .string k] w fun e w' => e = .returned (.bool true) ∧ Nxt w0 gw pv n ρ w w' := by
  have HL := Hid.mk hs
  obtain ⟨vp, vm, L, M, a, b, h, h1, h2⟩ := hs
  have H := Hid.mk h
  have hlt := h.lt
  clear h
  by_cases hk : k.size = 32
  · have hk1 : (k.size : Int) = 32 := by omega
    go_enter Tryz.func42, Tryz.ntmps42
    go_wp2_with (first
      | (go_at_call 77; have M := spublic_f k hk w; with_reducible refine M.mono ?_; clear M; rintro e w1 ⟨rfl, b1⟩)
      | (go_at_call 52; have M := rpublic_f k hk w1; with_reducible refine M.mono ?_; clear M; rintro e w2 ⟨rfl, b2⟩; have B2 := below_lift b1 b1.size b2; have H2 := Hid.mk (H.out.below B2); have y2 := H2.out.c3; have z2 := H2.out.z 3 (by omega))
      | fail)
    go_ret
    obtain ⟨g1, g2⟩ := H2.out.point (pubF k)
    exact ⟨rfl, (Nxt.of g2 g1 h1 h2).pre B2⟩
  · have hk1 : ((k.size : Int) != 32) = true := by simp; omega
    have hk2 : ¬ (k.size : Int) = 32 := by omega
    go_enter Tryz.func42, Tryz.ntmps42
    go_wp2_with (first | (go_at_call 77; have M := spublic_bad k hk w; with_reducible refine M.mono ?_; clear M; rintro e w1 ⟨rfl, rfl⟩) | fail)
    go_ret
    exact ⟨rfl, Nxt.of_below HL.out (Below.refl _ _)⟩
end Go.Proofs.YteghoooelgcpkaaGreatDoor
namespace Go
open Go.RowKit
theorem wpl_loadG {P : Program} {t n : Nat} (ht : RowTy P t n) {ops : Array Oper} {rest : List Oper} {o : Oper} {a : Act} {w : World} {Q : Exit → Act → World → Prop} (hgd : Region.wanted o (yielded ops a.tmps) = true) (x : Operand) (ho : o.op = .load t x)
    (g : Nat) (hx : a.eval x = .pointer (some ⟨g, 0, none⟩)) (c : Array Value) (hc : w.rowOf g = c) (hn : c.size = n)
    (h : wpList P ops Q rest (a.put o.dst (.agg c)) w) : wpList P ops Q (o :: rest) a w := by
  refine wpList_step fun K hK => ?_
  rw [if_pos hgd]
  unfold Oper.wp execOp
  simp only [ho, hx]
  rw [Sem.run_bind, run_load_row ht w g (by rw [hc, hn]), hc]
  exact hK _ _ h
end Go
namespace Go.Proofs.YteghoooelgcpkaaGreatDoor
open Go.RowKit Go.Msg
theorem offs_nil (g : Nat) : Offs g nilS nilS nilS := ⟨Off.nil g, Off.nil g, Off.nil g⟩
theorem waitS_lit (s t : ByteArray) : sideC (waitS s t) nilS nilS nilS = #[.string s, .string t, .string (pubF t), .string ⟨#[]⟩, .string ⟨#[]⟩, .string ⟨#[]⟩, .int .i64 0, .int .i64 0, .int .i64 0, nilS, nilS, nilS] := rfl
theorem sideC_all {x : Sd} {w : World} {vS vP vD : Value} (h1 : KpsAt w vS x.saved) (h2 : StrsAt w vP x.past) (h3 : StrsAt w vD x.draws) : (sideC x vS vP vD).all (·.oneCell') = true := side_all ⟨rfl, h1, h2, h3⟩
set_option maxHeartbeats 4000000 in
theorem waited_f {w0 w : World} {gw : Nat} {pv : Value} {ρ : Nat → Nat} {n : Nat} (hs : LWs w0 gw pv n ρ w) (hn : n ≤ 3000000) (s t : ByteArray) :
    Calls Tryz.prog 41 #[.pointer (some ⟨gw, 0, none⟩), .string s, .string t] w fun e w' => e = .returned (.bool true) ∧ Nxt w0 gw pv (n + 1) ρ w w' := by
  have HLS := Hid.mk hs
  obtain ⟨vp, vm, L, M, a, b, h, h1, h2⟩ := hs
  have H := Hid.mk h
  have hlt := h.lt
  have hbl := h.bl.size
  clear h
  by_cases hg : s.size = 32 ∧ t.size = 32
  · obtain ⟨g1, g2⟩ := hg
    have c1 : (s.size : Int) = 32 := by omega
    have c2 : (t.size : Int) = 32 := by omega
    have HM : Hid (Calls Tryz.prog 75 #[.string s, .string t] w fun e w' => e = .returned (.tuple #[.pointer (some ⟨w.heap.size, 0, none⟩), .int .i64 0]) ∧ SesAt w' w.heap.size (waitS s t) nilS nilS nilS ∧ Below w.heap.size w w') := Hid.mk ((swait_f s t w).mono (fun e w' q => by
      rcases q.1 with ⟨q1, _⟩ | ⟨_, q1, q2⟩
      · exact absurd ⟨g1, g2⟩ q1
      · exact ⟨q1, q2, q.2⟩))
    have HG := Hid.mk (And.intro g1 g2)
    clear g1
    go_enter Tryz.func41, Tryz.ntmps41
    go_wp2_with (first
      | (go_at_call 75; with_reducible refine HM.out.mono ?_; rintro e w1 ⟨rfl, hs1, b1⟩; have HS1 := Hid.mk hs1; clear hs1)
      | (go_at_call 76; have M := rwait_f s t g2 w1; with_reducible refine M.mono ?_; clear M; rintro e w2 ⟨rfl, b2⟩; have B2 := below_lift b1 b1.size b2; obtain ⟨r3, w3, hw3, R3, B3, z3⟩ := new_stored B2 side0 (sideC (waitS s t) nilS nilS nilS) 55 side0_pos; have HR3 := Hid.mk R3; have HB3 := Hid.mk B3; clear R3 B3)
      | (refine at_store 55 rfl ?_; refine wpl_store rtSide rfl _ _ rfl w2.heap.size rfl (sideC (waitS s t) nilS nilS nilS) rfl ?_ (sideC_size _ _ _ _) (sideC_all (x := waitS s t) (w := w) (KpsAt.nil _) (StrsAt.nil _) (StrsAt.nil _)) w3 hw3.symm ?_; (focus (exact congrArg Array.size r3)); have b13 : Hid (Below w1.heap.size w1 w3) := Hid.mk (by rw [hw3]; exact below_setRow (b2.alloc b2.size _) b2.size _); clear hw3 r3)
      | (refine at_load 55 rfl ?_; refine wpl_loadG rtSide rfl _ rfl w2.heap.size rfl (sideC (waitS s t) nilS nilS nilS) HR3.out (sideC_size _ _ _ _) ?_)
      | (go_at_call 29; have M := keep_f (H.out.below HB3.out) (waitS s t) (waitS_wf HG.out.1 HG.out.2) w.heap.size nilS nilS nilS nilS nilS nilS (KpsAt.nil _) (StrsAt.nil _) (StrsAt.nil _) (HS1.out.below b13.out) (H.out.rf _ (Nat.le_refl _)) hbl (H.out.fresh (Nat.le_refl _)) (fun g _ => ⟨offs_nil g, offs_nil g⟩) (by omega); with_reducible refine M.mono ?_; clear M; rintro e w4 ⟨rfl, ρ4, v4, r4, l4, t4⟩)
      | fail)
    go_ret
    exact ⟨rfl, (Nxt.of t4 l4 (by rw [List.length_append]; simp; omega) (by omega)).pre HB3.out⟩
  · have HM : Hid (Calls Tryz.prog 75 #[.string s, .string t] w fun e w' => e = .returned (.tuple #[.pointer none, .int .i64 1]) ∧ Below w.heap.size w w') := Hid.mk ((swait_f s t w).mono (fun e w' q => by
      rcases q.1 with ⟨_, q1⟩ | ⟨q1, _⟩
      · exact ⟨q1, q.2⟩
      · exact absurd q1 hg))
    by_cases g1 : s.size = 32
    · have c1 : (s.size : Int) = 32 := by omega
      have g2 : ¬ t.size = 32 := fun q => hg ⟨g1, q⟩
      have c2 : ((t.size : Int) != 32) = true := by simp; omega
      have c3 : ¬ (t.size : Int) = 32 := by omega
      clear hg
      go_enter Tryz.func41, Tryz.ntmps41
      go_wp2_with (first | (go_at_call 75; with_reducible refine HM.out.mono ?_; rintro e w1 ⟨rfl, b1⟩) | fail)
      go_ret
      exact ⟨rfl, Nxt.of_below (HLS.out.mono (Nat.le_succ _)) b1⟩
    · have c2 : ((s.size : Int) != 32) = true := by simp; omega
      have c3 : ¬ (s.size : Int) = 32 := by omega
      clear hg
      go_enter Tryz.func41, Tryz.ntmps41
      go_wp2_with (first | (go_at_call 75; with_reducible refine HM.out.mono ?_; rintro e w1 ⟨rfl, b1⟩) | fail)
      go_ret
      exact ⟨rfl, Nxt.of_below (HLS.out.mono (Nat.le_succ _)) b1⟩
theorem wok_wf {s : ByteArray} (h : importOk s) : (wokS s).Wf ∧ wokS s = (sesF ⟨s, false⟩).1 := by
  have e := (wok_import s).2 h
  exact ⟨by rw [e]; exact (import_ok s h).1, e⟩
set_option maxHeartbeats 4000000 in
theorem wokenL_f {w0 w : World} {gw : Nat} {pv : Value} {ρ : Nat → Nat} {n : Nat} (hs : LWs w0 gw pv n ρ w) (hn : n ≤ 3000000) (s : ByteArray) :
    Calls Tryz.prog 18 #[.pointer (some ⟨gw, 0, none⟩), .string s] w fun e w' => e = .returned (.bool true) ∧ Nxt w0 gw pv (n + 1) ρ w w' := by
  have HLS := Hid.mk hs
  obtain ⟨vp, vm, L, M, a, b, h, h1, h2⟩ := hs
  have H := Hid.mk h
  have hlt := h.lt
  have hbl := h.bl.size
  clear h
  by_cases hg : importOk s
  · obtain ⟨hwf, hwk⟩ := wok_wf hg
    have HM : Hid (Calls Tryz.prog 27 #[.string s] w fun e w' => ∃ g vK vP vD, w.heap.size ≤ g ∧ e = .returned (.tuple #[.pointer (some ⟨g, 0, none⟩), .int .i64 0]) ∧ SesAt w' g (wokS s) vK vP vD ∧ (∀ k, k ≤ g → Offs k vK vP vD) ∧ Below w.heap.size w w') := Hid.mk ((import_f s w).mono (fun e w' q => by
      rcases q.1 with ⟨q1, _⟩ | ⟨_, g, vK, vP, vD, q1, q2, q3, q4⟩
      · exact absurd hg q1
      · exact ⟨g, vK, vP, vD, q1, q2, by rw [hwk]; exact q3, q4, q.2⟩))
    have HM2 : Hid (∀ w1 : World, Calls Tryz.prog 28 #[.string s] w1 fun e w' => ∃ vS vP vD, e = .returned (.tuple #[.agg (sideC (wokS s) vS vP vD), .bool true]) ∧ KpsAt w' vS (wokS s).saved ∧ StrsAt w' vP (wokS s).past ∧ StrsAt w' vD (wokS s).draws ∧ (∀ k, k < w1.heap.size → Offs k vS vP vD) ∧ Below w1.heap.size w1 w') := Hid.mk (fun w1 => (woken_f s w1).mono (fun e w' q => by
      rcases q.1 with ⟨_, vS, vP, vD, q1, q2, q3, q4, q5⟩ | ⟨q1, _⟩
      · exact ⟨vS, vP, vD, q1, q2, q3, q4, q5, q.2⟩
      · exact absurd ((wok_import s).1.2 hg) q1))
    have HW := Hid.mk hwf
    clear hg hwk hwf
    generalize wokS s = x at *
    go_enter Tryz.func18, Tryz.ntmps18
    go_wp2_with (first
      | (go_at_call 27; with_reducible refine HM.out.mono ?_; rintro e w1 ⟨gs, vK, vQ, vE, hgs, rfl, hs1, ho1, b1⟩; have HS1 := Hid.mk hs1; have HO1 := Hid.mk ho1; clear hs1 ho1)
      | (go_at_call 28; with_reducible refine (HM2.out w1).mono ?_; rintro e w2 ⟨vS, vP, vD, rfl, hk2, hp2, hd2, ho2, b2⟩; have B2 := below_lift b1 b1.size b2; obtain ⟨r3, w3, hw3, R3, B3, z3⟩ := new_stored B2 side0 (sideC x vS vP vD) 55 side0_pos; have HR3 := Hid.mk R3; have HB3 := Hid.mk B3; have HK2 := Hid.mk hk2; have HP2 := Hid.mk hp2; have HD2 := Hid.mk hd2; have HO2 := Hid.mk ho2; clear R3 B3 hk2 hp2 hd2 ho2)
      | (refine at_store 55 rfl ?_; refine wpl_store rtSide rfl _ _ rfl w2.heap.size rfl (sideC x vS vP vD) rfl ?_ (sideC_size _ _ _ _) (sideC_all HK2.out HP2.out HD2.out) w3 hw3.symm ?_; (focus (exact congrArg Array.size r3)); have b23 : Hid (Below w2.heap.size w2 w3) := Hid.mk (by rw [hw3]; exact below_setRow (by_alloc _ _) (Nat.le_refl _) _); clear hw3 r3)
      | (refine at_load 55 rfl ?_; refine wpl_loadG rtSide rfl _ rfl w2.heap.size rfl (sideC x vS vP vD) HR3.out (sideC_size _ _ _ _) ?_)
      | (go_at_call 29; have M := keep_f (H.out.below HB3.out) x HW.out gs vS vP vD vK vQ vE (HK2.out.below b23.out) (HP2.out.below b23.out) (HD2.out.below b23.out) ((HS1.out.below b2).below b23.out) (H.out.rf _ hgs) (by omega) (H.out.fresh hgs) (fun g hg => (by have s1 := b1.size; have l1 := HS1.out.lt; rcases hg with q | q; exact (by have l2 : g < w.heap.size := (by apply Classical.byContradiction; intro c; exact q (H.out.rf g (by omega))); exact ⟨HO2.out g (by omega), HO1.out g (by omega)⟩); exact (by rw [q]; exact ⟨HO2.out gs l1, HO1.out gs (Nat.le_refl _)⟩))) (by omega); with_reducible refine M.mono ?_; clear M; rintro e w4 ⟨rfl, ρ4, v4, r4, l4, t4⟩)
      | fail)
    go_ret
    exact ⟨rfl, (Nxt.of t4 l4 (by rw [List.length_append]; simp; omega) (by omega)).pre HB3.out⟩
  · have HM : Hid (Calls Tryz.prog 27 #[.string s] w fun e w' => e = .returned (.tuple #[.pointer none, .int .i64 5]) ∧ Below w.heap.size w w') := Hid.mk ((import_f s w).mono (fun e w' q => by
      rcases q.1 with ⟨_, q1⟩ | ⟨q1, _⟩
      · exact ⟨q1, q.2⟩
      · exact absurd q1 hg))
    have HM2 : Hid (∀ w1 : World, Calls Tryz.prog 28 #[.string s] w1 fun e w' => e = .returned (.tuple #[.agg side0, .bool false]) ∧ Below w1.heap.size w1 w') := Hid.mk (fun w1 => (woken_f s w1).mono (fun e w' q => by
      rcases q.1 with ⟨q1, _⟩ | ⟨_, q1⟩
      · exact absurd ((wok_import s).1.1 q1) hg
      · exact ⟨q1, q.2⟩))
    clear hg
    go_enter Tryz.func18, Tryz.ntmps18
    go_wp2_with (first
      | (go_at_call 27; with_reducible refine HM.out.mono ?_; rintro e w1 ⟨rfl, b1⟩)
      | (go_at_call 28; with_reducible refine (HM2.out w1).mono ?_; rintro e w2 ⟨rfl, b2⟩; have B2 := below_lift b1 b1.size b2; obtain ⟨r3, w3, hw3, R3, B3, z3⟩ := new_stored B2 side0 side0 55 side0_pos; have HB3 := Hid.mk B3; clear R3 B3)
      | (refine at_store 55 rfl ?_; refine wpl_store rtSide rfl _ _ rfl w2.heap.size rfl side0 rfl ?_ side0_size side0_one w3 hw3.symm ?_; (focus (exact congrArg Array.size r3)); clear hw3 r3)
      | fail)
    go_ret
    exact ⟨rfl, Nxt.of_below (HLS.out.mono (Nat.le_succ _)) HB3.out⟩
end Go.Proofs.YteghoooelgcpkaaGreatDoor
namespace Go.Proofs.YteghoooelgcpkaaGreatDoor
open Go.RowKit Go.Msg
theorem pair_c12 {w : World} {g gs : Nat} {x : Sd} {vS vP vD : Value} (h : w.rowOf g = pairC gs x vS vP vD) : w.cell? ⟨g, 12, none⟩ = some vD := rowcell h 12 _ rfl
theorem pair_z {w : World} {g gs : Nat} {x : Sd} {vS vP vD : Value} (h : w.rowOf g = pairC gs x vS vP vD) (j : Nat) (hj : j < 13) : w.frozen? ⟨g, j, none⟩ = false := rowfz2 h j hj
theorem pair_set12 {w : World} {g gs : Nat} {x : Sd} {vS vP vD : Value} (h : w.rowOf g = pairC gs x vS vP vD) (t : ByteArray) (v : Value) : (w.setCell ⟨g, 12, none⟩ v).rowOf g = pairC gs (laidS x t) vS vP v := rowOf_setCell h (by rw [pairC_size]; omega) 12 v
theorem LW.at {w0 w : World} {gw : Nat} {pv : Value} {ρ : Nat → Nat} {vp vm : Value} {L : List PR} {M : List ByteArray} {a b : ByteArray} (h : LW w0 gw pv ρ w vp vm L M a b) {i : Nat} {r : PR} (hi : L[i]? = some r) : PairAt w r ∧ r.gp ≠ r.gs ∧ r.Off r.gp ∧ r.Off r.gs ∧ r.gp ≠ gw ∧ r.gs ≠ gw := by
  obtain ⟨p1, p2, p3, p4⟩ := h.pa i r hi
  have hw := h.rw
  exact ⟨p1, fun e => by rw [e] at p2; omega, p4 _ (by omega), p4 _ (by omega), fun e => by rw [e] at p2; omega, fun e => by rw [e] at p3; omega⟩
theorem pair_tch {w w' : World} {r : PR} (h : PairAt w r) (t : Tch r.gs w w') (h1 : r.gp ≠ r.gs) : w'.rowOf r.gp = pairC r.gs r.x r.vS r.vP r.vD := (t.row (by rw [h.row, pairC_size]; omega) h1).trans h.row
theorem add_block (ad : Addr) (j : Nat) : (ad.add j).block = ad.block := by unfold Addr.add; split <;> rfl
theorem src_tch {w w1 : World} {g : Nat} {ad : Addr} {xs : List Value} (h : ∀ j u, xs[j]? = some u → w.cell? (ad.add j) = some u) (t : Tch g w w1) (hg : 0 < xs.length → ad.block ≠ g) : ∀ j u, xs[j]? = some u → w1.cell? (ad.add j) = some u := fun j u hj => by
  have c0 := h j u hj
  have hl : 0 < xs.length := Nat.lt_of_le_of_lt (Nat.zero_le _) (List.getElem?_eq_some_iff.1 hj).1
  rw [t.cell (World.block_lt_of_cell? w _ c0) (by rw [add_block]; exact hg hl)]; exact c0
theorem laid_pair {w w1 w3 : World} {r : PR} (h : PairAt w r) (h1 : r.gp ≠ r.gs) (op : r.Off r.gp) (os : r.Off r.gs) (t : ByteArray) (hwf : (laidS r.x t).Wf) (v : Value) (s1 : SesAt w1 r.gs (laidS r.x t) r.vK r.vQ v) (ho : ∀ k, k < w.heap.size → Off k v) (t1 : Tch r.gs w w1) (b3 : Below w1.heap.size w1 w3) (v2 : Value) (hv2 : StrsAt w3 v2 (r.x.draws ++ [t])) (ho2 : ∀ k, k < w1.heap.size → Off k v2) :
    PairAt (w3.setCell ⟨r.gp, 12, none⟩ v2) ⟨r.gp, r.gs, laidS r.x t, r.vS, r.vP, v2, r.vK, r.vQ, v⟩ ∧ TchS (fun g => g = r.gp ∨ g = r.gs) w (w3.setCell ⟨r.gp, 12, none⟩ v2) ∧ ∀ g, g < w.heap.size → r.Off g → PR.Off ⟨r.gp, r.gs, laidS r.x t, r.vS, r.vP, v2, r.vK, r.vQ, v⟩ g := by
  have hlt := h.lt
  have T1 : TchS (fun g => g = r.gp ∨ g = r.gs) w w1 := TchS.of_tch t1 (fun _ => Or.inr rfl)
  have T3 : TchS (fun g => g = r.gp ∨ g = r.gs) w w3 := T1.trans (TchS.of_below b3)
  have Ts : Tch r.gp w3 (w3.setCell ⟨r.gp, 12, none⟩ v2) := tch_own _ _ _ _
  have T4 : TchS (fun g => g = r.gp ∨ g = r.gs) w (w3.setCell ⟨r.gp, 12, none⟩ v2) := T3.trans (TchS.of_tch Ts (fun _ => Or.inl rfl))
  have off : ∀ g, g = r.gp ∨ g = r.gs → r.Off g := fun g e => by rcases e with e | e <;> rw [e] <;> assumption
  have row3 : w3.rowOf r.gp = pairC r.gs r.x r.vS r.vP r.vD := (below_row b3 (by rw [pair_tch h t1 h1, pairC_size]; omega)).trans (pair_tch h t1 h1)
  refine ⟨⟨hwf, pair_set12 row3 t v2, h.ks.tchS T4 (fun g e => (off g e).s.k), h.ps.tchS T4 (fun g e => (off g e).s.p), hv2.tch Ts (ho2 _ (Nat.lt_of_lt_of_le hlt t1.size)), ?_⟩, T4, fun g hg hr => ⟨⟨hr.s.k, hr.s.p, ho2 g (Nat.lt_of_lt_of_le hg t1.size)⟩, ⟨hr.k.k, hr.k.p, ho g hg⟩⟩⟩
  exact (s1.below b3).tch Ts (Ne.symm h1) ⟨op.k.k, op.k.p, ho _ hlt⟩
set_option maxHeartbeats 4000000 in
theorem laidL_f {w0 w : World} {gw : Nat} {pv : Value} {ρ : Nat → Nat} {vp vm : Value} {L : List PR} {M : List ByteArray} {a b : ByteArray} {n : Nat} (h : LW w0 gw pv ρ w vp vm L M a b) (h1 : L.length ≤ n) (h2 : M.length ≤ n) {i : Nat} {r : PR} (hi : L[i]? = some r) (t : ByteArray) :
    Calls Tryz.prog 44 #[.pointer (some ⟨r.gp, 0, none⟩), .string t] w fun e w' => e = .returned (.bool true) ∧ Nxt w0 gw pv n ρ w w' := by
  obtain ⟨hp, hne, op, os, _, _⟩ := h.at hi
  have k0 := pair_c0 hp.row
  have k12 := pair_c12 hp.row
  have hlt := hp.lt
  have HLS : Hid (LWs w0 gw pv n ρ w) := Hid.mk ⟨_, _, _, _, _, _, h, h1, h2⟩
  have H := Hid.mk h
  have HP := Hid.mk hp
  have HI := Hid.mk hi
  have HOP := Hid.mk op
  have HOS := Hid.mk os
  have HM := Hid.mk (lay_f r.x hp.wf r.gs r.vK r.vQ r.vE t w hp.ses os.k)
  obtain ⟨ao, cap, ad, eD, ha2, ha3⟩ := hp.ds.src
  have hd8 := hp.wf.draws
  obtain ⟨m, hm⟩ : ∃ m, m = r.x.draws.length := ⟨_, rfl⟩
  rw [← hm] at eD ha2 hd8
  have HED := Hid.mk eD
  have HMN := Hid.mk hm
  have HA3 := Hid.mk ha3
  rw [eD] at k12
  clear h hp hi op os eD hm ha3
  by_cases ht : t.size = 32
  · have c1 : (t.size : Int) = 32 := by omega
    by_cases hf : m = 8
    · have c2 : ((m : Int) == 8) = true := by rw [hf]; rfl
      have HM1 : Hid (Calls Tryz.prog 78 #[.pointer (some ⟨r.gs, 0, none⟩), .string t] w fun e w' => e = .returned (.int .i64 4) ∧ Below w.heap.size w w') := Hid.mk (HM.out.mono (fun e w' q => by
        rcases q with ⟨q1, _⟩ | ⟨_, _, q2, q3⟩ | ⟨_, q1, _⟩
        · exact absurd ht q1
        · exact ⟨q2, q3⟩
        · have := HMN.out; omega))
      subst hf
      go_enter Tryz.func44, Tryz.ntmps44
      go_wp2_with (first | (go_at_call 78; with_reducible refine HM1.out.mono ?_; rintro e w1 ⟨rfl, b1⟩; have k12' := pair_c12 (HP.out.below b1).row; rw [HED.out] at k12'; clear k12) | fail)
      go_ret
      exact ⟨rfl, Nxt.of_below HLS.out b1⟩
    · have c2 : ((m : Int) == 8) = false := by simp; omega
      have c3 : ¬ (m : Int) = 8 := by omega
      have HM1 : Hid (Calls Tryz.prog 78 #[.pointer (some ⟨r.gs, 0, none⟩), .string t] w fun e w' => e = .returned (.int .i64 0) ∧ ∃ v, SesAt w' r.gs (laidS r.x t) r.vK r.vQ v ∧ (∀ k, k < w.heap.size → Off k v) ∧ Tch r.gs w w') := Hid.mk (HM.out.mono (fun e w' q => by
        rcases q with ⟨q1, _⟩ | ⟨_, q1, q2, q3⟩ | ⟨_, _, q1, q2⟩
        · exact absurd ht q1
        · have := HMN.out; omega
        · exact ⟨q1, q2⟩))
      have HWF := Hid.mk (laidS_wf HP.out.wf t ht (by have := HMN.out; omega))
      have HNB : Hid (0 < (strCells r.x.draws).length → ad.block ≠ r.gs) := Hid.mk (fun hl => by
        rw [strCells_length, ← HMN.out] at hl
        exact HOS.out.s.d ad m cap (by rw [HED.out, ha2 (by omega)]) (by omega))
      clear hf ht
      go_enter Tryz.func44, Tryz.ntmps44
      go_wp2_with (first
        | (go_at_call 78; with_reducible refine HM1.out.mono ?_; rintro e w1 ⟨rfl, v1, hs1, ho1, t1⟩; have HS1 := Hid.mk hs1; have HO1 := Hid.mk ho1; have HT1 := Hid.mk t1; have k12' := pair_c12 (pair_tch HP.out t1 hne); rw [HED.out] at k12'; have HSRC := Hid.mk (src_tch HA3.out t1 HNB.out); clear k12 hs1 ho1 t1)
        | (at_builtin; refine wpl_appendL Tryz.underlying32 iStr (by omega) (by omega) rfl _ _ rfl w1.heap.size _ 0 [] rfl (World.ownsRow_nil _ _ _ _) ao ad m cap (strCells r.x.draws) rfl ha2 ?_ HSRC.out (strCells_one _) (by omega) (by omega) (Nat.le_refl _) ?_; (focus (rw [strCells_length, HMN.out])); intro v2 w2 hown2 hbel2 hsz2; have B2 := hbel2 w1 (Below.refl _ _); have HO2 := Hid.mk hown2; clear hown2 hbel2)
        | (at_builtin; refine wpl_appendL Tryz.underlying32 iStr (by omega) (by omega) rfl _ _ rfl w1.heap.size _ (0 + m) ([] ++ strCells r.x.draws) rfl ?_ _ ⟨w2.heap.size, 0, none⟩ 1 1 [.string t] rfl (fun _ => rfl) rfl (cell_one_new _ _ _) ?_ (by omega) (by omega) ?_ ?_; (focus (exact HO2.out.alloc _)); (focus (intro u hu; simp at hu; subst hu; rfl)); (focus (simp; omega)); intro v3 w3 hown3 hbel3 hsz3; have B3 := hbel3 w1 (B2.alloc hsz2 _); obtain ⟨aV, cV, eV⟩ := own_sl hown3; subst eV; have HO3 := Hid.mk hown3; have row3 := (below_row B3 (by rw [pair_tch HP.out HT1.out hne, pairC_size]; omega)).trans (pair_tch HP.out HT1.out hne); have k3 := pair_c12 row3; rw [HED.out] at k3; have z3 := pair_z row3 12 (by omega); clear hown3 hbel3 row3)
        | fail)
      go_ret
      have own := HO3.out
      rw [Nat.zero_add, List.nil_append] at own
      have HOW : w3.ownsRow w1.heap.size 9 1 (.slice aV (m + 1) cV) (r.x.draws ++ [t]).length (strCells (r.x.draws ++ [t])) := by
        rw [strCells_append, List.length_append, ← HMN.out]; exact own
      obtain ⟨p1, p2, p3⟩ := laid_pair HP.out hne HOP.out HOS.out t HWF.out v1 HS1.out HO1.out HT1.out B3 _ (StrsAt.of_owns HOW) (fun k hk => off_of_owns HOW hk)
      obtain ⟨q1, q2⟩ := H.out.pair HI.out p2 _ p1 rfl rfl p3
      exact ⟨rfl, Nxt.of q2 q1 (by rw [List.length_set]; exact h1) h2⟩
  · have c1 : ((t.size : Int) != 32) = true := by simp; omega
    have c2 : ¬ (t.size : Int) = 32 := by omega
    have HM1 : Hid (Calls Tryz.prog 78 #[.pointer (some ⟨r.gs, 0, none⟩), .string t] w fun e w' => e = .returned (.int .i64 1) ∧ Below w.heap.size w w') := Hid.mk (HM.out.mono (fun e w' q => by
        rcases q with ⟨_, q1⟩ | ⟨q1, _⟩ | ⟨q1, _⟩
        · exact q1
        · exact absurd q1 ht
        · exact absurd q1 ht))
    clear ht
    go_enter Tryz.func44, Tryz.ntmps44
    go_wp2_with (first | (go_at_call 78; with_reducible refine HM1.out.mono ?_; rintro e w1 ⟨rfl, b1⟩) | fail)
    go_ret
    exact ⟨rfl, Nxt.of_below HLS.out b1⟩
end Go.Proofs.YteghoooelgcpkaaGreatDoor
