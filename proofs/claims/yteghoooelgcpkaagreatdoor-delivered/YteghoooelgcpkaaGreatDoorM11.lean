import Derived.Maps.AppendAt
import Derived.Test.YteghoooelgcpkaaGreatDoorM08
import Derived.Test.YteghoooelgcpkaaGreatDoorM10
namespace Go.Proofs.YteghoooelgcpkaaGreatDoor
open Go.RowKit Go.Msg
theorem Tch.setRow {g : Nat} {w w' : World} (h : Tch g w w') (c : Array Value) : Tch g w (w'.setRow g c) :=
  ⟨h.os, h.tape, h.output, by rw [size_setRow]; exact h.size, fun k hk hg => (setRow_other _ _ _ _ hg).trans (h.block k hk hg)⟩
def ses0 : Array Value := #[.string ⟨#[]⟩, .string ⟨#[]⟩, .string ⟨#[]⟩, .string ⟨#[]⟩, .string ⟨#[]⟩, .int .i64 0, .int .i64 0, .int .i64 0, .slice none 0 0, .slice none 0 0, .slice none 0 0]
theorem ses0_pos : 0 < ses0.size := by decide
theorem ses_one {w : World} {g : Nat} {x : Sd} {vK vP vD : Value} (h : SesAt w g x vK vP vD) : (sesC x vK vP vD).all (·.oneCell') = true := by
  have e1 := h.vk.one; have e2 := h.vp.one; have e3 := h.vd.one
  simp [sesC, Value.oneCell'] at *
  exact ⟨e1, e2, e3⟩
theorem outs_t {g : Nat} {w w' : World} {vK vP vD : Value} {r : Sd × ByteArray × Int} {e : Ending} (h : Outs g w vK vP vD r e w') : Tch g w w' := h.2.1
theorem outs_ok {g : Nat} {w w' : World} {vK vP vD : Value} {r : Sd × ByteArray × Int} {e : Ending} (h : Outs g w vK vP vD r e w') (h0 : r.2.2 = 0) : ∃ vK' vP' vD', SesAt w' g r.1 vK' vP' vD' ∧ ∀ k, k < w.heap.size → Offs k vK vP vD → Offs k vK' vP' vD' := h.2.2 h0
def ReadP (gs : Nat) (w : World) (vK vP vD : Value) (r : Sd × ByteArray × Int) (e : Ending) (w' : World) : Prop :=
  e = .returned (.tuple #[.string r.2.1, .int .i64 r.2.2]) ∧ ((r.2.2 ≠ 0 ∧ Below w.heap.size w w') ∨ (r.2.2 = 0 ∧ Tch gs w w' ∧ ∃ vK' vP' vD', SesAt w' gs r.1 vK' vP' vD' ∧ ∀ k, k < w.heap.size → Offs k vK vP vD → Offs k vK' vP' vD'))
set_option maxHeartbeats 1000000 in
theorem read_long (gs : Nat) (m data : ByteArray) (hd : 100 < data.size) (w : World) :
    Calls Tryz.prog 30 #[.pointer (some ⟨gs, 0, none⟩), .string m, .string data] w fun e w' => e = .returned (.tuple #[.string ⟨#[]⟩, .int .i64 2]) ∧ Below w.heap.size w w' := by
  have c1 : (data.size : Int) > 100 := by omega
  go_enter Tryz.func30, Tryz.ntmps30
  go_wp2
  go_ret2
  exact ⟨rfl, Below.refl _ _⟩
set_option maxRecDepth 4000 in
set_option maxHeartbeats 4000000 in
theorem read_bad (gs : Nat) (m data : ByteArray) (hd : data.size ≤ 100) (hm : ¬ IsMsg m) (w : World) :
    Calls Tryz.prog 30 #[.pointer (some ⟨gs, 0, none⟩), .string m, .string data] w fun e w' => e = .returned (.tuple #[.string ⟨#[]⟩, .int .i64 5]) ∧ Below w.heap.size w w' := by
  have c1 : ¬ (data.size : Int) > 100 := by omega
  have HM : Hid (Calls Tryz.prog 53 #[.string m] w fun e w' => ∃ c, e = .returned (.tuple #[.agg c, .bool false]) ∧ c.size = 5 ∧ c.all (·.oneCell') = true ∧ Below w.heap.size w w') := Hid.mk ((messageOf_f m w).mono (fun e w' h => by
    rcases h.1 with ⟨h1, _⟩ | ⟨_, c, h1, h2, h3⟩
    · exact absurd h1 hm
    · exact ⟨c, h1, h2, h3, h.2⟩))
  clear hm
  go_enter Tryz.func30, Tryz.ntmps30
  go_wp2_with (first
    | (go_at_call 53; with_reducible refine HM.out.mono ?_; rintro e w1 ⟨c, rfl, hc, ho, B1⟩; obtain ⟨r1, w2, hw2, R2, B2, z2⟩ := new_stored B1 pc0 c 92 pc0_pos; have HC := Hid.mk (And.intro hc ho); clear hc ho)
    | (refine wpl_store rtPt rfl _ _ rfl w1.heap.size rfl c rfl ?_ HC.out.1 HC.out.2 w2 hw2.symm ?_; (focus (exact congrArg Array.size r1)); clear hw2 r1)
    | fail)
  go_ret2
  exact ⟨rfl, B2⟩
set_option maxRecDepth 4000 in
set_option maxHeartbeats 8000000 in
theorem read_main (x : Sd) (hx : x.Wf) (gs : Nat) (vK vP vD : Value) (m data : ByteArray) (hd : data.size ≤ 100) (hm : IsMsg m) (w : World) (hs : SesAt w gs x vK vP vD) (ho : Offs gs vK vP vD) (hT : Tbl w) :
    Calls Tryz.prog 30 #[.pointer (some ⟨gs, 0, none⟩), .string m, .string data] w fun e w' => ReadP gs w vK vP vD (hearS x m data) e w' := by
  have c1 : ¬ (data.size : Int) > 100 := by omega
  obtain ⟨p, hp⟩ : ∃ p, p = ptF m := ⟨_, rfl⟩
  have hpo : PtOk p := by rw [hp]; exact pt_ok hm
  have HH : Hid (p.head = (⟨#[82, 77]⟩ : ByteArray) ++ p.point ++ be 2 (p.ahead : Int) ++ be 2 (p.n : Int)) := Hid.mk (by rw [hp]; exact (msg_cut hm).2)
  have zh : p.head.size = 38 := by rw [hp]; exact (ptF_sizes hm).2.1
  rw [hearS_eq hm, ← hp]
  have HM : Hid (Calls Tryz.prog 53 #[.string m] w fun e w' => e = .returned (.tuple #[.agg (ptC p), .bool true]) ∧ Below w.heap.size w w') := Hid.mk ((messageOf_f m w).mono (fun e w' h => by
    rcases h.1 with ⟨_, h1⟩ | ⟨h1, _⟩
    · exact ⟨by rw [h1, hp]; rfl, h.2⟩
    · exact absurd hm h1))
  have hgl := hs.lt
  have hgn : ¬ gs = w.heap.size := by omega
  have ht2 := hT.lt
  have hpa := hpo.ahead
  have hpn := hpo.n
  have hba : 0 ≤ (p.ahead : Int) ∧ (p.ahead : Int) < 65536 := by omega
  have hbn : 0 ≤ (p.n : Int) ∧ (p.n : Int) < 65536 := by omega
  have zp := hpo.point
  obtain ⟨hdd, hhdd⟩ : ∃ h, h = p.head := ⟨_, rfl⟩
  have hdz : (data ++ p.head).size ≤ 200 := by rw [ByteArray.size_append]; omega
  rw [← hhdd] at HH zh
  obtain ⟨RES, hRES⟩ : ∃ r, r = hearP x p data := ⟨_, rfl⟩
  have HER : Hid (RES.2.2 ≠ 0 → RES.2.1 = ⟨#[]⟩) := Hid.mk (by rw [hRES]; exact hearP_text x p data)
  have HRD : Hid (∀ g W, SesAt W g x vK vP vD → Offs g vK vP vD → Tbl W → 2 ≤ g → Calls Tryz.prog 55 #[.pointer (some ⟨g, 0, none⟩), .agg (ptC p), .string (data ++ hdd)] W fun e w' => Outs g W vK vP vD RES e w') := Hid.mk (fun g W S O T h2 => by rw [hRES, hhdd]; exact sread_f x hx g vK vP vD p hpo data hdz W S O T h2)
  rw [← hRES]
  have HS := Hid.mk hs
  have HO := Hid.mk ho
  have HT := Hid.mk hT
  have HON := Hid.mk (ses_one hs)
  clear hs ho hT hx hm hp hpo hRES hhdd hdz
  by_cases h0 : RES.2.2 = 0
  · have b0 : (RES.2.2 != 0) = false := by rw [h0]; rfl
    have H0 := Hid.mk h0
    go_enter Tryz.func30, Tryz.ntmps30
    go_wp2_with (first
      | (go_at_call 53; with_reducible refine HM.out.mono ?_; rintro e w1 ⟨rfl, B1⟩; obtain ⟨r1, w2, hw2, R2, B2, z2⟩ := new_stored B1 pc0 (ptC p) 92 pc0_pos; have s1 := B1.size; have HR2 := Hid.mk R2; have HS2 := Hid.mk (HS.out.below B2); obtain ⟨r2, w3, hw3, R3, B3, z3⟩ := new_stored B2 ses0 (sesC x vK vP vD) 82 ses0_pos; have P3 := ns_other hw3 R2 (by rw [ptC_size]; omega); have HP3 := Hid.mk P3; have HR3 := Hid.mk R3; have p0 := pt_c0 P3; have p1 := pt_c1 P3; have p2 := pt_c2 P3; clear R2 R3; have s2 := B2.size; have s3 := B3.size)
      | (refine wpl_store rtPt rfl _ _ rfl w1.heap.size rfl (ptC p) rfl ?_ (ptC_size p) (ptC_one p) w2 hw2.symm ?_; (focus (exact congrArg Array.size r1)); clear hw2 r1)
      | (refine wpl_load rtSes rfl _ rfl gs rfl (sesC x vK vP vD) HS2.out.row (sesC_size _ _ _ _) ?_)
      | (refine wpl_store rtSes rfl _ _ rfl w2.heap.size rfl (sesC x vK vP vD) rfl ?_ (sesC_size _ _ _ _) HON.out w3 hw3.symm ?_; (focus (exact congrArg Array.size r2)); clear hw3 r2)
      | (go_at_call 54; have M := head_f p.point zp (p.ahead : Int) (p.n : Int) hba hbn w3; with_reducible refine M.mono ?_; clear M; rintro e w4 ⟨rfl, b4⟩; rw [← HH.out]; have B4 := below_lift B3 s3 b4; have P4 := pt_below HP3.out b4; have R4 := (below_row b4 (by rw [HR3.out, sesC_size]; omega)).trans HR3.out; have S0 := HS.out.below B4; have HS4 : Hid (SesAt w4 w2.heap.size x vK vP vD) := Hid.mk ⟨R4, S0.vk, S0.vp, S0.vd⟩; have HO4 : Hid (Offs w2.heap.size vK vP vD) := Hid.mk ⟨HS2.out.vk.fresh (Nat.le_refl _), HS2.out.vp.fresh (Nat.le_refl _), HS2.out.vd.fresh (Nat.le_refl _)⟩; clear R4 S0 p0 p1 p2)
      | (refine wpl_load rtPt rfl _ rfl w1.heap.size rfl (ptC p) P4 (ptC_size p) ?_)
      | (go_at_call 55; have M := HRD.out w2.heap.size w4 HS4.out HO4.out (HT.out.below B4) (by omega); with_reducible refine M.mono ?_; clear M; rintro e w5 h5; have he5 := outs_ret h5; subst he5; have t5 := outs_t h5; obtain ⟨vK', vP', vD', S5, o5⟩ := outs_ok h5 H0.out; clear h5; have HS5 := Hid.mk S5; have HO5 := Hid.mk o5; have HON5 := Hid.mk (ses_one S5); clear S5 o5; have B5 := below_tch' B4 t5 s2; have HSZ := Hid.mk ((congrArg Array.size (HS.out.below B5).row).trans (sesC_size x vK vP vD)))
      | (refine wpl_load rtSes rfl _ rfl w2.heap.size rfl (sesC RES.1 vK' vP' vD') HS5.out.row (sesC_size _ _ _ _) ?_)
      | (refine wpl_store rtSes rfl _ _ rfl gs rfl (sesC RES.1 vK' vP' vD') rfl ?_ (sesC_size _ _ _ _) HON5.out _ rfl ?_; (focus (exact HSZ.out)))
      | fail)
    go_ret2
    have t6 : Tch gs w5 (w5.setRow gs (sesC RES.1 vK' vP' vD')) := Tch.setRow (tch_refl gs w5) _
    have O6 := HO5.out gs (by have := B4.size; omega) HO.out
    refine ⟨by rw [H0.out]; rfl, Or.inr ⟨H0.out, (tch_of B5 gs).trans t6, vK', vP', vD', ⟨rowOf_setRow_same (by rw [HSZ.out]; omega), HS5.out.vk.tch t6 O6.k, HS5.out.vp.tch t6 O6.p, HS5.out.vd.tch t6 O6.d⟩, fun k hk h => HO5.out k (by have := B4.size; omega) h⟩⟩
  · have b0 : (RES.2.2 != 0) = true := by simp [h0]
    have H0 := Hid.mk h0
    go_enter Tryz.func30, Tryz.ntmps30
    go_wp2_with (first
      | (go_at_call 53; with_reducible refine HM.out.mono ?_; rintro e w1 ⟨rfl, B1⟩; obtain ⟨r1, w2, hw2, R2, B2, z2⟩ := new_stored B1 pc0 (ptC p) 92 pc0_pos; have s1 := B1.size; have HR2 := Hid.mk R2; have HS2 := Hid.mk (HS.out.below B2); obtain ⟨r2, w3, hw3, R3, B3, z3⟩ := new_stored B2 ses0 (sesC x vK vP vD) 82 ses0_pos; have P3 := ns_other hw3 R2 (by rw [ptC_size]; omega); have HP3 := Hid.mk P3; have HR3 := Hid.mk R3; have p0 := pt_c0 P3; have p1 := pt_c1 P3; have p2 := pt_c2 P3; clear R2 R3; have s2 := B2.size; have s3 := B3.size)
      | (refine wpl_store rtPt rfl _ _ rfl w1.heap.size rfl (ptC p) rfl ?_ (ptC_size p) (ptC_one p) w2 hw2.symm ?_; (focus (exact congrArg Array.size r1)); clear hw2 r1)
      | (refine wpl_load rtSes rfl _ rfl gs rfl (sesC x vK vP vD) HS2.out.row (sesC_size _ _ _ _) ?_)
      | (refine wpl_store rtSes rfl _ _ rfl w2.heap.size rfl (sesC x vK vP vD) rfl ?_ (sesC_size _ _ _ _) HON.out w3 hw3.symm ?_; (focus (exact congrArg Array.size r2)); clear hw3 r2)
      | (go_at_call 54; have M := head_f p.point zp (p.ahead : Int) (p.n : Int) hba hbn w3; with_reducible refine M.mono ?_; clear M; rintro e w4 ⟨rfl, b4⟩; rw [← HH.out]; have B4 := below_lift B3 s3 b4; have P4 := pt_below HP3.out b4; have R4 := (below_row b4 (by rw [HR3.out, sesC_size]; omega)).trans HR3.out; have S0 := HS.out.below B4; have HS4 : Hid (SesAt w4 w2.heap.size x vK vP vD) := Hid.mk ⟨R4, S0.vk, S0.vp, S0.vd⟩; have HO4 : Hid (Offs w2.heap.size vK vP vD) := Hid.mk ⟨HS2.out.vk.fresh (Nat.le_refl _), HS2.out.vp.fresh (Nat.le_refl _), HS2.out.vd.fresh (Nat.le_refl _)⟩; clear R4 S0 p0 p1 p2)
      | (refine wpl_load rtPt rfl _ rfl w1.heap.size rfl (ptC p) P4 (ptC_size p) ?_)
      | (go_at_call 55; have M := HRD.out w2.heap.size w4 HS4.out HO4.out (HT.out.below B4) (by omega); with_reducible refine M.mono ?_; clear M; rintro e w5 h5; have he5 := outs_ret h5; subst he5; have t5 := outs_t h5; clear h5; have B5 := below_tch' B4 t5 s2)
      | fail)
    go_ret2
    exact ⟨by rw [HER.out H0.out]; rfl, Or.inl ⟨H0.out, B5⟩⟩
theorem read_f (x : Sd) (hx : x.Wf) (gs : Nat) (vK vP vD : Value) (m data : ByteArray) (hd : data.size ≤ 100) (w : World) (hs : SesAt w gs x vK vP vD) (ho : Offs gs vK vP vD) (hT : Tbl w) :
    Calls Tryz.prog 30 #[.pointer (some ⟨gs, 0, none⟩), .string m, .string data] w fun e w' => ReadP gs w vK vP vD (hearS x m data) e w' := by
  by_cases hm : IsMsg m
  · exact read_main x hx gs vK vP vD m data hd hm w hs ho hT
  · refine (read_bad gs m data hd hm w).mono (fun e w' h => ?_)
    have e1 : hearS x m data = (x, ⟨#[]⟩, 5) := by unfold hearS; rw [if_pos hm]
    rw [e1]
    exact ⟨h.1, Or.inl ⟨by show (5 : Int) ≠ 0; decide, h.2⟩⟩
end Go.Proofs.YteghoooelgcpkaaGreatDoor
namespace Go.Proofs.YteghoooelgcpkaaGreatDoor
open Go.RowKit Go.Msg
section
variable {w w' : World} {b k : Nat} {root self mine theirs send read : ByteArray} {ns nr pn : Int} {vS vP vD : Value}
end
theorem at_store {P : Program} {ops : Array Oper} {rest : List Oper} {o : Oper} {a : Act} {w : World} {Q : Exit → Act → World → Prop} (t : Nat) {x y : Operand} (_ : o.op = .store t x y) (h : wpList P ops Q (o :: rest) a w) : wpList P ops Q (o :: rest) a w := h
theorem rowOf_new2 (w : World) (c : Array Value) (t g : Nat) (h : w.heap.size = g) : (w.alloc (.cells c t)).rowOf g = c := by subst h; simp [go_sem]
structure HI (w W : World) (gp : Nat) (cx : Array Value) (p : Pt) : Prop where
  b : Below w.heap.size w W
  x : W.rowOf w.heap.size = cx
  r : W.rowOf (w.heap.size + 1) = side0
  p : W.rowOf gp = partsC p
end Go.Proofs.YteghoooelgcpkaaGreatDoor
namespace Go.Proofs.YteghoooelgcpkaaGreatDoor
open Go.RowKit Go.Msg
end Go.Proofs.YteghoooelgcpkaaGreatDoor
namespace Go.Proofs.YteghoooelgcpkaaGreatDoor
open Go.RowKit Go.Msg
section
variable {w W W' : World} {s : ByteArray} {r r' : Sh} {c : Array Value}
end
end Go.Proofs.YteghoooelgcpkaaGreatDoor
namespace Go.Proofs.YteghoooelgcpkaaGreatDoor
open Go.RowKit Go.Msg
theorem own_sl {w : World} {B e S : Nat} {v : Value} {n : Nat} {xs : List Value} (h : w.ownsRow B e S v n xs) : ∃ a c, v = .slice a n c := by
  obtain ⟨a, c, _, h, _⟩ := own_shape h
  exact ⟨a, c, h⟩
structure HY (w W : World) (gp gy : Nat) (x : Sd) (vS vP vD : Value) (p : Pt) (row : Array Value) (uS uP uD : Value) (lS : List Kp) (lP lD : List ByteArray) : Prop where
  hi : HI w W gp (sideC x vS vP vD) p
  g1 : w.heap.size + 1 < gy
  g2 : gy ≠ gp
  y : W.rowOf gy = row
  sz : row.size = 12
  ks : KpsAt W uS lS
  ps : StrsAt W uP lP
  ds : StrsAt W uD lD
  oy : Offs gy uS uP uD
  ot : Offs (w.heap.size + 1) uS uP uD
  ok : ∀ k, k < w.heap.size → Offs k vS vP vD → Offs k uS uP uD
section
variable {w W W' : World} {gp gy : Nat} {x : Sd} {vS vP vD : Value} {p : Pt} {row : Array Value} {uS uP uD : Value} {lS : List Kp} {lP lD : List ByteArray}
end
end Go.Proofs.YteghoooelgcpkaaGreatDoor
namespace Go.Proofs.YteghoooelgcpkaaGreatDoor
open Go.RowKit Go.Msg
end Go.Proofs.YteghoooelgcpkaaGreatDoor
namespace Go
open Go.RowKit
structure TchS (S : Nat → Prop) (w w' : World) : Prop where
  os : w'.os = w.os
  tape : w'.tape = w.tape
  output : w'.output = w.output
  size : w.heap.size ≤ w'.heap.size
  block : ∀ k, k < w.heap.size → ¬ S k → w'.heap[k]? = w.heap[k]?
section
variable {S S' : Nat → Prop} {g B : Nat} {a b c w w' : World}
theorem TchS.mono (h : TchS S w w') (hs : ∀ g, g < w.heap.size → S g → S' g) : TchS S' w w' := ⟨h.os, h.tape, h.output, h.size, fun k hk hn => h.block k hk (fun q => hn (hs k hk q))⟩
theorem TchS.trans (h : TchS S a b) (k : TchS S b c) : TchS S a c :=
  ⟨k.os.trans h.os, k.tape.trans h.tape, k.output.trans h.output, Nat.le_trans h.size k.size, fun i hi hg => (k.block i (Nat.lt_of_lt_of_le hi h.size) hg).trans (h.block i hi hg)⟩
theorem TchS.of_below (h : Below w.heap.size w w') : TchS S w w' := ⟨h.os, h.tape, h.output, h.size, fun k hk _ => h.block k hk⟩
theorem TchS.of_tch (h : Tch g w w') (hg : g < w.heap.size → S g) : TchS S w w' := ⟨h.os, h.tape, h.output, h.size, fun k hk hn => h.block k hk (fun e => hn (by subst e; exact hg hk))⟩
theorem TchS.of_grown {r : Option Nat} (h : w.grownBy w' r) (hg : ∀ g, r = some g → S g) : TchS S w w' := ⟨h.os, h.tape, h.output, h.size, fun k hk hn => h.block k hk (fun e => hn (hg k e.symm))⟩
theorem TchS.below (h : TchS S w w') (hB : Below B a w) (hs : B ≤ w.heap.size) (hg : ∀ g, S g → B ≤ g) : Below B a w' :=
  ⟨h.os.trans hB.os, h.tape.trans hB.tape, h.output.trans hB.output, Nat.le_trans hB.size h.size, fun k hk => (h.block k (by omega) (fun q => by have := hg k q; omega)).trans (hB.block k hk)⟩
theorem TchS.cell (h : TchS S w w') {p : Addr} (hp : p.block < w.heap.size) (hg : ¬ S p.block) : w'.cell? p = w.cell? p := World.cell?_of_block (w := w) (h.block p.block hp hg)
theorem TchS.row (h : TchS S w w') {k : Nat} (hs : 0 < (w.rowOf k).size) (hg : ¬ S k) : w'.rowOf k = w.rowOf k := by
  have := h.block k (rowOf_lt hs) hg
  simp only [World.rowOf, this]
theorem TchS.owns (h : TchS S w w') {B e s n : Nat} {v : Value} {xs : List Value} (o : w.ownsRow B e s v n xs) (hg : ∀ g, v.ownBlock = some g → ¬ S g) : w'.ownsRow B e s v n xs := by
  refine ⟨o.1, ?_⟩
  rcases o.2 with h1 | ⟨g, cap, cur, hv, hb, hh, rest⟩
  · exact Or.inl h1
  · refine Or.inr ⟨g, cap, cur, hv, hb, ?_, rest⟩
    rw [h.block g (Array.getElem?_eq_some_iff.1 hh).1 (hg g (by rw [hv]; rfl))]; exact hh
end
theorem wpl_appendT {P : Program} {t e S B : Nat} (ht : P.underlying t = some (.slice e)) (hi : (P.info? e).map (fun i => (i.zero.map (fun z => z.cells.size), i.size, i.bytes)) = some (some S, S, B)) (hS0 : 0 < S) (hB : B ≤ 100) {ops : Array Oper} {rest : List Oper} {o : Oper} {a : Act} {w : World} {Q : Exit → Act → World → Prop} (hgd : o.guard = none) (s x : Operand)
    (ho : o.op = .call { callee := .builtin .append, args := #[s, x], argTypes := #[t, t] }) (base : Nat) (v : Value) (n : Nat) (xs : List Value) (hs : a.eval s = v) (hown : w.ownsRow base e S v n xs) (ad : Addr) (m c : Nat) (news : List Value)
    (hx : a.eval x = .slice (some ad) m c) (hm0 : 0 < m) (hl : news.length = m * S) (hz : ∀ j u, news[j]? = some u → w.cell? (ad.add j) = some u) (h1 : ∀ u ∈ news, u.oneCell' = true) (hn : n ≤ 4000000) (hm : m ≤ 1000000) (hb : base ≤ w.heap.size)
    (h : ∀ v' w', w'.ownsRow base e S v' (n + m) (xs ++ news) → w.grownBy w' v.ownBlock → (v'.ownBlock = v.ownBlock ∨ v'.ownBlock = some w.heap.size) → wpList P ops Q rest (a.put o.dst v') w') : wpList P ops Q (o :: rest) a w := by
  cases hq : P.info? e with
  | none => simp [hq] at hi
  | some i =>
    cases hzz : i.zero with
    | none => simp [hq, hzz] at hi
    | some z =>
      simp [hq, hzz] at hi
      obtain ⟨i1, i2, i3⟩ := hi
      refine wpList_append_own_at _ hgd s x t ho base e i z S B ht hq hzz i2 i3 i1 hS0 v n xs hs hown ad m c news hx hl hz h1 ?_ ?_ hb ?_
      · unfold maxLen; omega
      · have : (n + m) * B ≤ 5000000 * 100 := Nat.mul_le_mul (by omega) (by omega)
        omega
      · intro v' w' h2 h3 _ h4
        exact h v' w' h2 h3 h4
end Go
namespace Go.Proofs.YteghoooelgcpkaaGreatDoor
open Go.RowKit Go.Msg
section
variable {S : Nat → Prop} {w w' : World}
theorem StrsAt.tchS {v : Value} {l : List ByteArray} (h : StrsAt w v l) (hb : TchS S w w') (ho : ∀ g, S g → Off g v) : StrsAt w' v l := by
  obtain ⟨ao, cap, k, o, rfl, h2, h3, h4⟩ := h
  refine ⟨ao, cap, k, o, rfl, h2, h3, fun i t hi => ?_⟩
  have hl : 0 < l.length := Nat.lt_of_le_of_lt (Nat.zero_le _) (List.getElem?_eq_some_iff.1 hi).1
  have hk : ¬ S k := fun q => ho k q ⟨k, o, none⟩ l.length cap (by rw [h3 hl]) hl rfl
  rw [hb.cell (World.block_lt_of_cell? w _ (h4 i t hi)) hk]; exact h4 i t hi
theorem KpsAt.tchS {v : Value} {l : List Kp} (h : KpsAt w v l) (hb : TchS S w w') (ho : ∀ g, S g → Off g v) : KpsAt w' v l := by
  obtain ⟨ao, cap, k, o, rfl, h2, h3, h4⟩ := h
  refine ⟨ao, cap, k, o, rfl, h2, h3, fun i t hi => ?_⟩
  have hl : 0 < l.length := Nat.lt_of_le_of_lt (Nat.zero_le _) (List.getElem?_eq_some_iff.1 hi).1
  have hk : ¬ S k := fun q => ho k q ⟨k, o, none⟩ l.length cap (by rw [h3 hl]) hl rfl
  obtain ⟨a, b, c⟩ := h4 i t hi
  exact ⟨by rw [hb.cell (World.block_lt_of_cell? w _ a) hk]; exact a, by rw [hb.cell (World.block_lt_of_cell? w _ b) hk]; exact b, by rw [hb.cell (World.block_lt_of_cell? w _ c) hk]; exact c⟩
theorem SesAt.tchS {k : Nat} {x : Sd} {vK vP vD : Value} (h : SesAt w k x vK vP vD) (hb : TchS S w w') (hk : ¬ S k) (ho : ∀ g, S g → Offs g vK vP vD) : SesAt w' k x vK vP vD :=
  ⟨by rw [hb.row (by rw [h.row, sesC_size]; omega) hk]; exact h.row, h.vk.tchS hb (fun g q => (ho g q).k), h.vp.tchS hb (fun g q => (ho g q).p), h.vd.tchS hb (fun g q => (ho g q).d)⟩
theorem SesAt.fresh {k : Nat} {x : Sd} {vK vP vD : Value} (h : SesAt w k x vK vP vD) {g : Nat} (hg : w.heap.size ≤ g) : Offs g vK vP vD := ⟨h.vk.fresh hg, h.vp.fresh hg, h.vd.fresh hg⟩
end
structure PR where
  gp : Nat
  gs : Nat
  x : Sd
  vS : Value
  vP : Value
  vD : Value
  vK : Value
  vQ : Value
  vE : Value
section
variable {S : Nat → Prop} {w w' : World} {r : PR}
end
section
variable {w0 w w' : World} {gw : Nat} {pv : Value} {ρ : Nat → Nat} {vp vm : Value} {L : List PR} {M : List ByteArray} {a b : ByteArray} {S : Nat → Prop}
end
section
variable {w0 w w' w1 : World} {gw n m : Nat} {pv : Value} {ρ : Nat → Nat}
end
end Go.Proofs.YteghoooelgcpkaaGreatDoor
namespace Go.Proofs.YteghoooelgcpkaaGreatDoor
open Go.RowKit Go.Msg
end Go.Proofs.YteghoooelgcpkaaGreatDoor
