import Derived.Test.YteghoooelgcpkaaGreatDoorM21
namespace Go.Proofs.YteghoooelgcpkaaGreatDoor
open Go.RowKit Go.Msg
theorem Tch.setRow {g : Nat} {w w' : World} (h : Tch g w w') (c : Array Value) : Tch g w (w'.setRow g c) :=
  ⟨h.os, h.tape, h.output, by rw [size_setRow]; exact h.size, fun k hk hg => (setRow_other _ _ _ _ hg).trans (h.block k hk hg)⟩
def ses0 : Array Value := #[.string ⟨#[]⟩, .string ⟨#[]⟩, .string ⟨#[]⟩, .string ⟨#[]⟩, .string ⟨#[]⟩, .int .i64 0, .int .i64 0, .int .i64 0, .slice none 0 0, .slice none 0 0, .slice none 0 0]
theorem ses0_pos : 0 < ses0.size := by decide
theorem ses_one {w : World} {g : Nat} {x : Sd} {vK vP vD : Value} (h : SesAt w g x vK vP vD) : (sesC x vK vP vD).all (·.oneCell') = true := by
  have e1 := h.vk.one; have e2 := h.vp.one; have e3 := h.vd.one
  simp [sesC, Value.oneCell'] at *
  exact ⟨e1, e2, e3⟩
theorem outs_t {g : Nat} {w w' : World} {vK vP vD : Value} {r : Sd × ByteArray × Int} {e : Ending} (h : Outs g w vK vP vD r e w') : Tch g w w' := h.2.1
theorem outs_ok {g : Nat} {w w' : World} {vK vP vD : Value} {r : Sd × ByteArray × Int} {e : Ending} (h : Outs g w vK vP vD r e w') (h0 : r.2.2 = 0) : ∃ vK' vP' vD', SesAt w' g r.1 vK' vP' vD' ∧ ∀ k, k < w.heap.size → Offs k vK vP vD → Offs k vK' vP' vD' := h.2.2 h0
def ReadP (gs : Nat) (w : World) (vK vP vD : Value) (r : Sd × ByteArray × Int) (e : Ending) (w' : World) : Prop :=
  e = .returned (.tuple #[.string r.2.1, .int .i64 r.2.2]) ∧ ((r.2.2 ≠ 0 ∧ Below w.heap.size w w') ∨ (r.2.2 = 0 ∧ Tch gs w w' ∧ ∃ vK' vP' vD', SesAt w' gs r.1 vK' vP' vD' ∧ ∀ k, k < w.heap.size → Offs k vK vP vD → Offs k vK' vP' vD'))
set_option maxHeartbeats 1000000 in
theorem read_long (gs : Nat) (m data : ByteArray) (hd : 100 < data.size) (w : World) :
    Calls Tryz.prog 30 #[.pointer (some ⟨gs, 0, none⟩), .string m, .string data] w fun e w' => e = .returned (.tuple #[.string ⟨#[]⟩, .int .i64 2]) ∧ Below w.heap.size w w' := by
  have c1 : (data.size : Int) > 100 := by omega
  go_enter Tryz.func30, Tryz.ntmps30
  go_wp2
  go_ret2
  exact ⟨rfl, Below.refl _ _⟩
set_option maxRecDepth 4000 in
set_option maxHeartbeats 4000000 in
theorem read_bad (gs : Nat) (m data : ByteArray) (hd : data.size ≤ 100) (hm : ¬ IsMsg m) (w : World) :
    Calls Tryz.prog 30 #[.pointer (some ⟨gs, 0, none⟩), .string m, .string data] w fun e w' => e = .returned (.tuple #[.string ⟨#[]⟩, .int .i64 5]) ∧ Below w.heap.size w w' := by
  have c1 : ¬ (data.size : Int) > 100 := by omega
  have HM : Hid (Calls Tryz.prog 53 #[.string m] w fun e w' => ∃ c, e = .returned (.tuple #[.agg c, .bool false]) ∧ c.size = 5 ∧ c.all (·.oneCell') = true ∧ Below w.heap.size w w') := Hid.mk ((messageOf_f m w).mono (fun e w' h => by
    rcases h.1 with ⟨h1, _⟩ | ⟨_, c, h1, h2, h3⟩
    · exact absurd h1 hm
    · exact ⟨c, h1, h2, h3, h.2⟩))
  clear hm
  go_enter Tryz.func30, Tryz.ntmps30
  go_wp2_with (first
    | (go_at_call 53; with_reducible refine HM.out.mono ?_; rintro e w1 ⟨c, rfl, hc, ho, B1⟩; obtain ⟨r1, w2, hw2, R2, B2, z2⟩ := new_stored B1 pc0 c 92 pc0_pos; have HC := Hid.mk (And.intro hc ho); clear hc ho)
    | (refine wpl_store rtPt rfl _ _ rfl w1.heap.size rfl c rfl ?_ HC.out.1 HC.out.2 w2 hw2.symm ?_; (focus (exact congrArg Array.size r1)); clear hw2 r1)
    | fail)
  go_ret2
  exact ⟨rfl, B2⟩
set_option maxRecDepth 4000 in
set_option maxHeartbeats 8000000 in
theorem read_main (x : Sd) (hx : x.Wf) (gs : Nat) (vK vP vD : Value) (m data : ByteArray) (hd : data.size ≤ 100) (hm : IsMsg m) (w : World) (hs : SesAt w gs x vK vP vD) (ho : Offs gs vK vP vD) (hT : Tbl w) :
    Calls Tryz.prog 30 #[.pointer (some ⟨gs, 0, none⟩), .string m, .string data] w fun e w' => ReadP gs w vK vP vD (hearS x m data) e w' := by
  have c1 : ¬ (data.size : Int) > 100 := by omega
  obtain ⟨p, hp⟩ : ∃ p, p = ptF m := ⟨_, rfl⟩
  have hpo : PtOk p := by rw [hp]; exact pt_ok hm
  have HH : Hid (p.head = (⟨#[82, 77]⟩ : ByteArray) ++ p.point ++ be 2 (p.ahead : Int) ++ be 2 (p.n : Int)) := Hid.mk (by rw [hp]; exact (msg_cut hm).2)
  have zh : p.head.size = 38 := by rw [hp]; exact (ptF_sizes hm).2.1
  rw [hearS_eq hm, ← hp]
  have HM : Hid (Calls Tryz.prog 53 #[.string m] w fun e w' => e = .returned (.tuple #[.agg (ptC p), .bool true]) ∧ Below w.heap.size w w') := Hid.mk ((messageOf_f m w).mono (fun e w' h => by
    rcases h.1 with ⟨_, h1⟩ | ⟨h1, _⟩
    · exact ⟨by rw [h1, hp]; rfl, h.2⟩
    · exact absurd hm h1))
  have hgl := hs.lt
  have hgn : ¬ gs = w.heap.size := by omega
  have ht2 := hT.lt
  have hpa := hpo.ahead
  have hpn := hpo.n
  have hba : 0 ≤ (p.ahead : Int) ∧ (p.ahead : Int) < 65536 := by omega
  have hbn : 0 ≤ (p.n : Int) ∧ (p.n : Int) < 65536 := by omega
  have zp := hpo.point
  obtain ⟨hdd, hhdd⟩ : ∃ h, h = p.head := ⟨_, rfl⟩
  have hdz : (data ++ p.head).size ≤ 200 := by rw [ByteArray.size_append]; omega
  rw [← hhdd] at HH zh
  obtain ⟨RES, hRES⟩ : ∃ r, r = hearP x p data := ⟨_, rfl⟩
  have HER : Hid (RES.2.2 ≠ 0 → RES.2.1 = ⟨#[]⟩) := Hid.mk (by rw [hRES]; exact hearP_text x p data)
  have HRD : Hid (∀ g W, SesAt W g x vK vP vD → Offs g vK vP vD → Tbl W → 2 ≤ g → Calls Tryz.prog 55 #[.pointer (some ⟨g, 0, none⟩), .agg (ptC p), .string (data ++ hdd)] W fun e w' => Outs g W vK vP vD RES e w') := Hid.mk (fun g W S O T h2 => by rw [hRES, hhdd]; exact sread_f x hx g vK vP vD p hpo data hdz W S O T h2)
  rw [← hRES]
  have HS := Hid.mk hs
  have HO := Hid.mk ho
  have HT := Hid.mk hT
  have HON := Hid.mk (ses_one hs)
  clear hs ho hT hx hm hp hpo hRES hhdd hdz
  by_cases h0 : RES.2.2 = 0
  · have b0 : (RES.2.2 != 0) = false := by rw [h0]; rfl
    have H0 := Hid.mk h0
    go_enter Tryz.func30, Tryz.ntmps30
    go_wp2_with (first
      | (go_at_call 53; with_reducible refine HM.out.mono ?_; rintro e w1 ⟨rfl, B1⟩; obtain ⟨r1, w2, hw2, R2, B2, z2⟩ := new_stored B1 pc0 (ptC p) 92 pc0_pos; have s1 := B1.size; have HR2 := Hid.mk R2; have HS2 := Hid.mk (HS.out.below B2); obtain ⟨r2, w3, hw3, R3, B3, z3⟩ := new_stored B2 ses0 (sesC x vK vP vD) 82 ses0_pos; have P3 := ns_other hw3 R2 (by rw [ptC_size]; omega); have HP3 := Hid.mk P3; have HR3 := Hid.mk R3; have p0 := pt_c0 P3; have p1 := pt_c1 P3; have p2 := pt_c2 P3; clear R2 R3; have s2 := B2.size; have s3 := B3.size)
      | (refine wpl_store rtPt rfl _ _ rfl w1.heap.size rfl (ptC p) rfl ?_ (ptC_size p) (ptC_one p) w2 hw2.symm ?_; (focus (exact congrArg Array.size r1)); clear hw2 r1)
      | (refine wpl_load rtSes rfl _ rfl gs rfl (sesC x vK vP vD) HS2.out.row (sesC_size _ _ _ _) ?_)
      | (refine wpl_store rtSes rfl _ _ rfl w2.heap.size rfl (sesC x vK vP vD) rfl ?_ (sesC_size _ _ _ _) HON.out w3 hw3.symm ?_; (focus (exact congrArg Array.size r2)); clear hw3 r2)
      | (go_at_call 54; have M := head_f p.point zp (p.ahead : Int) (p.n : Int) hba hbn w3; with_reducible refine M.mono ?_; clear M; rintro e w4 ⟨rfl, b4⟩; rw [← HH.out]; have B4 := below_lift B3 s3 b4; have P4 := pt_below HP3.out b4; have R4 := (below_row b4 (by rw [HR3.out, sesC_size]; omega)).trans HR3.out; have S0 := HS.out.below B4; have HS4 : Hid (SesAt w4 w2.heap.size x vK vP vD) := Hid.mk ⟨R4, S0.vk, S0.vp, S0.vd⟩; have HO4 : Hid (Offs w2.heap.size vK vP vD) := Hid.mk ⟨HS2.out.vk.fresh (Nat.le_refl _), HS2.out.vp.fresh (Nat.le_refl _), HS2.out.vd.fresh (Nat.le_refl _)⟩; clear R4 S0 p0 p1 p2)
      | (refine wpl_load rtPt rfl _ rfl w1.heap.size rfl (ptC p) P4 (ptC_size p) ?_)
      | (go_at_call 55; have M := HRD.out w2.heap.size w4 HS4.out HO4.out (HT.out.below B4) (by omega); with_reducible refine M.mono ?_; clear M; rintro e w5 h5; have he5 := outs_ret h5; subst he5; have t5 := outs_t h5; obtain ⟨vK', vP', vD', S5, o5⟩ := outs_ok h5 H0.out; clear h5; have HS5 := Hid.mk S5; have HO5 := Hid.mk o5; have HON5 := Hid.mk (ses_one S5); clear S5 o5; have B5 := below_tch' B4 t5 s2; have HSZ := Hid.mk ((congrArg Array.size (HS.out.below B5).row).trans (sesC_size x vK vP vD)))
      | (refine wpl_load rtSes rfl _ rfl w2.heap.size rfl (sesC RES.1 vK' vP' vD') HS5.out.row (sesC_size _ _ _ _) ?_)
      | (refine wpl_store rtSes rfl _ _ rfl gs rfl (sesC RES.1 vK' vP' vD') rfl ?_ (sesC_size _ _ _ _) HON5.out _ rfl ?_; (focus (exact HSZ.out)))
      | fail)
    go_ret2
    have t6 : Tch gs w5 (w5.setRow gs (sesC RES.1 vK' vP' vD')) := Tch.setRow (tch_refl gs w5) _
    have O6 := HO5.out gs (by have := B4.size; omega) HO.out
    refine ⟨by rw [H0.out]; rfl, Or.inr ⟨H0.out, (tch_of B5 gs).trans t6, vK', vP', vD', ⟨rowOf_setRow_same (by rw [HSZ.out]; omega), HS5.out.vk.tch t6 O6.k, HS5.out.vp.tch t6 O6.p, HS5.out.vd.tch t6 O6.d⟩, fun k hk h => HO5.out k (by have := B4.size; omega) h⟩⟩
  · have b0 : (RES.2.2 != 0) = true := by simp [h0]
    have H0 := Hid.mk h0
    go_enter Tryz.func30, Tryz.ntmps30
    go_wp2_with (first
      | (go_at_call 53; with_reducible refine HM.out.mono ?_; rintro e w1 ⟨rfl, B1⟩; obtain ⟨r1, w2, hw2, R2, B2, z2⟩ := new_stored B1 pc0 (ptC p) 92 pc0_pos; have s1 := B1.size; have HR2 := Hid.mk R2; have HS2 := Hid.mk (HS.out.below B2); obtain ⟨r2, w3, hw3, R3, B3, z3⟩ := new_stored B2 ses0 (sesC x vK vP vD) 82 ses0_pos; have P3 := ns_other hw3 R2 (by rw [ptC_size]; omega); have HP3 := Hid.mk P3; have HR3 := Hid.mk R3; have p0 := pt_c0 P3; have p1 := pt_c1 P3; have p2 := pt_c2 P3; clear R2 R3; have s2 := B2.size; have s3 := B3.size)
      | (refine wpl_store rtPt rfl _ _ rfl w1.heap.size rfl (ptC p) rfl ?_ (ptC_size p) (ptC_one p) w2 hw2.symm ?_; (focus (exact congrArg Array.size r1)); clear hw2 r1)
      | (refine wpl_load rtSes rfl _ rfl gs rfl (sesC x vK vP vD) HS2.out.row (sesC_size _ _ _ _) ?_)
      | (refine wpl_store rtSes rfl _ _ rfl w2.heap.size rfl (sesC x vK vP vD) rfl ?_ (sesC_size _ _ _ _) HON.out w3 hw3.symm ?_; (focus (exact congrArg Array.size r2)); clear hw3 r2)
      | (go_at_call 54; have M := head_f p.point zp (p.ahead : Int) (p.n : Int) hba hbn w3; with_reducible refine M.mono ?_; clear M; rintro e w4 ⟨rfl, b4⟩; rw [← HH.out]; have B4 := below_lift B3 s3 b4; have P4 := pt_below HP3.out b4; have R4 := (below_row b4 (by rw [HR3.out, sesC_size]; omega)).trans HR3.out; have S0 := HS.out.below B4; have HS4 : Hid (SesAt w4 w2.heap.size x vK vP vD) := Hid.mk ⟨R4, S0.vk, S0.vp, S0.vd⟩; have HO4 : Hid (Offs w2.heap.size vK vP vD) := Hid.mk ⟨HS2.out.vk.fresh (Nat.le_refl _), HS2.out.vp.fresh (Nat.le_refl _), HS2.out.vd.fresh (Nat.le_refl _)⟩; clear R4 S0 p0 p1 p2)
      | (refine wpl_load rtPt rfl _ rfl w1.heap.size rfl (ptC p) P4 (ptC_size p) ?_)
      | (go_at_call 55; have M := HRD.out w2.heap.size w4 HS4.out HO4.out (HT.out.below B4) (by omega); with_reducible refine M.mono ?_; clear M; rintro e w5 h5; have he5 := outs_ret h5; subst he5; have t5 := outs_t h5; clear h5; have B5 := below_tch' B4 t5 s2)
      | fail)
    go_ret2
    exact ⟨by rw [HER.out H0.out]; rfl, Or.inl ⟨H0.out, B5⟩⟩
theorem read_f (x : Sd) (hx : x.Wf) (gs : Nat) (vK vP vD : Value) (m data : ByteArray) (hd : data.size ≤ 100) (w : World) (hs : SesAt w gs x vK vP vD) (ho : Offs gs vK vP vD) (hT : Tbl w) :
    Calls Tryz.prog 30 #[.pointer (some ⟨gs, 0, none⟩), .string m, .string data] w fun e w' => ReadP gs w vK vP vD (hearS x m data) e w' := by
  by_cases hm : IsMsg m
  · exact read_main x hx gs vK vP vD m data hd hm w hs ho hT
  · refine (read_bad gs m data hd hm w).mono (fun e w' h => ?_)
    have e1 : hearS x m data = (x, ⟨#[]⟩, 5) := by unfold hearS; rw [if_pos hm]
    rw [e1]
    exact ⟨h.1, Or.inl ⟨by show (5 : Int) ≠ 0; decide, h.2⟩⟩
end Go.Proofs.YteghoooelgcpkaaGreatDoor
namespace Go.Proofs.YteghoooelgcpkaaGreatDoor
open Go.RowKit Go.Msg
def dC (root self mine theirs send read : ByteArray) (ns nr pn : Int) (vS vP vD : Value) : Array Value := #[.string root, .string self, .string mine, .string theirs, .string send, .string read, .int .i64 ns, .int .i64 nr, .int .i64 pn, vS, vP, vD]
theorem dC_side (x : Sd) (vS vP vD : Value) : sideC x vS vP vD = dC x.root x.self (pubF x.self) x.theirs x.send x.read (x.ns : Int) (x.nr : Int) (x.pn : Int) vS vP vD := rfl
theorem sideC_size (x : Sd) (vS vP vD : Value) : (sideC x vS vP vD).size = 12 := rfl
section
variable {w w' : World} {b k : Nat} {root self mine theirs send read : ByteArray} {ns nr pn : Int} {vS vP vD : Value}
theorem dC_size : (dC root self mine theirs send read ns nr pn vS vP vD).size = 12 := rfl
theorem dC_one (h1 : vS.oneCell' = true) (h2 : vP.oneCell' = true) (h3 : vD.oneCell' = true) : (dC root self mine theirs send read ns nr pn vS vP vD).all (·.oneCell') = true := by
  simp [dC, Value.oneCell'] at *
  exact ⟨h1, h2, h3⟩
theorem d_below (h : w.rowOf b = dC root self mine theirs send read ns nr pn vS vP vD) (t : Below w.heap.size w w') : w'.rowOf b = dC root self mine theirs send read ns nr pn vS vP vD := (below_row t (by rw [h, dC_size]; omega)).trans h
theorem d_z (h : w.rowOf b = dC root self mine theirs send read ns nr pn vS vP vD) (i : Nat) (hi : i < 12) : w.frozen? ⟨b, i, none⟩ = false := rowfz2 h i (by rw [dC_size]; exact hi)
theorem d_set0 (h : w.rowOf b = dC root self mine theirs send read ns nr pn vS vP vD) (u : ByteArray) : (w.setCell ⟨b, 0, none⟩ (.string u)).rowOf b = dC u self mine theirs send read ns nr pn vS vP vD := rowOf_setCell h (by rw [dC_size]; omega) 0 _
theorem d_c0 (h : w.rowOf b = dC root self mine theirs send read ns nr pn vS vP vD) : w.cell? ⟨b, 0, none⟩ = some (.string root) := rowcell h 0 _ rfl
theorem d_set1 (h : w.rowOf b = dC root self mine theirs send read ns nr pn vS vP vD) (u : ByteArray) : (w.setCell ⟨b, 1, none⟩ (.string u)).rowOf b = dC root u mine theirs send read ns nr pn vS vP vD := rowOf_setCell h (by rw [dC_size]; omega) 1 _
theorem d_c1 (h : w.rowOf b = dC root self mine theirs send read ns nr pn vS vP vD) : w.cell? ⟨b, 1, none⟩ = some (.string self) := rowcell h 1 _ rfl
theorem d_set2 (h : w.rowOf b = dC root self mine theirs send read ns nr pn vS vP vD) (u : ByteArray) : (w.setCell ⟨b, 2, none⟩ (.string u)).rowOf b = dC root self u theirs send read ns nr pn vS vP vD := rowOf_setCell h (by rw [dC_size]; omega) 2 _
theorem d_c2 (h : w.rowOf b = dC root self mine theirs send read ns nr pn vS vP vD) : w.cell? ⟨b, 2, none⟩ = some (.string mine) := rowcell h 2 _ rfl
theorem d_set3 (h : w.rowOf b = dC root self mine theirs send read ns nr pn vS vP vD) (u : ByteArray) : (w.setCell ⟨b, 3, none⟩ (.string u)).rowOf b = dC root self mine u send read ns nr pn vS vP vD := rowOf_setCell h (by rw [dC_size]; omega) 3 _
theorem d_c3 (h : w.rowOf b = dC root self mine theirs send read ns nr pn vS vP vD) : w.cell? ⟨b, 3, none⟩ = some (.string theirs) := rowcell h 3 _ rfl
theorem d_set4 (h : w.rowOf b = dC root self mine theirs send read ns nr pn vS vP vD) (u : ByteArray) : (w.setCell ⟨b, 4, none⟩ (.string u)).rowOf b = dC root self mine theirs u read ns nr pn vS vP vD := rowOf_setCell h (by rw [dC_size]; omega) 4 _
theorem d_c4 (h : w.rowOf b = dC root self mine theirs send read ns nr pn vS vP vD) : w.cell? ⟨b, 4, none⟩ = some (.string send) := rowcell h 4 _ rfl
theorem d_set5 (h : w.rowOf b = dC root self mine theirs send read ns nr pn vS vP vD) (u : ByteArray) : (w.setCell ⟨b, 5, none⟩ (.string u)).rowOf b = dC root self mine theirs send u ns nr pn vS vP vD := rowOf_setCell h (by rw [dC_size]; omega) 5 _
theorem d_c5 (h : w.rowOf b = dC root self mine theirs send read ns nr pn vS vP vD) : w.cell? ⟨b, 5, none⟩ = some (.string read) := rowcell h 5 _ rfl
theorem d_set6 (h : w.rowOf b = dC root self mine theirs send read ns nr pn vS vP vD) (u : Int) : (w.setCell ⟨b, 6, none⟩ (.int .i64 u)).rowOf b = dC root self mine theirs send read u nr pn vS vP vD := rowOf_setCell h (by rw [dC_size]; omega) 6 _
theorem d_c6 (h : w.rowOf b = dC root self mine theirs send read ns nr pn vS vP vD) : w.cell? ⟨b, 6, none⟩ = some (.int .i64 ns) := rowcell h 6 _ rfl
theorem d_set7 (h : w.rowOf b = dC root self mine theirs send read ns nr pn vS vP vD) (u : Int) : (w.setCell ⟨b, 7, none⟩ (.int .i64 u)).rowOf b = dC root self mine theirs send read ns u pn vS vP vD := rowOf_setCell h (by rw [dC_size]; omega) 7 _
theorem d_c7 (h : w.rowOf b = dC root self mine theirs send read ns nr pn vS vP vD) : w.cell? ⟨b, 7, none⟩ = some (.int .i64 nr) := rowcell h 7 _ rfl
theorem d_set8 (h : w.rowOf b = dC root self mine theirs send read ns nr pn vS vP vD) (u : Int) : (w.setCell ⟨b, 8, none⟩ (.int .i64 u)).rowOf b = dC root self mine theirs send read ns nr u vS vP vD := rowOf_setCell h (by rw [dC_size]; omega) 8 _
theorem d_c8 (h : w.rowOf b = dC root self mine theirs send read ns nr pn vS vP vD) : w.cell? ⟨b, 8, none⟩ = some (.int .i64 pn) := rowcell h 8 _ rfl
theorem d_set9 (h : w.rowOf b = dC root self mine theirs send read ns nr pn vS vP vD) (u : Value) : (w.setCell ⟨b, 9, none⟩ (u)).rowOf b = dC root self mine theirs send read ns nr pn u vP vD := rowOf_setCell h (by rw [dC_size]; omega) 9 _
theorem d_c9 (h : w.rowOf b = dC root self mine theirs send read ns nr pn vS vP vD) : w.cell? ⟨b, 9, none⟩ = some (vS) := rowcell h 9 _ rfl
theorem d_set10 (h : w.rowOf b = dC root self mine theirs send read ns nr pn vS vP vD) (u : Value) : (w.setCell ⟨b, 10, none⟩ (u)).rowOf b = dC root self mine theirs send read ns nr pn vS u vD := rowOf_setCell h (by rw [dC_size]; omega) 10 _
theorem d_c10 (h : w.rowOf b = dC root self mine theirs send read ns nr pn vS vP vD) : w.cell? ⟨b, 10, none⟩ = some (vP) := rowcell h 10 _ rfl
theorem d_set11 (h : w.rowOf b = dC root self mine theirs send read ns nr pn vS vP vD) (u : Value) : (w.setCell ⟨b, 11, none⟩ (u)).rowOf b = dC root self mine theirs send read ns nr pn vS vP u := rowOf_setCell h (by rw [dC_size]; omega) 11 _
theorem d_c11 (h : w.rowOf b = dC root self mine theirs send read ns nr pn vS vP vD) : w.cell? ⟨b, 11, none⟩ = some (vD) := rowcell h 11 _ rfl
end
theorem pa_c0 {w : World} {b : Nat} {p : Pt} (h : w.rowOf b = partsC p) : w.cell? ⟨b, 0, none⟩ = some (.string p.point) := rowcell h 0 _ rfl
theorem pa_c1 {w : World} {b : Nat} {p : Pt} (h : w.rowOf b = partsC p) : w.cell? ⟨b, 1, none⟩ = some (.string p.head) := rowcell h 1 _ rfl
theorem pa_c2 {w : World} {b : Nat} {p : Pt} (h : w.rowOf b = partsC p) : w.cell? ⟨b, 2, none⟩ = some (.string p.turned) := rowcell h 2 _ rfl
theorem pa_c3 {w : World} {b : Nat} {p : Pt} (h : w.rowOf b = partsC p) : w.cell? ⟨b, 3, none⟩ = some (.string p.tag) := rowcell h 3 _ rfl
theorem pa_c4 {w : World} {b : Nat} {p : Pt} (h : w.rowOf b = partsC p) : w.cell? ⟨b, 4, none⟩ = some (.int .i64 (p.ahead : Int)) := rowcell h 4 _ rfl
theorem pa_c5 {w : World} {b : Nat} {p : Pt} (h : w.rowOf b = partsC p) : w.cell? ⟨b, 5, none⟩ = some (.int .i64 (p.n : Int)) := rowcell h 5 _ rfl
theorem partsC_size (p : Pt) : (partsC p).size = 6 := rfl
theorem partsC_one (p : Pt) : (partsC p).all (·.oneCell') = true := by simp [partsC, Value.oneCell']
def pa0 : Array Value := #[.string ⟨#[]⟩, .string ⟨#[]⟩, .string ⟨#[]⟩, .string ⟨#[]⟩, .int .i64 0, .int .i64 0]
theorem pa0_pos : 0 < pa0.size := by decide
theorem side0_pos : 0 < side0.size := by decide
theorem side0_size : side0.size = 12 := by decide
def sv0 : Array Value := #[.string ⟨#[]⟩, .int .i64 0, .string ⟨#[]⟩]
theorem sv0_pos : 0 < sv0.size := by decide
theorem rtSaved : RowTy Tryz.prog 89 3 := ⟨by decide, by kernel_rfl, _, Tryz.underlying89, rfl⟩
theorem iSvL : (Tryz.prog.info? 89).map (·.size) = some 3 := by kernel_rfl
theorem wpl_load_sv {ops : Array Oper} {rest : List Oper} {op : Oper} {a : Act} {w : World} {Q : Exit → Act → World → Prop} (hgd : op.guard = none) (x : Operand) (ho : op.op = .load 89 x)
    (g o : Nat) (hx : a.eval x = .pointer (some ⟨g, o, none⟩)) (p z : ByteArray) (m : Int) (h0 : w.cell? ⟨g, o, none⟩ = some (.string p)) (h1 : w.cell? ⟨g, o + 1, none⟩ = some (.int .i64 m)) (h2 : w.cell? ⟨g, o + 2, none⟩ = some (.string z))
    (h : wpList Tryz.prog ops Q rest (a.put op.dst (.agg (kC p m z))) w) : wpList Tryz.prog ops Q (op :: rest) a w := by
  refine wpList_load_mid hgd _ x ho g o hx [.string p, .int .i64 m, .string z] _ ?_ Tryz.underlying89 rfl iSvL h
  intro j v hv
  match j, hv with
  | 0, hv => simp at hv; subst hv; exact h0
  | 1, hv => simp at hv; subst hv; exact h1
  | 2, hv => simp at hv; subst hv; exact h2
  | j + 3, hv => simp at hv
theorem kC_one (p z : ByteArray) (m : Int) : (kC p m z).all (·.oneCell') = true := by simp [kC, Value.oneCell']
theorem at_load {P : Program} {ops : Array Oper} {rest : List Oper} {o : Oper} {a : Act} {w : World} {Q : Exit → Act → World → Prop} (t : Nat) {x : Operand} (_ : o.op = .load t x) (h : wpList P ops Q (o :: rest) a w) : wpList P ops Q (o :: rest) a w := h
theorem at_store {P : Program} {ops : Array Oper} {rest : List Oper} {o : Oper} {a : Act} {w : World} {Q : Exit → Act → World → Prop} (t : Nat) {x y : Operand} (_ : o.op = .store t x y) (h : wpList P ops Q (o :: rest) a w) : wpList P ops Q (o :: rest) a w := h
def AllOne (c : Array Value) : Prop := c.all (·.oneCell') = true
theorem rowOf_new2 (w : World) (c : Array Value) (t g : Nat) (h : w.heap.size = g) : (w.alloc (.cells c t)).rowOf g = c := by subst h; simp [go_sem]
set_option maxRecDepth 4000 in
set_option maxHeartbeats 4000000 in
theorem split_bad (m : ByteArray) (hm : m.size ≤ 9223372036854775807) (hnm : ¬ IsMsg m) (w : World) :
    Calls Tryz.prog 56 #[.string m] w fun e w' => ∃ c, e = .returned (.tuple #[.agg c, .bool false]) ∧ c.size = 6 ∧ AllOne c ∧ Below w.heap.size w w' := by
  by_cases h72 : m.size < 72
  · have c1 : (m.size : Int) < 72 := by omega
    have HN : Hid (¬ IsMsg m) := Hid.mk (fun h => by have := h.1; omega)
    clear h72
    go_enter Tryz.func56, Tryz.ntmps56
    go_wp2
    refine bodyPost_ret (results_row_tmp rtParts Tryz.results56 _ _ w.heap.size rfl ?_) rfl ?_
    · simp [go_sem]
    · exact ⟨_, rfl, by simp [go_sem], by unfold AllOne; first | (simp [go_sem, Value.oneCell']; done) | (rw [rowOf_new2 _ _ _ _ rfl]; rfl), by_alloc w _⟩
  · have c1 : ¬ (m.size : Int) < 72 := by omega
    have c2 : (2 : Int) ≤ m.size := by omega
    by_cases hrm : m.extract 0 2 = sRM
    · have ce : (m.extract 0 2).toList = [82, 77] := by rw [hrm, sRM_list]
      have cb : ((m.extract 0 2).toList == [82, 77]) = true := by rw [ce]; rfl
      have HRM := Hid.mk hrm
      obtain ⟨n, hn⟩ : ∃ n, n = u16F m 38 := ⟨_, rfl⟩
      have HNV : Hid (numF (sb (m.extract 38 40)) 2 = (n : Int)) := Hid.mk (by rw [hn]; exact (u16F_int m 38).1)
      have hnl : n < 65536 := by rw [hn]; exact (u16F_int m 38).2
      have c40 : (40 : Int) ≤ m.size := by omega
      have x38 : (m.extract 38 40).size = 2 := ext_size (by omega)
      have HNN := Hid.mk hn
      clear hrm hn
      by_cases hbad : n > 200 ∨ m.size ≠ 72 + n
      · have HN : Hid (¬ IsMsg m) := Hid.mk (fun h => by have h3 := h.2.2.1; have h4 := h.2.2.2.1; rw [← HNN.out] at h3 h4; omega)
        by_cases h200 : n > 200
        · have d1 : (n : Int) > 200 := by omega
          go_enter Tryz.func56, Tryz.ntmps56
          go_wp2_with (first | (go_at_call 86; refine (value_any (m.extract 38 40) x38 _).mono ?_; rintro e w1 ⟨rfl, q, rfl⟩; rw [HNV.out]) | fail)
          refine bodyPost_ret (results_row_tmp rtParts Tryz.results56 _ _ w.heap.size rfl ?_) rfl ?_
          · simp [go_sem]
          · exact ⟨_, rfl, by simp [go_sem], by unfold AllOne; simp [go_sem, Value.oneCell'], below_drewN (by_alloc w _) _⟩
        · have d1 : ¬ (n : Int) > 200 := by omega
          have d2 : ((m.size : Int) != 40 + (n : Int) + 32) = true := by simp; omega
          have d3 : ¬ (m.size : Int) = 40 + (n : Int) + 32 := by omega
          have dn : (n : Int) ≤ 200 := by omega
          go_enter Tryz.func56, Tryz.ntmps56
          go_wp2_with (first | (go_at_call 86; refine (value_any (m.extract 38 40) x38 _).mono ?_; rintro e w1 ⟨rfl, q, rfl⟩; rw [HNV.out]) | fail)
          refine bodyPost_ret (results_row_tmp rtParts Tryz.results56 _ _ w.heap.size rfl ?_) rfl ?_
          · simp [go_sem]
          · exact ⟨_, rfl, by simp [go_sem], by unfold AllOne; simp [go_sem, Value.oneCell'], below_drewN (by_alloc w _) _⟩
      · have hm2 : m.size = 72 + n := by omega
        refine (split_main m n (u16F m 34) (u16F m 36) hm2 (by omega) HRM.out HNN.out rfl rfl w).mono fun e w' h => ?_
        obtain ⟨he, hb⟩ := h
        have : (decide (u16F m 34 ≤ 300) && decide (u16F m 36 < 300)) = false := by
          by_cases h1 : u16F m 34 ≤ 300
          · have h2 : ¬ u16F m 36 < 300 := fun h => hnm ⟨by omega, HRM.out, by rw [← HNN.out]; omega, by rw [← HNN.out]; exact hm2, h1, h⟩
            simp [h2]
          · simp [h1]
        rw [this] at he
        exact ⟨_, he, rfl, by unfold AllOne; simp [Value.oneCell'], hb⟩
    · have ce : ¬ (m.extract 0 2).toList = [82, 77] := fun e => hrm (toList_inj.1 (by rw [e, sRM_list]))
      have cb : ((m.extract 0 2).toList == [82, 77]) = false := by simpa using ce
      have HN : Hid (¬ IsMsg m) := Hid.mk (fun h => hrm h.2.1)
      clear hrm
      go_enter Tryz.func56, Tryz.ntmps56
      go_wp2
      refine bodyPost_ret (results_row_tmp rtParts Tryz.results56 _ _ w.heap.size rfl ?_) rfl ?_
      · simp [go_sem]
      · exact ⟨_, rfl, by simp [go_sem], by unfold AllOne; first | (simp [go_sem, Value.oneCell']; done) | (rw [rowOf_new2 _ _ _ _ rfl]; rfl), by_alloc w _⟩
structure HI (w W : World) (gp : Nat) (cx : Array Value) (p : Pt) : Prop where
  b : Below w.heap.size w W
  x : W.rowOf w.heap.size = cx
  r : W.rowOf (w.heap.size + 1) = side0
  p : W.rowOf gp = partsC p
theorem HI.below {w W W' : World} {gp : Nat} {x : Sd} {vS vP vD : Value} {p : Pt} (h : HI w W gp (sideC x vS vP vD) p) (hb : Below W.heap.size W W') : HI w W' gp (sideC x vS vP vD) p :=
  ⟨below_lift h.b h.b.size hb, (below_row hb (by rw [h.x, sideC_size]; omega)).trans h.x, (below_row hb (by rw [h.r]; exact side0_pos)).trans h.r, (below_row hb (by rw [h.p, partsC_size]; omega)).trans h.p⟩
theorem HI.lt {w W : World} {gp : Nat} {cx : Array Value} {p : Pt} (h : HI w W gp cx p) : gp < W.heap.size ∧ w.heap.size + 1 < W.heap.size := ⟨rowOf_lt (by rw [h.p, partsC_size]; omega), rowOf_lt (by rw [h.r]; exact side0_pos)⟩
theorem HI.set {w W : World} {gp : Nat} {x : Sd} {vS vP vD : Value} {p : Pt} (h : HI w W gp (sideC x vS vP vD) p) {gy : Nat} (h1 : w.heap.size + 1 < gy) (h2 : gy ≠ gp) (i : Nat) (v : Value) : HI w (W.setCell ⟨gy, i, none⟩ v) gp (sideC x vS vP vD) p :=
  ⟨h.b.setCell (p := ⟨gy, i, none⟩) (by show w.heap.size ≤ gy; omega) v, (rowOf_setCell_other (by omega)).trans h.x, (rowOf_setCell_other (by omega)).trans h.r, (rowOf_setCell_other (Ne.symm h2)).trans h.p⟩
theorem HI.xC {w W : World} {gp : Nat} {x : Sd} {vS vP vD : Value} {p : Pt} (h : HI w W gp (sideC x vS vP vD) p) : W.rowOf w.heap.size = dC x.root x.self (pubF x.self) x.theirs x.send x.read (x.ns : Int) (x.nr : Int) (x.pn : Int) vS vP vD := h.x.trans (dC_side x vS vP vD)
def HearP (w : World) (vS vP vD : Value) (r : Sd × ByteArray × Int) (e : Ending) (w' : World) : Prop :=
  ∃ vS' vP' vD', e = .returned (.tuple #[.agg (sideC r.1 vS' vP' vD'), .string r.2.1, .int .i64 r.2.2]) ∧ KpsAt w' vS' r.1.saved ∧ StrsAt w' vP' r.1.past ∧ StrsAt w' vD' r.1.draws ∧ (∀ k, k < w.heap.size → Offs k vS vP vD → Offs k vS' vP' vD') ∧ Below w.heap.size w w'
theorem hear_err {w W : World} {vS vP vD : Value} {r : Sd × ByteArray × Int} {x : Sd} {er : Int} (hr : r = (x, ⟨#[]⟩, er)) (h1 : KpsAt w vS x.saved) (h2 : StrsAt w vP x.past) (h3 : StrsAt w vD x.draws) (hb : Below w.heap.size w W) {e : Ending} (he : e = .returned (.tuple #[.agg (sideC x vS vP vD), .string ⟨#[]⟩, .int .i64 er])) : HearP w vS vP vD r e W := by
  subst hr
  exact ⟨vS, vP, vD, he, h1.below hb, h2.below hb, h3.below hb, fun _ _ h => h, hb⟩
end Go.Proofs.YteghoooelgcpkaaGreatDoor
namespace Go.Proofs.YteghoooelgcpkaaGreatDoor
open Go.RowKit Go.Msg
theorem KpsAt.opened {w : World} {ao : Option Addr} {n cap : Nat} {l : List Kp} (h : KpsAt w (.slice ao n cap) l) : n = l.length ∧ n ≤ cap ∧ ∃ g o, (0 < n → ao = some ⟨g, o, none⟩) ∧ ∀ i k, l[i]? = some k → w.cell? ⟨g, o + i * 3, none⟩ = some (.string k.pt) ∧ w.cell? ⟨g, o + i * 3 + 1, none⟩ = some (.int .i64 (k.n : Int)) ∧ w.cell? ⟨g, o + i * 3 + 2, none⟩ = some (.string k.key) := by
  obtain ⟨ao', cap', g, o, he, h2, h3, h4⟩ := h
  cases he
  exact ⟨rfl, h2, g, o, h3, h4⟩
theorem StrsAt.opened {w : World} {ao : Option Addr} {n cap : Nat} {l : List ByteArray} (h : StrsAt w (.slice ao n cap) l) : n = l.length ∧ n ≤ cap ∧ ∃ g o, (0 < n → ao = some ⟨g, o, none⟩) ∧ ∀ i t, l[i]? = some t → w.cell? ⟨g, o + i, none⟩ = some (.string t) := by
  obtain ⟨ao', cap', g, o, he, h2, h3, h4⟩ := h
  cases he
  exact ⟨rfl, h2, g, o, h3, h4⟩
theorem kp_cells {w : World} {g o : Nat} {l : List Kp} (h : ∀ i k, l[i]? = some k → w.cell? ⟨g, o + i * 3, none⟩ = some (.string k.pt) ∧ w.cell? ⟨g, o + i * 3 + 1, none⟩ = some (.int .i64 (k.n : Int)) ∧ w.cell? ⟨g, o + i * 3 + 2, none⟩ = some (.string k.key)) : ∀ j u, (kpCells l)[j]? = some u → w.cell? ((⟨g, o, none⟩ : Addr).add j) = some u := by
  have hk : KpsAt w (.slice (some ⟨g, o, none⟩) l.length l.length) l := ⟨_, _, g, o, rfl, Nat.le_refl _, fun _ => rfl, h⟩
  obtain ⟨ao, cap, ad, he, h1, h2⟩ := hk.src
  intro j u hj
  cases he
  have hl : 0 < l.length := by
    cases l with
    | nil => simp [kpCells] at hj
    | cons _ _ => simp
  have := h1 hl
  simp only [Option.some.injEq] at this
  rw [this]
  exact h2 j u hj
theorem kp_take {w : World} {g o : Nat} {l : List Kp} (h : ∀ i k, l[i]? = some k → w.cell? ⟨g, o + i * 3, none⟩ = some (.string k.pt) ∧ w.cell? ⟨g, o + i * 3 + 1, none⟩ = some (.int .i64 (k.n : Int)) ∧ w.cell? ⟨g, o + i * 3 + 2, none⟩ = some (.string k.key)) (j : Nat) : ∀ q u, (kpCells (l.take j))[q]? = some u → w.cell? ((⟨g, o, none⟩ : Addr).add q) = some u :=
  kp_cells (fun i k hi => h i k (by rw [List.getElem?_take] at hi; split at hi; exact hi; cases hi))
theorem kp_drop {w : World} {g o : Nat} {l : List Kp} (h : ∀ i k, l[i]? = some k → w.cell? ⟨g, o + i * 3, none⟩ = some (.string k.pt) ∧ w.cell? ⟨g, o + i * 3 + 1, none⟩ = some (.int .i64 (k.n : Int)) ∧ w.cell? ⟨g, o + i * 3 + 2, none⟩ = some (.string k.key)) (j : Nat) : ∀ q u, (kpCells (l.drop j))[q]? = some u → w.cell? ((⟨g, o + j * 3, none⟩ : Addr).add q) = some u :=
  kp_cells (fun i k hi => by
    rw [List.getElem?_drop] at hi
    obtain ⟨a, b, c⟩ := h (j + i) k hi
    exact ⟨by rw [← a]; congr 2; omega, by rw [← b]; congr 2; omega, by rw [← c]; congr 2; omega⟩)
theorem str_cells {w : World} {g o : Nat} {l : List ByteArray} (h : ∀ i t, l[i]? = some t → w.cell? ⟨g, o + i, none⟩ = some (.string t)) : ∀ j u, (strCells l)[j]? = some u → w.cell? ((⟨g, o, none⟩ : Addr).add j) = some u := by
  intro j u hj
  rw [Addr.add_mid]
  simp only [strCells, List.getElem?_map, Option.map_eq_some_iff] at hj
  obtain ⟨t, ht, rfl⟩ := hj
  exact h j t ht
theorem cells_up {w w' : World} {g : Nat} {f : Nat → Nat} {c : Value} (i : Nat) (h : w.cell? ⟨g, f i, none⟩ = some c) (hb : Below w.heap.size w w') : w'.cell? ⟨g, f i, none⟩ = some c := by
  rw [hb.cell (World.block_lt_of_cell? w _ h)]; exact h
theorem kp_up {w w' : World} {g o : Nat} {l : List Kp} (hb : Below w.heap.size w w') (h : ∀ i k, l[i]? = some k → w.cell? ⟨g, o + i * 3, none⟩ = some (.string k.pt) ∧ w.cell? ⟨g, o + i * 3 + 1, none⟩ = some (.int .i64 (k.n : Int)) ∧ w.cell? ⟨g, o + i * 3 + 2, none⟩ = some (.string k.key)) :
    ∀ i k, l[i]? = some k → w'.cell? ⟨g, o + i * 3, none⟩ = some (.string k.pt) ∧ w'.cell? ⟨g, o + i * 3 + 1, none⟩ = some (.int .i64 (k.n : Int)) ∧ w'.cell? ⟨g, o + i * 3 + 2, none⟩ = some (.string k.key) := fun i k hi => by
  obtain ⟨a, b, c⟩ := h i k hi
  exact ⟨by rw [hb.cell (World.block_lt_of_cell? w _ a)]; exact a, by rw [hb.cell (World.block_lt_of_cell? w _ b)]; exact b, by rw [hb.cell (World.block_lt_of_cell? w _ c)]; exact c⟩
theorem str_up {w w' : World} {g o : Nat} {l : List ByteArray} (hb : Below w.heap.size w w') (h : ∀ i t, l[i]? = some t → w.cell? ⟨g, o + i, none⟩ = some (.string t)) : ∀ i t, l[i]? = some t → w'.cell? ⟨g, o + i, none⟩ = some (.string t) := fun i t hi => by
  have a := h i t hi
  rw [hb.cell (World.block_lt_of_cell? w _ a)]; exact a
theorem side_one {w : World} {x : Sd} {vS vP vD : Value} (h1 : KpsAt w vS x.saved) (h2 : StrsAt w vP x.past) (h3 : StrsAt w vD x.draws) : (sideC x vS vP vD).all (·.oneCell') = true := side_all (w := w) (c := sideC x vS vP vD) ⟨rfl, h1, h2, h3⟩
theorem sealed_open (p : Value) (k a t : ByteArray) (hk : k.size ≤ 64) (ha : a.size ≤ 200) (ht : t.size ≤ 200) (w : World) (hp : PrimAt w p) :
    Calls Tryz.prog 57 #[p, .string k, .string a, .string t, .bool true] w fun e w' => e = .returned (.tuple #[.string (turnF k t), .string (tagF k a t)]) ∧ Below w.heap.size w w' :=
  (sealed_any p k a t true hk ha ht w hp).mono (fun e w' h => ⟨by have h1 := h.1; simpa using h1, h.2⟩)
theorem hear_box (w : World) (x : Sd) (vS vP vD : Value) : ∃ W, W = (w.alloc (.cells #[.string x.root, .string x.self, .string (pubF x.self), .string x.theirs, .string x.send, .string x.read, .int .i64 (x.ns : Int), .int .i64 (x.nr : Int), .int .i64 (x.pn : Int), vS, vP, vD] 55)).alloc (.cells #[.string ⟨#[]⟩, .string ⟨#[]⟩, .string ⟨#[]⟩, .string ⟨#[]⟩, .string ⟨#[]⟩, .string ⟨#[]⟩, .int .i64 0, .int .i64 0, .int .i64 0, .slice none 0 0, .slice none 0 0, .slice none 0 0] 55) ∧ W.rowOf w.heap.size = (sideC x vS vP vD) ∧ W.rowOf (w.heap.size + 1) = side0 ∧ Below w.heap.size w W ∧ w.heap.size + 2 ≤ W.heap.size :=
  ⟨_, rfl, by rw [(box_two w _ _ _).1]; rfl, by rw [(box_two w _ _ _).2]; rfl, by_alloc2 w _ _, by simp⟩
theorem side_lit (x : Sd) (vS vP vD : Value) : (sideC x vS vP vD) = #[.string x.root, .string x.self, .string (pubF x.self), .string x.theirs, .string x.send, .string x.read, .int .i64 (x.ns : Int), .int .i64 (x.nr : Int), .int .i64 (x.pn : Int), vS, vP, vD] := rfl
set_option maxRecDepth 20000 in
set_option maxHeartbeats 40000000 in
theorem hear_bad (pv : Value) (x : Sd) (vS vP vD : Value) (m data : ByteArray) (hm : m.size ≤ 9223372036854775807) (hnm : ¬ IsMsg m) (w : World) (hS : KpsAt w vS x.saved) (hP : StrsAt w vP x.past) (hD : StrsAt w vD x.draws) :
    Calls Tryz.prog 31 #[pv, .agg (sideC x vS vP vD), .string m, .string data] w fun e w' => HearP w vS vP vD (hearS x m data) e w' := by
  have HE : Hid (hearS x m data = (x, ⟨#[]⟩, 5)) := Hid.mk (by unfold hearS; rw [if_pos hnm])
  generalize hearS x m data = RES at HE ⊢
  have HK := Hid.mk hS
  have HPA := Hid.mk hP
  have HDR := Hid.mk hD
  have HXO := Hid.mk (side_one hS hP hD)
  obtain ⟨W0, hW0, RX0, RR0, B0, z0⟩ := hear_box w x vS vP vD
  have s0 := B0.size
  have HM := Hid.mk (split_bad m hm hnm W0)
  clear hS hP hD hnm
  rw [side_lit]
  go_enter Tryz.func31, Tryz.ntmps31
  go_upto_region 1 with fail
  rw [← hW0]
  clear hW0
  go_wp2_with (first
    | (go_at_call 56; with_reducible refine HM.out.mono ?_; rintro e w1 ⟨c, rfl, hc, ho, b1⟩; have B1 := below_lift B0 s0 b1; obtain ⟨r1, w2, hw2, R2, B2, z2⟩ := new_stored B1 pa0 c 98 pa0_pos; have HC := Hid.mk (And.intro hc ho); clear hc ho; have hx1 := (below_row b1 (by rw [RX0, sideC_size]; omega)).trans RX0; have hr1 := (below_row b1 (by rw [RR0]; exact side0_pos)).trans RR0; have hx2 := ns_other hw2 hx1 (by rw [sideC_size]; omega); have hr2 := ns_other hw2 hr1 side0_pos; clear hx1 hr1 RX0 RR0)
    | (refine wpl_store rtParts rfl _ _ rfl w1.heap.size rfl c rfl ?_ HC.out.1 HC.out.2 w2 hw2.symm ?_; (focus (exact congrArg Array.size r1)); clear hw2 r1)
    | (refine wpl_load rtSide rfl _ rfl w.heap.size rfl (sideC x vS vP vD) hx2 (sideC_size _ _ _ _) ?_)
    | (refine wpl_store rtSide rfl _ _ rfl (w.heap.size + 1) rfl (sideC x vS vP vD) rfl ?_ (sideC_size _ _ _ _) HXO.out _ rfl ?_; (focus (exact (congrArg Array.size hr2).trans side0_size)))
    | fail)
  refine bodyPost_ret (results_row_tmp2 rtSide Tryz.results31 _ _ (w.heap.size + 1) rfl ?_) rfl ?_
  · rw [rowOf_setRow_same (by rw [hr2]; exact side0_pos)]; rfl
  · rw [rowOf_setRow_same (by rw [hr2]; exact side0_pos)]; exact hear_err HE.out HK.out HPA.out HDR.out (below_setRow B2 (by omega) _) rfl
end Go.Proofs.YteghoooelgcpkaaGreatDoor
namespace Go.Proofs.YteghoooelgcpkaaGreatDoor
open Go.RowKit Go.Msg
theorem own_sl {w : World} {B e S : Nat} {v : Value} {n : Nat} {xs : List Value} (h : w.ownsRow B e S v n xs) : ∃ a c, v = .slice a n c := by
  obtain ⟨a, c, _, h, _⟩ := own_shape h
  exact ⟨a, c, h⟩
structure HY (w W : World) (gp gy : Nat) (x : Sd) (vS vP vD : Value) (p : Pt) (row : Array Value) (uS uP uD : Value) (lS : List Kp) (lP lD : List ByteArray) : Prop where
  hi : HI w W gp (sideC x vS vP vD) p
  g1 : w.heap.size + 1 < gy
  g2 : gy ≠ gp
  y : W.rowOf gy = row
  sz : row.size = 12
  ks : KpsAt W uS lS
  ps : StrsAt W uP lP
  ds : StrsAt W uD lD
  oy : Offs gy uS uP uD
  ot : Offs (w.heap.size + 1) uS uP uD
  ok : ∀ k, k < w.heap.size → Offs k vS vP vD → Offs k uS uP uD
section
variable {w W W' : World} {gp gy : Nat} {x : Sd} {vS vP vD : Value} {p : Pt} {row : Array Value} {uS uP uD : Value} {lS : List Kp} {lP lD : List ByteArray}
theorem HY.lt (h : HY w W gp gy x vS vP vD p row uS uP uD lS lP lD) : gy < W.heap.size := rowOf_lt (by rw [h.y, h.sz]; omega)
theorem HY.below (h : HY w W gp gy x vS vP vD p row uS uP uD lS lP lD) (b : Below W.heap.size W W') : HY w W' gp gy x vS vP vD p row uS uP uD lS lP lD :=
  ⟨h.hi.below b, h.g1, h.g2, (below_row b (by rw [h.y, h.sz]; omega)).trans h.y, h.sz, h.ks.below b, h.ps.below b, h.ds.below b, h.oy, h.ot, h.ok⟩
theorem HY.set (h : HY w W gp gy x vS vP vD p row uS uP uD lS lP lD) (i : Nat) (v : Value) : HY w (W.setCell ⟨gy, i, none⟩ v) gp gy x vS vP vD p (row.setIfInBounds i v) uS uP uD lS lP lD :=
  ⟨h.hi.set h.g1 h.g2 i v, h.g1, h.g2, rowOf_setCell h.y (by rw [h.sz]; omega) i v, by rw [Array.size_setIfInBounds]; exact h.sz, h.ks.tch (tch_own gy i W v) h.oy.k, h.ps.tch (tch_own gy i W v) h.oy.p, h.ds.tch (tch_own gy i W v) h.oy.d, h.oy, h.ot, h.ok⟩
theorem HY.setS (h : HY w W gp gy x vS vP vD p row uS uP uD lS lP lD) {v : Value} {l : List Kp} (hk : KpsAt W v l) (ho : ∀ k, k < W.heap.size → Off k v) : HY w W gp gy x vS vP vD p row v uP uD l lP lD :=
  ⟨h.hi, h.g1, h.g2, h.y, h.sz, hk, h.ps, h.ds, ⟨ho gy h.lt, h.oy.p, h.oy.d⟩, ⟨ho _ h.hi.lt.2, h.ot.p, h.ot.d⟩, fun k hk q => ⟨ho k (Nat.lt_of_lt_of_le hk h.hi.b.size), (h.ok k hk q).p, (h.ok k hk q).d⟩⟩
theorem HY.newS (h : HY w W gp gy x vS vP vD p row uS uP uD lS lP lD) (b : Below W.heap.size W W') {v : Value} {l : List Kp} (hk : KpsAt W' v l) (ho : ∀ k, k < W.heap.size → Off k v) : HY w W' gp gy x vS vP vD p row v uP uD l lP lD :=
  ⟨h.hi.below b, h.g1, h.g2, (h.below b).y, h.sz, hk, h.ps.below b, h.ds.below b, ⟨ho gy h.lt, h.oy.p, h.oy.d⟩, ⟨ho _ h.hi.lt.2, h.ot.p, h.ot.d⟩, fun k hk q => ⟨ho k (Nat.lt_of_lt_of_le hk h.hi.b.size), (h.ok k hk q).p, (h.ok k hk q).d⟩⟩
theorem HY.newP (h : HY w W gp gy x vS vP vD p row uS uP uD lS lP lD) (b : Below W.heap.size W W') {v : Value} {l : List ByteArray} (hk : StrsAt W' v l) (ho : ∀ k, k < W.heap.size → Off k v) : HY w W' gp gy x vS vP vD p row uS v uD lS l lD :=
  ⟨h.hi.below b, h.g1, h.g2, (h.below b).y, h.sz, h.ks.below b, hk, h.ds.below b, ⟨h.oy.k, ho gy h.lt, h.oy.d⟩, ⟨h.ot.k, ho _ h.hi.lt.2, h.ot.d⟩, fun k hk q => ⟨(h.ok k hk q).k, ho k (Nat.lt_of_lt_of_le hk h.hi.b.size), (h.ok k hk q).d⟩⟩
theorem HY.newD (h : HY w W gp gy x vS vP vD p row uS uP uD lS lP lD) (b : Below W.heap.size W W') {v : Value} {l : List ByteArray} (hk : StrsAt W' v l) (ho : ∀ k, k < W.heap.size → Off k v) : HY w W' gp gy x vS vP vD p row uS uP v lS lP l :=
  ⟨h.hi.below b, h.g1, h.g2, (h.below b).y, h.sz, h.ks.below b, h.ps.below b, hk, ⟨h.oy.k, h.oy.p, ho gy h.lt⟩, ⟨h.ot.k, h.ot.p, ho _ h.hi.lt.2⟩, fun k hk q => ⟨(h.ok k hk q).k, (h.ok k hk q).p, ho k (Nat.lt_of_lt_of_le hk h.hi.b.size)⟩⟩
theorem HY.asRow (h : HY w W gp gy x vS vP vD p row uS uP uD lS lP lD) {row' : Array Value} (e : row = row') : HY w W gp gy x vS vP vD p row' uS uP uD lS lP lD := by subst e; exact h
theorem HY.fin (h : HY w W gp gy x vS vP vD p row uS uP uD lS lP lD) {r : Sd × ByteArray × Int} {y : Sd} {t : ByteArray} (hr : r = (y, t, 0)) (hrow : row = sideC y uS uP uD) (h1 : y.saved = lS) (h2 : y.past = lP) (h3 : y.draws = lD) {e : Ending} (he : e = .returned (.tuple #[.agg row, .string t, .int .i64 0])) : HearP w vS vP vD r e (W.setRow (w.heap.size + 1) row) := by
  subst hr
  have B := below_setRow h.hi.b (Nat.le_succ _) row
  have T : Tch (w.heap.size + 1) W (W.setRow (w.heap.size + 1) row) := Tch.setRow (tch_refl _ W) row
  refine ⟨uS, uP, uD, by rw [he, hrow], ?_, ?_, ?_, h.ok, B⟩
  · show KpsAt _ _ y.saved
    rw [h1]; exact h.ks.tch T h.ot.k
  · show StrsAt _ _ y.past
    rw [h2]; exact h.ps.tch T h.ot.p
  · show StrsAt _ _ y.draws
    rw [h3]; exact h.ds.tch T h.ot.d
theorem hy_begin (hi : HI w W gp (sideC x vS vP vD) p) (g1 : w.heap.size + 1 < gy) (g2 : gy ≠ gp) (hy : W.rowOf gy = sideC x vS vP vD) (h1 : KpsAt w vS x.saved) (h2 : StrsAt w vP x.past) (h3 : StrsAt w vD x.draws) : HY w W gp gy x vS vP vD p (sideC x vS vP vD) vS vP vD x.saved x.past x.draws :=
  ⟨hi, g1, g2, hy, rfl, h1.below hi.b, h2.below hi.b, h3.below hi.b, ⟨h1.fresh (by omega), h2.fresh (by omega), h3.fresh (by omega)⟩, ⟨h1.fresh (by omega), h2.fresh (by omega), h3.fresh (by omega)⟩, fun _ _ h => h⟩
end
theorem dC_sets {root self mine theirs send read : ByteArray} {ns nr pn : Int} {vS vP vD : Value} :
    (∀ u : ByteArray, (dC root self mine theirs send read ns nr pn vS vP vD).setIfInBounds 0 (.string u) = dC u self mine theirs send read ns nr pn vS vP vD) ∧
    (∀ u : ByteArray, (dC root self mine theirs send read ns nr pn vS vP vD).setIfInBounds 1 (.string u) = dC root u mine theirs send read ns nr pn vS vP vD) ∧
    (∀ u : ByteArray, (dC root self mine theirs send read ns nr pn vS vP vD).setIfInBounds 2 (.string u) = dC root self u theirs send read ns nr pn vS vP vD) ∧
    (∀ u : ByteArray, (dC root self mine theirs send read ns nr pn vS vP vD).setIfInBounds 3 (.string u) = dC root self mine u send read ns nr pn vS vP vD) ∧
    (∀ u : ByteArray, (dC root self mine theirs send read ns nr pn vS vP vD).setIfInBounds 4 (.string u) = dC root self mine theirs u read ns nr pn vS vP vD) ∧
    (∀ u : ByteArray, (dC root self mine theirs send read ns nr pn vS vP vD).setIfInBounds 5 (.string u) = dC root self mine theirs send u ns nr pn vS vP vD) ∧
    (∀ u : Int, (dC root self mine theirs send read ns nr pn vS vP vD).setIfInBounds 6 (.int .i64 u) = dC root self mine theirs send read u nr pn vS vP vD) ∧
    (∀ u : Int, (dC root self mine theirs send read ns nr pn vS vP vD).setIfInBounds 7 (.int .i64 u) = dC root self mine theirs send read ns u pn vS vP vD) ∧
    (∀ u : Int, (dC root self mine theirs send read ns nr pn vS vP vD).setIfInBounds 8 (.int .i64 u) = dC root self mine theirs send read ns nr u vS vP vD) ∧
    (∀ u : Value, (dC root self mine theirs send read ns nr pn vS vP vD).setIfInBounds 9 u = dC root self mine theirs send read ns nr pn u vP vD) ∧
    (∀ u : Value, (dC root self mine theirs send read ns nr pn vS vP vD).setIfInBounds 10 u = dC root self mine theirs send read ns nr pn vS u vD) ∧
    (∀ u : Value, (dC root self mine theirs send read ns nr pn vS vP vD).setIfInBounds 11 u = dC root self mine theirs send read ns nr pn vS vP u) :=
  ⟨fun _ => rfl, fun _ => rfl, fun _ => rfl, fun _ => rfl, fun _ => rfl, fun _ => rfl, fun _ => rfl, fun _ => rfl, fun _ => rfl, fun _ => rfl, fun _ => rfl, fun _ => rfl⟩
theorem left0_f (p : Value) (c pt : ByteArray) (m : Nat) (hc : c.size = 32) (hm : m ≤ 300) (w : World) (hp : PrimAt w p) :
    Calls Tryz.prog 59 #[p, .string c, .string pt, .int .i64 0, .int .i64 (m : Int)] w fun e w' => ∃ v, e = .returned (.tuple #[v, .string (chn c m)]) ∧ KpsAt w' v (leftL c pt 0 m) ∧ Below w.heap.size w w' := left_f p c pt 0 m hc hm (Nat.zero_le _) w hp
end Go.Proofs.YteghoooelgcpkaaGreatDoor
