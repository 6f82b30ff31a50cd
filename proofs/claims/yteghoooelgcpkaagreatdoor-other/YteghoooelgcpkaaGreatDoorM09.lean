import Derived.Test.YteghoooelgcpkaaGreatDoorM00
import Derived.Test.YteghoooelgcpkaaGreatDoorM08
namespace Go.Proofs.YteghoooelgcpkaaGreatDoor
open Go.RowKit Go.Msg
def ptC (p : Pt) : Array Value := pC p.point (p.ahead : Int) (p.n : Int) p.turned p.tag
structure PtOk (p : Pt) : Prop where
  point : p.point.size = 32
  turned : p.turned.size ≤ 200
  tag : p.tag.size = 32
  ahead : p.ahead ≤ 300
  n : p.n < 300
theorem pt_ok {m : ByteArray} (h : IsMsg m) : PtOk (ptF m) := by
  obtain ⟨a, _, c, d, e, f⟩ := ptF_sizes h
  exact ⟨a, c, d, e, f⟩
theorem ptC_size (p : Pt) : (ptC p).size = 5 := rfl
theorem ptC_one (p : Pt) : (ptC p).all (·.oneCell') = true := pC_one
theorem box_pt (w : World) (p : Pt) : ∃ V, V = w.alloc (.cells #[.string p.point, .int .i64 (p.ahead : Int), .int .i64 (p.n : Int), .string p.turned, .string p.tag] 92) ∧ V.rowOf w.heap.size = ptC p ∧ Below w.heap.size w V ∧ V.heap.size = w.heap.size + 1 :=
  ⟨_, rfl, by simp [go_sem]; rfl, by_alloc w _, by simp⟩
theorem pt_c0 {w : World} {b : Nat} {p : Pt} (h : w.rowOf b = ptC p) : w.cell? ⟨b, 0, none⟩ = some (.string p.point) := rowcell h 0 _ rfl
theorem pt_c1 {w : World} {b : Nat} {p : Pt} (h : w.rowOf b = ptC p) : w.cell? ⟨b, 1, none⟩ = some (.int .i64 (p.ahead : Int)) := rowcell h 1 _ rfl
theorem pt_c2 {w : World} {b : Nat} {p : Pt} (h : w.rowOf b = ptC p) : w.cell? ⟨b, 2, none⟩ = some (.int .i64 (p.n : Int)) := rowcell h 2 _ rfl
theorem pt_c3 {w : World} {b : Nat} {p : Pt} (h : w.rowOf b = ptC p) : w.cell? ⟨b, 3, none⟩ = some (.string p.turned) := rowcell h 3 _ rfl
theorem pt_c4 {w : World} {b : Nat} {p : Pt} (h : w.rowOf b = ptC p) : w.cell? ⟨b, 4, none⟩ = some (.string p.tag) := rowcell h 4 _ rfl
theorem pt_below {w w' : World} {b : Nat} {p : Pt} (h : w.rowOf b = ptC p) (q : Below w.heap.size w w') : w'.rowOf b = ptC p := (below_row q (by rw [h, ptC_size]; omega)).trans h
theorem pt_tch {w w' : World} {b k : Nat} {p : Pt} (h : w.rowOf b = ptC p) (q : Tch k w w') (hb : b ≠ k) : w'.rowOf b = ptC p := (q.row (by rw [h, ptC_size]; omega) hb).trans h
theorem box_ptC (p : Pt) : ptC p = #[.string p.point, .int .i64 (p.ahead : Int), .int .i64 (p.n : Int), .string p.turned, .string p.tag] := rfl
set_option maxHeartbeats 1000000 in
theorem opened_f (k : ByteArray) (hk : k.size = 32) (p : Pt) (hp : PtOk p) (W : ByteArray) (hW : W.size ≤ 200) (w : World) (hT : Tbl w) :
    Calls Tryz.prog 89 #[.string k, .agg (ptC p), .string W] w fun e w' => ((tagF k W p.turned = p.tag ∧ e = .returned (.tuple #[.string (turnF k p.turned), .int .i64 0])) ∨ (tagF k W p.turned ≠ p.tag ∧ e = .returned (.tuple #[.string ⟨#[]⟩, .int .i64 10]))) ∧ Below w.heap.size w w' := by
  obtain ⟨V, hV, R0, B0, z0⟩ := box_pt w p
  have s0 := B0.size
  have f3 := pt_c3 R0
  have f4 := pt_c4 R0
  have M0 := open_any k W p.turned p.tag (by omega) hW hp.turned hp.tag V (hT.below B0)
  clear R0 hT
  rw [box_ptC]
  by_cases hq : tagF k W p.turned = p.tag
  · have HM : Hid (Calls Tryz.prog 122 #[.string k, .string W, .string p.turned, .string p.tag] V fun e w' => e = .returned (.tuple #[.string (turnF k p.turned), .bool true]) ∧ Below V.heap.size V w') := Hid.mk (M0.mono (fun e w' h => ⟨h.1.elim (fun q => q.2) (fun q => absurd hq q.1), h.2⟩))
    have HQ := Hid.mk hq
    clear hq M0
    go_enter Tryz.func89, Tryz.ntmps89
    go_upto_region 1 with fail
    rw [← hV]
    clear hV
    go_wp2_with (first
      | (go_at_call 122; with_reducible refine HM.out.mono ?_; rintro e w1 ⟨rfl, b1⟩)
      | fail)
    go_ret2
    exact ⟨Or.inl ⟨HQ.out, rfl⟩, below_lift B0 s0 b1⟩
  · have HM : Hid (Calls Tryz.prog 122 #[.string k, .string W, .string p.turned, .string p.tag] V fun e w' => e = .returned (.tuple #[.string ⟨#[]⟩, .bool false]) ∧ Below V.heap.size V w') := Hid.mk (M0.mono (fun e w' h => ⟨h.1.elim (fun q => absurd q.1 hq) (fun q => q.2), h.2⟩))
    have HQ := Hid.mk hq
    clear hq M0
    go_enter Tryz.func89, Tryz.ntmps89
    go_upto_region 1 with fail
    rw [← hV]
    clear hV
    go_wp2_with (first
      | (go_at_call 122; with_reducible refine HM.out.mono ?_; rintro e w1 ⟨rfl, b1⟩)
      | fail)
    go_ret2
    exact ⟨Or.inr ⟨HQ.out, rfl⟩, below_lift B0 s0 b1⟩
def nrOf (g : Nat) (w : World) : Nat := (intOf ((w.cell? ⟨g, 6, none⟩).getD (.int .i64 0))).toNat
theorem nrOf_eq {g n : Nat} {w : World} (h : w.cell? ⟨g, 6, none⟩ = some (.int .i64 (n : Int))) : nrOf g w = n := by unfold nrOf; rw [h]; simp [intOf]
theorem sC_ses (x : Sd) (vK vP vD : Value) : sesC x vK vP vD = sC x.root x.self x.theirs x.send x.read (x.ns : Int) (x.nr : Int) (x.pn : Int) vK vP vD := rfl
theorem s_below {w w' : World} {b : Nat} {root self theirs send read : ByteArray} {ns nr pn : Int} {vK vP vD : Value} (h : w.rowOf b = sC root self theirs send read ns nr pn vK vP vD) (t : Below w.heap.size w w') : w'.rowOf b = sC root self theirs send read ns nr pn vK vP vD := (below_row t (by rw [h, sC_size]; omega)).trans h
theorem s_low {a b : World} {B g : Nat} {root self theirs send read : ByteArray} {ns nr pn : Int} {vK vP vD : Value} (h : a.rowOf g = sC root self theirs send read ns nr pn vK vP vD) (hb : Below B a b) (hg : g < B) : b.rowOf g = sC root self theirs send read ns nr pn vK vP vD := by
  have := hb.block g hg
  simp only [World.rowOf, this] at h ⊢; exact h
def uptoS (x : Sd) (m : Nat) : Sd := { x with saved := lastL x.saved (leftL x.read x.theirs x.nr (m - x.nr)), read := chn x.read (m - x.nr), nr := x.nr + (m - x.nr) }
set_option maxRecDepth 4000 in
set_option maxHeartbeats 8000000 in
theorem keepUpTo_f (x : Sd) (hx : x.Wf) (hrd : x.read.size = 32) (g : Nat) (vK vP vD : Value) (m : Nat) (hm : m ≤ 300) (w : World) (hs : SesAt w g x vK vP vD) (ho : Offs g vK vP vD) (hT : Tbl w) (hg2 : 2 ≤ g) :
    Calls Tryz.prog 152 #[.pointer (some ⟨g, 0, none⟩), .int .i64 (m : Int)] w fun e w' => e = .returned (.tuple #[]) ∧ ∃ v, SesAt w' g (uptoS x m) v vP vD ∧ (∀ k, k < w.heap.size → Off k v) ∧ Tch g w w' := by
  obtain ⟨N, hN⟩ : ∃ N, N = m - x.nr := ⟨_, rfl⟩
  have HU : Hid (uptoS x m = { x with saved := lastL x.saved (leftL x.read x.theirs x.nr N), read := chn x.read N, nr := x.nr + N }) := Hid.mk (by rw [hN]; rfl)
  have hnr := hx.nr
  have hN2 : x.nr < m → x.nr + N = m := by omega
  have hN3 : ¬ x.nr < m → N = 0 := by omega
  have hN4 : N ≤ 300 := by omega
  have hN5 : x.nr + N ≤ 300 := by omega
  have hgl := hs.lt
  have HCS : Hid (∀ j, (chn x.read j).size = 32) := Hid.mk (chn_size hrd)
  have HS := Hid.mk hs
  have HO := Hid.mk ho
  have HT := Hid.mk hT
  have HX := Hid.mk hx
  clear hN hs ho hT hx hrd
  go_enter Tryz.func152, Tryz.ntmps152
  go_wp2
  go_loopw [4] (fun v wq => ∃ j : Nat, j ≤ N ∧ Hid (wq.ownsRow w.heap.size 140 3 v j (kpCells (leftL x.read x.theirs x.nr j))) ∧ Hid (wq.rowOf g = sC x.root x.self x.theirs x.send (chn x.read j) (x.ns : Int) ((x.nr : Int) + j) (x.pn : Int) vK vP vD) ∧ Tch g w wq) (fun _ wq => x.nr + N - nrOf g wq)
  case atStart => exact ⟨0, by omega, Hid.mk (World.ownsRow_nil _ _ _ _), Hid.mk (by rw [HS.out.row, sC_ses]; simp [chn]), tch_refl g w⟩
  case round =>
    obtain ⟨j, hj, HOW, HR, tq⟩ := hrel
    have sq := tq.size
    have f6 := s_c6 HR.out
    have hmq : nrOf g wr = x.nr + j := nrOf_eq (by rw [f6]; simp)
    have HMQ := Hid.mk hmq
    clear hmq
    by_cases hlt : j < N
    · have c1 : (x.nr : Int) + j < m := by omega
      have f4 := s_c4 HR.out
      have f2 := s_c2 HR.out
      have zc := HCS.out j
      have HK : Hid (kpCells (leftL x.read x.theirs x.nr j) ++ [.string x.theirs, .int .i64 ((x.nr : Int) + j), .string (keyF (chn x.read j))] = kpCells (leftL x.read x.theirs x.nr (j + 1))) := Hid.mk (by rw [leftL, kpCells_append]; simp [kpCells])
      go_wp2_with (first
        | (go_at_call 69; have M := messageKey_any (chn x.read j) (by omega) wr (HT.out.tch tq hg2); with_reducible refine M.mono ?_; clear M; rintro e w1 ⟨rfl, b1⟩; have HR1 := Hid.mk (s_below HR.out b1); have T1 := tq.trans (tch_of b1 g); have O1 := Hid.mk (own_below3 HOW.out b1); clear f6 f4 f2; have f6 := s_c6 HR1.out; have f2 := s_c2 HR1.out)
        | fail)
      refine wp_region_pq_tail 1 11 (fun w' => ∃ q, w' = w1.dr q) mixed_any (by kernel_rfl) (fun c a a' W h hq => ?hQ) ⟨_, rfl⟩ ?_
      case hQ => exact And.intro (h.symm.trans hq.1) hq.2
      simp only [List.take_succ_cons, List.take_zero, List.drop_succ_cons, List.drop_zero]
      refine pure_move rfl _ rfl u4 rfl ?_
      simp only [Act.put, List.setIfInBounds_toArray, List.set_cons_succ, List.set_cons_zero]
      simp only [wpPure]
      iterate 10 (go_big_quiet_step (fail))
      refine wpQuiet_nil ?_
      rintro w' ⟨q, rfl⟩
      have HR2 : Hid ((w1.dr q).rowOf g = sC x.root x.self x.theirs x.send (chn x.read j) (x.ns : Int) ((x.nr : Int) + j) (x.pn : Int) vK vP vD) := Hid.mk HR1.out
      have O2 : Hid ((w1.dr q).ownsRow w.heap.size 140 3 u4 j (kpCells (leftL x.read x.theirs x.nr j))) := Hid.mk (own_below3 O1.out (below_dr (Below.refl _ _) q))
      have T2 : Tch g w (w1.dr q) := T1.trans (tch_of (below_dr (Below.refl _ _) q) g)
      generalize w1.dr q = W1 at HR2 O2 T2 ⊢
      have s2 := T2.size
      clear f6 f2 HR1 O1 T1
      have zb := behF_size (chn x.read j)
      have HB : Hid (behF (chn x.read j) = chn x.read (j + 1)) := Hid.mk rfl
      go_wp2_with (first
        | (at_builtin; refine wpl_appendL Tryz.underlying80 iKpS (by omega) (by omega) rfl _ _ rfl w.heap.size _ j (kpCells (leftL x.read x.theirs x.nr j)) rfl ?_ _ ⟨W1.heap.size, 0, none⟩ 1 1 [.string x.theirs, .int .i64 ((x.nr : Int) + j), .string (keyF (chn x.read j))] rfl (fun _ => rfl) rfl ?_ ?_ (by omega) (by omega) ?_ ?_; (focus (exact O2.out.alloc _)); (focus (intro q u hq; rw [Addr.add_mid, Nat.zero_add]; exact rowcell (by simp [go_sem]; exact rfl) q u (by simpa using hq))); (focus (intro u hu; simp at hu; rcases hu with rfl | rfl | rfl <;> rfl)); (focus (simp; omega)); intro v6 w6 hown6 hbel6 hsz6; have B6 := hbel6 W1 ((Below.refl _ _).alloc s2 _); have O6 := Hid.mk hown6; have T6 := tch_grow T2 B6; have HR6 := Hid.mk (s_low HR2.out B6 hgl); have f4 := s_c4 HR6.out; clear hown6 hbel6 hsz6)
        | (go_at_call 71; have M := behind_any (chn x.read j) (by omega) w6 (HT.out.tch T6 hg2); with_reducible refine M.mono ?_; clear M; rintro e w7 ⟨rfl, b7⟩; rw [HB.out]; have HR7 := Hid.mk (s_below HR6.out b7); have T7 := T6.trans (tch_of b7 g); have O7 := Hid.mk (own_below3 O6.out b7); clear f4; have f4 := s_c4 HR7.out; have f6 := s_c6 HR7.out; have z4 := s_z HR7.out 4 (by omega); have z6 := s_z HR7.out 6 (by omega))
        | fail)
      have HR9 := Hid.mk (s_set6 (s_set4 HR7.out (chn x.read (j + 1))) ((x.nr : Int) + j + 1))
      have T9 := (T7.setCell 4 (.string (chn x.read (j + 1)))).setCell 6 (.int .i64 ((x.nr : Int) + j + 1))
      have O9 := Hid.mk (owns_tch (owns_tch O7.out (tch_own g 4 w7 (.string (chn x.read (j + 1)))) hgl) (tch_own g 6 _ (.int .i64 ((x.nr : Int) + j + 1))) hgl)
      have hm9 : nrOf g ((w7.setCell ⟨g, 4, none⟩ (.string (chn x.read (j + 1)))).setCell ⟨g, 6, none⟩ (.int .i64 ((x.nr : Int) + j + 1))) = x.nr + (j + 1) := nrOf_eq (by rw [s_c6 HR9.out]; congr 2)
      go_roundw
      case rel => exact ⟨j + 1, by omega, Hid.mk (by rw [← HK.out]; exact O9.out), Hid.mk (by rw [HR9.out]; congr 1), T9⟩
      case measure => rw [hm9, HMQ.out]; omega
    · have hj' : j = N := by omega
      subst hj'
      have c1 : ¬ (x.nr : Int) + j < m := by omega
      have f8 := s_c8 HR.out
      have hvk := HS.out.vk.tch tq HO.out.k
      obtain ⟨aK, mK, cK, eK⟩ := hvk.slice
      have HVK := Hid.mk hvk
      clear hvk
      have HL : Hid (KpsAt wr u4 (leftL x.read x.theirs x.nr j)) := Hid.mk (KpsAt.of_owns (by rw [leftL_length]; exact HOW.out))
      have hu4 := HL.out.slice
      obtain ⟨aU, mU, cU, eU⟩ := hu4
      subst eU
      have HM := Hid.mk (stored_f vK (.slice aU mU cU) x.saved (leftL x.read x.theirs x.nr j) (by have := HX.out.saved; omega) (by rw [leftL_length]; omega) wr HVK.out HL.out)
      clear HVK HL
      subst eK
      go_wp2_with (first
        | (go_at_call 175; with_reducible refine HM.out.mono ?_; rintro e w1 ⟨v1, rfl, hv1, hoff, b1⟩; obtain ⟨aV, mV, cV, eV⟩ := hv1.slice; subst eV; have HV1 := Hid.mk hv1; have HOF := Hid.mk hoff; clear hv1 hoff; have HR1 := Hid.mk (s_below HR.out b1); have T1 := tq.trans (tch_of b1 g); clear f8 f6; have f8 := s_c8 HR1.out; have z8 := s_z HR1.out 8 (by omega))
        | fail)
      go_end0
      have T2 := T1.setCell 8 (.slice aV mV cV)
      refine ⟨rfl, .slice aV mV cV, ?_, fun k hk => HOF.out k (by omega), T2⟩
      rw [HU.out]
      exact ⟨by rw [s_set8 HR1.out]; rw [sC_ses]; simp, HV1.out.tch (tch_own g 8 w1 _) (HOF.out g (by omega)), HS.out.vp.tch T2 HO.out.p, HS.out.vd.tch T2 HO.out.d⟩
end Go.Proofs.YteghoooelgcpkaaGreatDoor
namespace Go.Proofs.YteghoooelgcpkaaGreatDoor
open Go.RowKit Go.Msg
def chainS (x : Sd) (p : Pt) : Sd := { x with saved := lastL x.saved (leftL x.read x.theirs x.nr (p.n - x.nr)), read := behF (chn x.read (p.n - x.nr)), nr := p.n + 1 }
theorem Offs.new {g : Nat} {vK vP vD v : Value} (h : Offs g vK vP vD) (hv : Off g v) : Offs g v vP vD := ⟨hv, h.p, h.d⟩
set_option maxRecDepth 4000 in
set_option maxHeartbeats 8000000 in
theorem readInChain_f (x : Sd) (hx : x.Wf) (hrd : x.read.size = 32) (g : Nat) (vK vP vD : Value) (p : Pt) (hp : PtOk p) (W : ByteArray) (hW : W.size ≤ 200) (w : World) (hs : SesAt w g x vK vP vD) (ho : Offs g vK vP vD) (hT : Tbl w) (hg2 : 2 ≤ g) :
    Calls Tryz.prog 123 #[.pointer (some ⟨g, 0, none⟩), .agg (ptC p), .string W] w fun e w' =>
      ((tagF (keyF (chn x.read (p.n - x.nr))) W p.turned = p.tag ∧ e = .returned (.tuple #[.string (turnF (keyF (chn x.read (p.n - x.nr))) p.turned), .int .i64 0])) ∨ (tagF (keyF (chn x.read (p.n - x.nr))) W p.turned ≠ p.tag ∧ e = .returned (.tuple #[.string ⟨#[]⟩, .int .i64 10]))) ∧
      ∃ v, SesAt w' g (chainS x p) v vP vD ∧ (∀ k, k < w.heap.size → Off k v) ∧ Tch g w w' := by
  obtain ⟨V, hV, R0, B0, z0⟩ := box_pt w p
  have hgl := hs.lt
  have hgb : w.heap.size ≠ g := by omega
  have s0 := B0.size
  have f2 := pt_c2 R0
  have HR0 := Hid.mk R0
  obtain ⟨c, hc⟩ : ∃ c, c = chn x.read (p.n - x.nr) := ⟨_, rfl⟩
  have zc : c.size = 32 := by rw [hc]; exact chn_size hrd _
  have hpn := hp.n
  have HU : Hid (uptoS x p.n = { x with saved := lastL x.saved (leftL x.read x.theirs x.nr (p.n - x.nr)), read := c, nr := x.nr + (p.n - x.nr) }) := Hid.mk (by rw [hc]; rfl)
  have HCS : Hid (chainS x p = { x with saved := lastL x.saved (leftL x.read x.theirs x.nr (p.n - x.nr)), read := behF c, nr := p.n + 1 }) := Hid.mk (by rw [hc]; rfl)
  rw [← hc]
  have HM := Hid.mk (keepUpTo_f x hx hrd g vK vP vD p.n (by omega) V (hs.below B0) ho (hT.below B0) hg2)
  have HS := Hid.mk hs
  have HO := Hid.mk ho
  have HT := Hid.mk hT
  have zk := keyF_size c
  have zb := behF_size c
  have HK : Hid (∀ V', Tbl V' → Calls Tryz.prog 89 #[.string (keyF c), .agg (ptC p), .string W] V' _) := Hid.mk (fun V' h => opened_f (keyF c) zk p hp W hW V' h)
  clear R0 hs ho hT hx hrd hc hp
  rw [box_ptC]
  go_enter Tryz.func123, Tryz.ntmps123
  go_upto_region 1 with fail
  rw [← hV]
  clear hV
  go_wp2_with (first
    | (go_at_call 152; with_reducible refine HM.out.mono ?_; rintro e w1 ⟨rfl, v1, S1, of1, t1⟩; rw [HU.out] at S1; have HS1 := Hid.mk S1; have HOF := Hid.mk of1; clear S1 of1; have T1 := (tch_of B0 g).trans t1; have HR1 := Hid.mk (HS1.out.row.trans (sC_ses _ _ _ _)); have P1 := pt_tch HR0.out t1 hgb; have f4 := s_c4 HR1.out; clear f2; have f2 := pt_c2 P1; have HP1 := Hid.mk P1; clear P1; have hT1 := HT.out.tch T1 hg2)
    | (go_at_call 69; have M := messageKey_any c (by omega) w1 hT1; with_reducible refine M.mono ?_; clear M; rintro e w2 ⟨rfl, b2⟩; have HR2 := Hid.mk (s_below HR1.out b2); have HP2 := Hid.mk (pt_below HP1.out b2); have T2 := T1.trans (tch_of b2 g); clear f4 f2; have f4 := s_c4 HR2.out; have hT2 := hT1.below b2)
    | (go_at_call 71; have M := behind_any c (by omega) w2 hT2; with_reducible refine M.mono ?_; clear M; rintro e w3 ⟨rfl, b3⟩; have HR3 := Hid.mk (s_below HR2.out b3); have HP3 := Hid.mk (pt_below HP2.out b3); have T3 := T2.trans (tch_of b3 g); clear f4; have f4 := s_c4 HR3.out; have z4 := s_z HR3.out 4 (by omega); have f6 := s_c6 HR3.out; have z6 := s_z HR3.out 6 (by omega); have f2 := pt_c2 HP3.out; have P5 := pt_tch (pt_tch HP3.out (tch_own g 4 w3 (.string (behF c))) hgb) (tch_own g 6 _ (.int .i64 ((p.n : Int) + 1))) hgb; have T5 := (T3.setCell 4 (.string (behF c))).setCell 6 (.int .i64 ((p.n : Int) + 1)); have hT5 := HT.out.tch T5 hg2)
    | (refine wpl_load rtPt rfl _ rfl w.heap.size rfl (ptC p) P5 (ptC_size p) ?_)
    | (go_at_call 89; have M := HK.out _ hT5; with_reducible refine M.mono ?_; clear M; rintro e w6 ⟨h6, b6⟩; obtain ⟨t6, e6, hte, rfl⟩ : ∃ t6 e6, ((tagF (keyF c) W p.turned = p.tag ∧ t6 = turnF (keyF c) p.turned ∧ e6 = (0 : Int)) ∨ (tagF (keyF c) W p.turned ≠ p.tag ∧ t6 = ⟨#[]⟩ ∧ e6 = (10 : Int))) ∧ e = .returned (.tuple #[.string t6, .int .i64 e6]) := h6.elim (fun h => ⟨_, _, Or.inl ⟨h.1, rfl, rfl⟩, h.2⟩) (fun h => ⟨_, _, Or.inr ⟨h.1, rfl, rfl⟩, h.2⟩); clear h6; have HTE := Hid.mk hte; clear hte)
    | fail)
  go_ret2
  refine ⟨?_, v1, ?_, fun k hk => HOF.out k (by omega), T5.trans (tch_of b6 g)⟩
  · rcases HTE.out with ⟨h1, h2, h3⟩ | ⟨h1, h2, h3⟩
    · exact Or.inl ⟨h1, by rw [h2, h3]; rfl⟩
    · exact Or.inr ⟨h1, by rw [h2, h3]; rfl⟩
  · rw [HCS.out]
    have t35 : Tch g w1 w6 := ((((tch_of b2 g).trans (tch_of b3 g)).setCell 4 (.string (behF c))).setCell 6 (.int .i64 ((p.n : Int) + 1))).trans (tch_of b6 g)
    refine ⟨?_, HS1.out.vk.tch t35 (HOF.out g (by omega)), HS1.out.vp.tch t35 HO.out.p, HS1.out.vd.tch t35 HO.out.d⟩
    rw [sC_ses]
    exact s_below (by rw [s_set6 (s_set4 HR3.out (behF c)) ((p.n : Int) + 1)]; simp) b6
theorem hearC_cases (x : Sd) (p : Pt) (data : ByteArray) (hth : x.theirs = p.point) :
    (tagF (keyF (chn x.read (p.n - x.nr))) (data ++ p.head) p.turned = p.tag → hearC x p data = (chainS x p, turnF (keyF (chn x.read (p.n - x.nr))) p.turned, 0)) ∧
    (tagF (keyF (chn x.read (p.n - x.nr))) (data ++ p.head) p.turned ≠ p.tag → hearC x p data = (x, ⟨#[]⟩, 10)) := by
  unfold hearC okK chainS
  rw [hth]
  constructor
  · intro h; rw [if_pos (by simp [h])]
  · intro h; rw [if_neg (by simp [h])]
def onS (x : Sd) (p : Pt) (data : ByteArray) : Sd × ByteArray × Int := if x.read.size = 0 ∨ p.n < x.nr then (x, ⟨#[]⟩, 6) else if p.n > x.nr + 20 then (x, ⟨#[]⟩, 7) else hearC x p data
set_option maxRecDepth 4000 in
set_option maxHeartbeats 4000000 in
theorem readOn_f (x : Sd) (hx : x.Wf) (g : Nat) (vK vP vD : Value) (p : Pt) (hp : PtOk p) (hth : x.theirs = p.point) (data : ByteArray) (hd : (data ++ p.head).size ≤ 200) (w : World) (hs : SesAt w g x vK vP vD) (ho : Offs g vK vP vD) (hT : Tbl w) (hg2 : 2 ≤ g) :
    Calls Tryz.prog 90 #[.pointer (some ⟨g, 0, none⟩), .agg (ptC p), .string (data ++ p.head)] w fun e w' =>
      ∃ x' t er, onS x p data = (x', t, er) ∧ e = .returned (.tuple #[.string t, .int .i64 er]) ∧ Tch g w w' ∧ (er = 0 → ∃ v, SesAt w' g x' v vP vD ∧ (∀ k, k < w.heap.size → Off k v)) := by
  obtain ⟨V, hV, R0, B0, z0⟩ := box_pt w p
  have hgl := hs.lt
  have s0 := B0.size
  have S0 := hs.below B0
  have hpn := hp.n
  have hxn := hx.nr
  have f2 := pt_c2 R0
  have g4 := ses_c4 S0
  have g6 : V.cell? ⟨g, 6, none⟩ = some (.int .i64 (x.nr : Int)) := rowcell S0.row 6 _ rfl
  have HR0 := Hid.mk R0
  have HS0 := Hid.mk S0
  have HO := Hid.mk ho
  have HTH := Hid.mk hth
  have cn : (p.n : Int) < 300 := by omega
  have cr : (x.nr : Int) ≤ 300 := by omega
  clear R0 S0 ho hth
  by_cases h1 : x.read.toList = []
  · have b1 : x.read.toList.isEmpty = true := by rw [h1]; rfl
    have H1 := Hid.mk (size_zero.2 (toList_nil.1 h1))
    clear hx hp
    rw [box_ptC]
    go_enter Tryz.func90, Tryz.ntmps90
    go_upto_region 1 with fail
    rw [← hV]
    clear hV
    go_quiet (fail)
    go_wp2
    go_ret2
    exact ⟨x, ⟨#[]⟩, 6, by rw [onS, if_pos (Or.inl H1.out)], rfl, tch_of (below_drewN B0 _) g, fun h => absurd h (by decide)⟩
  · have b1 : x.read.toList.isEmpty = false := by cases h : x.read.toList <;> simp_all
    have hrd : x.read.size = 32 := by
      rcases hx.read with h | h
      · exact absurd (toList_nil.2 (size_zero.1 h)) h1
      · exact h
    by_cases h2 : p.n < x.nr
    · have c2 : (p.n : Int) < x.nr := by omega
      clear hx hp hrd
      rw [box_ptC]
      go_enter Tryz.func90, Tryz.ntmps90
      go_upto_region 1 with fail
      rw [← hV]
      clear hV
      go_quiet (fail)
      go_wp2
      go_ret2
      exact ⟨x, ⟨#[]⟩, 6, by rw [onS, if_pos (Or.inr h2)], rfl, tch_of (below_drewN B0 _) g, fun h => absurd h (by decide)⟩
    · have c2 : ¬ (p.n : Int) < x.nr := by omega
      have HNO : Hid (¬ (x.read.size = 0 ∨ p.n < x.nr)) := Hid.mk (by omega)
      by_cases h3 : p.n > x.nr + 20
      · have c3 : (p.n : Int) > (x.nr : Int) + 20 := by omega
        clear hx hp hrd
        rw [box_ptC]
        go_enter Tryz.func90, Tryz.ntmps90
        go_upto_region 1 with fail
        rw [← hV]
        clear hV
        go_quiet (fail)
        go_wp2_with fail
        go_quiet (fail)
        go_wp2
        go_ret2
        exact ⟨x, ⟨#[]⟩, 7, by rw [onS, if_neg HNO.out, if_pos h3], rfl, tch_of (below_drewN (below_drewN B0 _) _) g, fun h => absurd h (by decide)⟩
      · have c3 : ¬ (p.n : Int) > (x.nr : Int) + 20 := by omega
        have HMM : Hid (∀ W1 : World, Below w.heap.size w W1 → SesAt W1 g x vK vP vD → Calls Tryz.prog 123 #[.pointer (some ⟨g, 0, none⟩), .agg (ptC p), .string (data ++ p.head)] W1 (fun e w' => ((tagF (keyF (chn x.read (p.n - x.nr))) (data ++ p.head) p.turned = p.tag ∧ e = .returned (.tuple #[.string (turnF (keyF (chn x.read (p.n - x.nr))) p.turned), .int .i64 0])) ∨ (tagF (keyF (chn x.read (p.n - x.nr))) (data ++ p.head) p.turned ≠ p.tag ∧ e = .returned (.tuple #[.string ⟨#[]⟩, .int .i64 10]))) ∧ ∃ v, SesAt w' g (chainS x p) v vP vD ∧ (∀ k, k < W1.heap.size → Off k v) ∧ Tch g W1 w')) := Hid.mk (fun W1 b1 s1 => readInChain_f x hx hrd g vK vP vD p hp (data ++ p.head) hd W1 s1 HO.out (hT.below b1) hg2)
        clear hx hp hrd hT
        rw [box_ptC]
        go_enter Tryz.func90, Tryz.ntmps90
        go_upto_region 1 with fail
        rw [← hV]
        clear hV
        go_quiet (fail)
        have B1 := below_drewN B0 nq
        have R1 : (V.drewN nq).rowOf w.heap.size = ptC p := HR0.out
        have S1 := HS0.out.below (below_drewN (Below.refl _ _) nq)
        generalize V.drewN nq = V1 at B1 R1 S1 ⊢
        clear f2 g4 g6
        have f2 := pt_c2 R1
        have g6 : V1.cell? ⟨g, 6, none⟩ = some (.int .i64 (x.nr : Int)) := rowcell S1.row 6 _ rfl
        have HR1 := Hid.mk R1
        have HS1 := Hid.mk S1
        clear R1 S1
        go_wp2_with fail
        go_quiet (fail)
        have B2 := below_drewN B1 nq
        have R2 : (V1.drewN nq).rowOf w.heap.size = ptC p := HR1.out
        have S2 := Hid.mk (HS1.out.below (below_drewN (Below.refl _ _) nq))
        generalize V1.drewN nq = V2 at B2 R2 S2 ⊢
        have z2 := B2.size
        clear f2 g6
        go_wp2_with (first
          | (refine wpl_load rtPt rfl _ rfl w.heap.size rfl (ptC p) R2 (ptC_size p) ?_)
          | (go_at_call 123; have M := HMM.out V2 B2 S2.out; with_reducible refine M.mono ?_; clear M; rintro e w6 ⟨h6, v6, S6, o6, t6⟩; obtain ⟨u6, e6, hte, rfl⟩ : ∃ t6 e6, ((tagF (keyF (chn x.read (p.n - x.nr))) (data ++ p.head) p.turned = p.tag ∧ t6 = turnF (keyF (chn x.read (p.n - x.nr))) p.turned ∧ e6 = (0 : Int)) ∨ (tagF (keyF (chn x.read (p.n - x.nr))) (data ++ p.head) p.turned ≠ p.tag ∧ t6 = ⟨#[]⟩ ∧ e6 = (10 : Int))) ∧ e = .returned (.tuple #[.string t6, .int .i64 e6]) := h6.elim (fun h => ⟨_, _, Or.inl ⟨h.1, rfl, rfl⟩, h.2⟩) (fun h => ⟨_, _, Or.inr ⟨h.1, rfl, rfl⟩, h.2⟩); clear h6; have HTE := Hid.mk hte; clear hte; have HS6 := Hid.mk S6; have HO6 := Hid.mk o6; clear S6 o6)
          | fail)
        go_ret2
        have C := hearC_cases x p data HTH.out
        rw [onS, if_neg HNO.out, if_neg h3]
        rcases HTE.out with ⟨h4, h5, h6⟩ | ⟨h4, h5, h6⟩
        · exact ⟨chainS x p, u6, e6, by rw [C.1 h4, h5, h6], rfl, (tch_of B2 g).trans t6, fun _ => ⟨v6, HS6.out, fun k hk => HO6.out k (by omega)⟩⟩
        · exact ⟨x, u6, e6, by rw [C.2 h4, h5, h6], rfl, (tch_of B2 g).trans t6, fun h => absurd h (by rw [h6]; decide)⟩
end Go.Proofs.YteghoooelgcpkaaGreatDoor
namespace Go.Proofs.YteghoooelgcpkaaGreatDoor
open Go.RowKit Go.Msg
def turnR (x : Sd) (p : Pt) (s : ByteArray) : Sd := { x with saved := newSaved x p, past := newPast x, theirs := p.point, root := rootA x.root s, read := rootC x.root s, nr := 0 }
def turnS (x : Sd) (d : ByteArray) (l : List ByteArray) : Sd := { x with self := d, draws := l, root := rootA x.root (dhF d x.theirs), send := rootC x.root (dhF d x.theirs), pn := x.ns, ns := 0 }
theorem cast0 : ((0 : Nat) : Int) = 0 := rfl
theorem turnR_row (x : Sd) (p : Pt) (s : ByteArray) (vK vP vD : Value) : sesC (turnR x p s) vK vP vD = sC (rootA x.root s) x.self p.point x.send (rootC x.root s) (x.ns : Int) 0 (x.pn : Int) vK vP vD := by
  rw [sC_ses]; simp only [turnR, cast0]
theorem turnS_row (x : Sd) (d : ByteArray) (l : List ByteArray) (vK vP vD : Value) : sesC (turnS x d l) vK vP vD = sC (rootA x.root (dhF d x.theirs)) d x.theirs (rootC x.root (dhF d x.theirs)) x.read 0 (x.nr : Int) (x.ns : Int) vK vP vD := by
  rw [sC_ses]; simp only [turnS, cast0]
theorem turnR_saved (x : Sd) (p : Pt) (s : ByteArray) : (turnR x p s).saved = newSaved x p := by simp only [turnR]
theorem turnR_past (x : Sd) (p : Pt) (s : ByteArray) : (turnR x p s).past = newPast x := by simp only [turnR]
theorem turnR_draws (x : Sd) (p : Pt) (s : ByteArray) : (turnR x p s).draws = x.draws := by simp only [turnR]
theorem turnS_saved (x : Sd) (d : ByteArray) (l : List ByteArray) : (turnS x d l).saved = x.saved := by simp only [turnS]
theorem turnS_past (x : Sd) (d : ByteArray) (l : List ByteArray) : (turnS x d l).past = x.past := by simp only [turnS]
theorem turnS_draws (x : Sd) (d : ByteArray) (l : List ByteArray) : (turnS x d l).draws = l := by simp only [turnS]
set_option maxRecDepth 4000 in
set_option maxHeartbeats 8000000 in
theorem turnReading_f (x : Sd) (hx : x.Wf) (g : Nat) (vK vP vD : Value) (p : Pt) (hp : PtOk p) (sh : ByteArray) (hsh : sh.size = 32) (w : World) (hs : SesAt w g x vK vP vD) (ho : Offs g vK vP vD) (hT : Tbl w) (hg2 : 2 ≤ g) :
    Calls Tryz.prog 124 #[.pointer (some ⟨g, 0, none⟩), .agg (ptC p), .string sh] w fun e w' => e = .returned (.tuple #[]) ∧ ∃ v vp, SesAt w' g (turnR x p sh) v vp vD ∧ (∀ k, k < w.heap.size → Offs k vK vP vD → Offs k v vp vD) ∧ Tch g w w' := by
  obtain ⟨V, hV, R0, B0, z0⟩ := box_pt w p
  have hgl := hs.lt
  have hgb : w.heap.size ≠ g := by omega
  have s0 := B0.size
  have S0 := hs.below B0
  have HR0 := Hid.mk R0
  have HS0 := Hid.mk S0
  have HS := Hid.mk hs
  have HO := Hid.mk ho
  have HT := Hid.mk hT
  have HX := Hid.mk hx
  have hpa := hp.ahead
  have f1 := pt_c1 R0
  have g4 := ses_c4 S0
  have zr := hx.root
  have zra := rootA_size x.root sh
  have zrc := rootC_size x.root sh
  clear R0 S0
  by_cases h1 : x.read.toList = []
  · have b1 : x.read.toList.isEmpty = true := by rw [h1]; rfl
    have HRE : Hid (x.read.size = 0) := Hid.mk (size_zero.2 (toList_nil.1 h1))
    have HNS : Hid (newSaved x p = x.saved) := Hid.mk (by unfold newSaved; rw [if_pos HRE.out])
    have g2 := ses_c2 HS0.out
    by_cases h2 : x.theirs.toList = []
    · have b2 : x.theirs.toList.isEmpty = true := by rw [h2]; rfl
      have HTE : Hid (x.theirs.size = 0) := Hid.mk (size_zero.2 (toList_nil.1 h2))
      have HNP : Hid (newPast x = x.past) := Hid.mk (by unfold newPast; rw [if_pos HTE.out])
      have y2 := rowfz2 HS0.out.row 2 (by rw [sesC_size]; omega)
      have p0 := pt_c0 HR0.out
      clear hs ho hT hx hp
      rw [box_ptC]
      go_enter Tryz.func124, Tryz.ntmps124
      go_upto_region 1 with fail
      rw [← hV]
      clear hV
      go_upto_region 6 with fail
      have HR3 := Hid.mk (s_set2 (HS0.out.row.trans (sC_ses x vK vP vD)) p.point)
      have t3 : Tch g V (V.setCell ⟨g, 2, none⟩ (.string p.point)) := (tch_refl g V).setCell 2 _
      have T3 : Tch g w (V.setCell ⟨g, 2, none⟩ (.string p.point)) := (tch_of B0 g).trans t3
      have HVK3 := Hid.mk (HS0.out.vk.tch t3 HO.out.k)
      have HVP3 := Hid.mk (HS0.out.vp.tch t3 HO.out.p)
      have HVD3 := Hid.mk (HS0.out.vd.tch t3 HO.out.d)
      generalize V.setCell ⟨g, 2, none⟩ (.string p.point) = W3 at HR3 T3 HVK3 HVP3 HVD3 ⊢
      clear g2 y2 p0 g4 f1
      have g0 := s_c0 HR3.out
      go_wp2_with (first
        | (go_at_call 117; have M := root_any x.root sh zr hsh W3 (HT.out.tch T3 hg2); with_reducible refine M.mono ?_; clear M; rintro e w4 ⟨rfl, b4⟩; have HR4 := Hid.mk (s_below HR3.out b4); have T4 := T3.trans (tch_of b4 g); clear g0; have g0 := s_c0 HR4.out; have y0 := s_z HR4.out 0 (by omega); have g4 := s_c4 HR4.out; have y4 := s_z HR4.out 4 (by omega); have g6 := s_c6 HR4.out; have y6 := s_z HR4.out 6 (by omega))
        | fail)
      go_end0
      have T5 : Tch g W3 (((w4.setCell ⟨g, 0, none⟩ (.string (rootA x.root sh))).setCell ⟨g, 4, none⟩ (.string (rootC x.root sh))).setCell ⟨g, 6, none⟩ (.int .i64 0)) := (((tch_of b4 g).setCell 0 _).setCell 4 _).setCell 6 _
      have R5 := s_set6 (s_set4 (s_set0 HR4.out (rootA x.root sh)) (rootC x.root sh)) 0
      refine ⟨rfl, vK, vP, ⟨R5.trans (turnR_row x p sh _ _ _).symm, ?_, ?_, ?_⟩, ?_, T3.trans T5⟩
      · rw [turnR_saved, HNS.out]; exact HVK3.out.tch T5 HO.out.k
      · rw [turnR_past, HNP.out]; exact HVP3.out.tch T5 HO.out.p
      · rw [turnR_draws]; exact HVD3.out.tch T5 HO.out.d
      · exact fun k _ h => h
    · have b2 : x.theirs.toList.isEmpty = false := by cases h : x.theirs.toList <;> simp_all
      have HTE : Hid (¬ x.theirs.size = 0) := Hid.mk (fun e => h2 (toList_nil.2 (size_zero.1 e)))
      have HNP : Hid (newPast x = x.past ++ [x.theirs]) := Hid.mk (by unfold newPast; rw [if_neg HTE.out])
      obtain ⟨aP, mP, cP, eP⟩ := hs.vp.slice
      subst eP
      have T1 := tch_of B0 g
      have HR1 : Hid (V.rowOf g = sC x.root x.self x.theirs x.send x.read (x.ns : Int) (x.nr : Int) (x.pn : Int) vK (.slice aP mP cP) vD) := Hid.mk (HS0.out.row.trans (sC_ses x vK _ vD))
      have g9 := s_c9 HR1.out
      have HP1 := HR0
      have HVK1 := Hid.mk HS0.out.vk
      have HVP1 := Hid.mk HS0.out.vp
      have HVD1 := Hid.mk HS0.out.vd
      have HOK1 := Hid.mk HO.out.k
      clear hs ho hT hx hp
      rw [box_ptC]
      go_enter Tryz.func124, Tryz.ntmps124
      go_upto_region 1 with fail
      rw [← hV]
      clear hV
      go_wp2_with fail
      clear f1 g4
      refine wp_region_pq_tail 1 9 (fun w' => ∃ q, w' = V.dr q) mixed_any (by kernel_rfl) (fun c a a' W h hq => ?hQ) ⟨_, rfl⟩ ?_
      case hQ => exact And.intro (h.symm.trans hq.1) hq.2
      simp only [List.take_succ_cons, List.take_zero, List.drop_succ_cons, List.drop_zero]
      refine pure_move rfl _ rfl (.pointer (some ⟨g, 0, none⟩)) rfl ?_
      simp only [Act.put, List.setIfInBounds_toArray, List.set_cons_succ, List.set_cons_zero]
      simp only [wpPure]
      iterate 8 (go_big_quiet_step (fail))
      refine wpQuiet_nil ?_
      rintro w' ⟨q, rfl⟩
      have HR2 : Hid ((V.dr q).rowOf g = sC x.root x.self x.theirs x.send x.read (x.ns : Int) (x.nr : Int) (x.pn : Int) vK (.slice aP mP cP) vD) := Hid.mk HR1.out
      have HP2 : Hid ((V.dr q).rowOf w.heap.size = ptC p) := Hid.mk HP1.out
      have B2 : Below V.heap.size V (V.dr q) := below_dr (Below.refl _ _) q
      have T2 : Tch g w (V.dr q) := T1.trans (tch_of B2 g)
      have HVK2 := Hid.mk (HVK1.out.below B2)
      have HVP2 := Hid.mk (HVP1.out.below B2)
      have HVD2 := Hid.mk (HVD1.out.below B2)
      generalize V.dr q = W2 at HR2 HP2 T2 HVK2 HVP2 HVD2 ⊢
      have s2 := T2.size
      clear g9 g2 HR1 HP1 HVK1 HVP1 HVD1 B2
      have HM := Hid.mk (joined_g (.slice aP mP cP) x.past x.theirs (by have := HX.out.past; omega) W2 HVP2.out)
      go_upto_region 6 with (first
        | (go_at_call 118; with_reducible refine HM.out.mono ?_; rintro e w3 ⟨v3, rfl, hv3, hoff3, b3⟩; obtain ⟨aV, mV, cV, eV⟩ := hv3.slice; subst eV; have HV3 := Hid.mk hv3; have HOF3 := Hid.mk hoff3; clear hv3 hoff3; have HR3 := Hid.mk (s_below HR2.out b3); have HP3 := pt_below HP2.out b3; have T3 := T2.trans (tch_of b3 g); have g9 := s_c9 HR3.out; have y9 := s_z HR3.out 9 (by omega); have g2 := s_c2 HR3.out; have y2 := s_z HR3.out 2 (by omega); have p0 := pt_c0 HP3)
        | fail)
      have HR3' := Hid.mk (s_set2 (s_set9 HR3.out (.slice aV mV cV)) p.point)
      have t23 : Tch g W2 ((w3.setCell ⟨g, 9, none⟩ (.slice aV mV cV)).setCell ⟨g, 2, none⟩ (.string p.point)) := ((tch_of b3 g).setCell 9 _).setCell 2 _
      have t33 : Tch g w3 ((w3.setCell ⟨g, 9, none⟩ (.slice aV mV cV)).setCell ⟨g, 2, none⟩ (.string p.point)) := ((tch_refl g w3).setCell 9 _).setCell 2 _
      have T3' := T2.trans t23
      have HVK3 := Hid.mk (HVK2.out.tch t23 HOK1.out)
      have HVP3 := Hid.mk (HV3.out.tch t33 (HOF3.out g (by omega)))
      have HVD3 := Hid.mk (HVD2.out.tch t23 HO.out.d)
      generalize (w3.setCell ⟨g, 9, none⟩ (.slice aV mV cV)).setCell ⟨g, 2, none⟩ (.string p.point) = W3 at HR3' T3' HVK3 HVP3 HVD3 ⊢
      clear HR3 HP3 T3 g9 y9 g2 y2 p0 t23 t33 b3
      have HR3 := HR3'
      have T3 := T3'
      clear HR3' T3'
      have g0 := s_c0 HR3.out
      go_wp2_with (first
        | (go_at_call 117; have M := root_any x.root sh zr hsh W3 (HT.out.tch T3 hg2); with_reducible refine M.mono ?_; clear M; rintro e w4 ⟨rfl, b4⟩; have HR4 := Hid.mk (s_below HR3.out b4); have T4 := T3.trans (tch_of b4 g); clear g0; have g0 := s_c0 HR4.out; have y0 := s_z HR4.out 0 (by omega); have g4 := s_c4 HR4.out; have y4 := s_z HR4.out 4 (by omega); have g6 := s_c6 HR4.out; have y6 := s_z HR4.out 6 (by omega))
        | fail)
      go_end0
      have T5 : Tch g W3 (((w4.setCell ⟨g, 0, none⟩ (.string (rootA x.root sh))).setCell ⟨g, 4, none⟩ (.string (rootC x.root sh))).setCell ⟨g, 6, none⟩ (.int .i64 0)) := (((tch_of b4 g).setCell 0 _).setCell 4 _).setCell 6 _
      have R5 := s_set6 (s_set4 (s_set0 HR4.out (rootA x.root sh)) (rootC x.root sh)) 0
      refine ⟨rfl, vK, (.slice aV mV cV), ⟨R5.trans (turnR_row x p sh _ _ _).symm, ?_, ?_, ?_⟩, ?_, T3.trans T5⟩
      · rw [turnR_saved, HNS.out]; exact HVK3.out.tch T5 HO.out.k
      · rw [turnR_past, HNP.out]; exact HVP3.out.tch T5 (HOF3.out g (by omega))
      · rw [turnR_draws]; exact HVD3.out.tch T5 HO.out.d
      · exact fun k hk h => ⟨h.k, HOF3.out k (by omega), h.d⟩
  · have b1 : x.read.toList.isEmpty = false := by cases h : x.read.toList <;> simp_all
    have HRE : Hid (¬ x.read.size = 0) := Hid.mk (fun e => h1 (toList_nil.2 (size_zero.1 e)))
    have hrd : x.read.size = 32 := by
      rcases hx.read with h | h
      · exact absurd h HRE.out
      · exact h
    have HTE : Hid (¬ x.theirs.size = 0) := Hid.mk (hx.both HRE.out)
    have b2 : x.theirs.toList.isEmpty = false := by
      cases h : x.theirs.toList with
      | nil => exact absurd (size_zero.2 (toList_nil.1 h)) HTE.out
      | cons _ _ => rfl
    have HNS : Hid (newSaved x p = lastL x.saved (leftL x.read x.theirs x.nr (p.ahead - x.nr))) := Hid.mk (by unfold newSaved; rw [if_neg HRE.out])
    have HNP : Hid (newPast x = x.past ++ [x.theirs]) := Hid.mk (by unfold newPast; rw [if_neg HTE.out])
    obtain ⟨aP, mP, cP, eP⟩ := hs.vp.slice
    subst eP
    have HM0 := Hid.mk (keepUpTo_f x hx hrd g vK (.slice aP mP cP) vD p.ahead hpa V HS0.out ho (hT.below B0) hg2)
    obtain ⟨rd, hrdE⟩ : ∃ rd, rd = chn x.read (p.ahead - x.nr) := ⟨_, rfl⟩
    obtain ⟨nr, hnrE⟩ : ∃ nr, nr = x.nr + (p.ahead - x.nr) := ⟨_, rfl⟩
    obtain ⟨sv, hsvE⟩ : ∃ sv, sv = lastL x.saved (leftL x.read x.theirs x.nr (p.ahead - x.nr)) := ⟨_, rfl⟩
    have HU : Hid (uptoS x p.ahead = { x with saved := sv, read := rd, nr := nr }) := Hid.mk (by rw [hrdE, hnrE, hsvE]; rfl)
    rw [← hsvE] at HNS
    clear hs ho hT hx hp hrd hrdE hnrE hsvE
    rw [box_ptC]
    go_enter Tryz.func124, Tryz.ntmps124
    go_upto_region 1 with fail
    rw [← hV]
    clear hV
    go_wp2_with (first
      | (go_at_call 152; with_reducible refine HM0.out.mono ?_; rintro e w1 ⟨rfl, v1, S1, of1, t1⟩; rw [HU.out] at S1; have HS1 := Hid.mk S1; have HOF1 := Hid.mk of1; clear S1 of1; have HR1 := Hid.mk (HS1.out.row.trans (sC_ses _ _ _ _)); have g2 := s_c2 HR1.out; have g9 := s_c9 HR1.out)
      | fail)
    have T1 := (tch_of B0 g).trans t1
    have HP1 := Hid.mk (pt_tch HR0.out t1 hgb)
    have HVK1 := Hid.mk HS1.out.vk
    have HVP1 := Hid.mk HS1.out.vp
    have HVD1 := Hid.mk HS1.out.vd
    have HOK1 := Hid.mk (HOF1.out g (by omega))
    clear f1 g4 HS1
    refine wp_region_pq_tail 1 9 (fun w' => ∃ q, w' = w1.dr q) mixed_any (by kernel_rfl) (fun c a a' W h hq => ?hQ) ⟨_, rfl⟩ ?_
    case hQ => exact And.intro (h.symm.trans hq.1) hq.2
    simp only [List.take_succ_cons, List.take_zero, List.drop_succ_cons, List.drop_zero]
    refine pure_move rfl _ rfl (.pointer (some ⟨g, 0, none⟩)) rfl ?_
    simp only [Act.put, List.setIfInBounds_toArray, List.set_cons_succ, List.set_cons_zero]
    simp only [wpPure]
    iterate 8 (go_big_quiet_step (fail))
    refine wpQuiet_nil ?_
    rintro w' ⟨q, rfl⟩
    have HR2 : Hid ((w1.dr q).rowOf g = sC x.root x.self x.theirs x.send rd (x.ns : Int) (nr : Int) (x.pn : Int) v1 (.slice aP mP cP) vD) := Hid.mk HR1.out
    have HP2 : Hid ((w1.dr q).rowOf w.heap.size = ptC p) := Hid.mk HP1.out
    have B2 : Below w1.heap.size w1 (w1.dr q) := below_dr (Below.refl _ _) q
    have T2 : Tch g w (w1.dr q) := T1.trans (tch_of B2 g)
    have HVK2 := Hid.mk (HVK1.out.below B2)
    have HVP2 := Hid.mk (HVP1.out.below B2)
    have HVD2 := Hid.mk (HVD1.out.below B2)
    generalize w1.dr q = W2 at HR2 HP2 T2 HVK2 HVP2 HVD2 ⊢
    have s2 := T2.size
    clear g9 g2 HR1 HP1 HVK1 HVP1 HVD1 B2
    have HM := Hid.mk (joined_g (.slice aP mP cP) x.past x.theirs (by have := HX.out.past; omega) W2 HVP2.out)
    go_upto_region 6 with (first
      | (go_at_call 118; with_reducible refine HM.out.mono ?_; rintro e w3 ⟨v3, rfl, hv3, hoff3, b3⟩; obtain ⟨aV, mV, cV, eV⟩ := hv3.slice; subst eV; have HV3 := Hid.mk hv3; have HOF3 := Hid.mk hoff3; clear hv3 hoff3; have HR3 := Hid.mk (s_below HR2.out b3); have HP3 := pt_below HP2.out b3; have T3 := T2.trans (tch_of b3 g); have g9 := s_c9 HR3.out; have y9 := s_z HR3.out 9 (by omega); have g2 := s_c2 HR3.out; have y2 := s_z HR3.out 2 (by omega); have p0 := pt_c0 HP3)
      | fail)
    have HR3' := Hid.mk (s_set2 (s_set9 HR3.out (.slice aV mV cV)) p.point)
    have t23 : Tch g W2 ((w3.setCell ⟨g, 9, none⟩ (.slice aV mV cV)).setCell ⟨g, 2, none⟩ (.string p.point)) := ((tch_of b3 g).setCell 9 _).setCell 2 _
    have t33 : Tch g w3 ((w3.setCell ⟨g, 9, none⟩ (.slice aV mV cV)).setCell ⟨g, 2, none⟩ (.string p.point)) := ((tch_refl g w3).setCell 9 _).setCell 2 _
    have T3' := T2.trans t23
    have HVK3 := Hid.mk (HVK2.out.tch t23 HOK1.out)
    have HVP3 := Hid.mk (HV3.out.tch t33 (HOF3.out g (by omega)))
    have HVD3 := Hid.mk (HVD2.out.tch t23 HO.out.d)
    generalize (w3.setCell ⟨g, 9, none⟩ (.slice aV mV cV)).setCell ⟨g, 2, none⟩ (.string p.point) = W3 at HR3' T3' HVK3 HVP3 HVD3 ⊢
    clear HR3 HP3 T3 g9 y9 g2 y2 p0 t23 t33 b3
    have HR3 := HR3'
    have T3 := T3'
    clear HR3' T3'
    have g0 := s_c0 HR3.out
    go_wp2_with (first
      | (go_at_call 117; have M := root_any x.root sh zr hsh W3 (HT.out.tch T3 hg2); with_reducible refine M.mono ?_; clear M; rintro e w4 ⟨rfl, b4⟩; have HR4 := Hid.mk (s_below HR3.out b4); have T4 := T3.trans (tch_of b4 g); clear g0; have g0 := s_c0 HR4.out; have y0 := s_z HR4.out 0 (by omega); have g4 := s_c4 HR4.out; have y4 := s_z HR4.out 4 (by omega); have g6 := s_c6 HR4.out; have y6 := s_z HR4.out 6 (by omega))
      | fail)
    go_end0
    have T5 : Tch g W3 (((w4.setCell ⟨g, 0, none⟩ (.string (rootA x.root sh))).setCell ⟨g, 4, none⟩ (.string (rootC x.root sh))).setCell ⟨g, 6, none⟩ (.int .i64 0)) := (((tch_of b4 g).setCell 0 _).setCell 4 _).setCell 6 _
    have R5 := s_set6 (s_set4 (s_set0 HR4.out (rootA x.root sh)) (rootC x.root sh)) 0
    refine ⟨rfl, v1, (.slice aV mV cV), ⟨R5.trans (turnR_row x p sh _ _ _).symm, ?_, ?_, ?_⟩, ?_, T3.trans T5⟩
    · rw [turnR_saved, HNS.out]; exact HVK3.out.tch T5 HOK1.out
    · rw [turnR_past, HNP.out]; exact HVP3.out.tch T5 (HOF3.out g (by omega))
    · rw [turnR_draws]; exact HVD3.out.tch T5 HO.out.d
    · exact fun k hk h => ⟨HOF1.out k (by omega), HOF3.out k (by omega), h.d⟩
set_option maxRecDepth 4000 in
set_option maxHeartbeats 8000000 in
theorem turnSending_f (x : Sd) (hx : x.Wf) (hth : x.theirs.size = 32) (d : ByteArray) (l : List ByteArray) (hdl : x.draws = d :: l) (g : Nat) (vK vP vD : Value) (w : World) (hs : SesAt w g x vK vP vD) (ho : Offs g vK vP vD) (hT : Tbl w) (hg2 : 2 ≤ g) :
    Calls Tryz.prog 125 #[.pointer (some ⟨g, 0, none⟩)] w fun e w' => e = .returned (.tuple #[]) ∧ ∃ v, SesAt w' g (turnS x d l) vK vP v ∧ (∀ k, k < w.heap.size → Off k v) ∧ Tch g w w' := by
  have hgl := hs.lt
  obtain ⟨aD, mD, cD, eD⟩ := hs.vd.slice
  subst eD
  have HR0 : Hid (w.rowOf g = sC x.root x.self x.theirs x.send x.read (x.ns : Int) (x.nr : Int) (x.pn : Int) vK vP (.slice aD mD cD)) := Hid.mk (hs.row.trans (sC_ses x vK vP _))
  have zd : d.size = 32 := hx.drawsW d (by rw [hdl]; simp)
  have hl8 : l.length ≤ 100 := by have := hx.draws; rw [hdl] at this; simp at this; omega
  have zr := hx.root
  have hvd := hs.vd
  rw [hdl] at hvd
  have HM := Hid.mk (parted_f (.slice aD mD cD) d l hl8 w hvd)
  have zh := dhF_size d x.theirs
  have zra := rootA_size x.root (dhF d x.theirs)
  have zrc := rootC_size x.root (dhF d x.theirs)
  have HVK0 := Hid.mk hs.vk
  have HVP0 := Hid.mk hs.vp
  have HO := Hid.mk ho
  have HT := Hid.mk hT
  have hns := hx.ns
  have g10 := s_c10 HR0.out
  clear hvd hs ho hT hx hdl
  go_enter Tryz.func125, Tryz.ntmps125
  go_wp2_with (first
    | (go_at_call 153; with_reducible refine HM.out.mono ?_; rintro e w1 ⟨v1, rfl, hv1, hoff1, b1⟩; obtain ⟨aV, mV, cV, eV⟩ := hv1.slice; subst eV; have HV1 := Hid.mk hv1; have HOF1 := Hid.mk hoff1; clear hv1 hoff1 g10; have HR1 := Hid.mk (s_below HR0.out b1); have g1 := s_c1 HR1.out; have y1 := s_z HR1.out 1 (by omega); have g10 := s_c10 HR1.out; have y10 := s_z HR1.out 10 (by omega))
    | fail)
  have HR2 := Hid.mk (s_set10 (s_set1 HR1.out d) (.slice aV mV cV))
  have t2 : Tch g w1 ((w1.setCell ⟨g, 1, none⟩ (.string d)).setCell ⟨g, 10, none⟩ (.slice aV mV cV)) := ((tch_refl g w1).setCell 1 _).setCell 10 _
  have T2 := (tch_of b1 g).trans t2
  have HVD2 := Hid.mk (HV1.out.tch t2 (HOF1.out g hgl))
  generalize (w1.setCell ⟨g, 1, none⟩ (.string d)).setCell ⟨g, 10, none⟩ (.slice aV mV cV) = W2 at HR2 T2 HVD2 ⊢
  have s2 := T2.size
  clear g1 y1 g10 y10 t2 HR1 HV1
  have E1 : ∀ W, Below W2.heap.size W2 W → W.cell? ⟨g, 1, none⟩ = some (.string d) := fun W hW => s_c1 (s_below HR2.out hW)
  have E2 : ∀ W, Below W2.heap.size W2 W → W.cell? ⟨g, 2, none⟩ = some (.string x.theirs) := fun W hW => s_c2 (s_below HR2.out hW)
  refine wp_region_quiet (C := fun W => Below W2.heap.size W2 W) mixed_any (by kernel_rfl) (Below.refl _ _).drew ?_
  simp only
  refine quiet_move rfl _ rfl (.pointer (some ⟨g, 0, none⟩)) rfl ?_
  simp only [Act.put, List.setIfInBounds_toArray, List.set_cons_succ, List.set_cons_zero]
  refine quiet_nil rfl _ rfl ⟨g, 0, none⟩ rfl ?_
  simp only [Act.put, List.setIfInBounds_toArray, List.set_cons_succ, List.set_cons_zero]
  refine quiet_value rfl (.pointer (some ⟨g, 1, none⟩)) (fun W hW => ⟨W, by unfold execOp; simp [go_sem, Act.eval], rfl⟩) ?_
  simp only [Act.put, List.setIfInBounds_toArray, List.set_cons_succ, List.set_cons_zero]
  refine quiet_value rfl (.string d) (fun W hW => ⟨W, by have E := E1 W hW; unfold execOp; simp [go_sem, Act.eval, E], rfl⟩) ?_
  simp only [Act.put, List.setIfInBounds_toArray, List.set_cons_succ, List.set_cons_zero]
  refine quiet_move rfl _ rfl (.pointer (some ⟨g, 0, none⟩)) rfl ?_
  simp only [Act.put, List.setIfInBounds_toArray, List.set_cons_succ, List.set_cons_zero]
  refine quiet_nil rfl _ rfl ⟨g, 0, none⟩ rfl ?_
  simp only [Act.put, List.setIfInBounds_toArray, List.set_cons_succ, List.set_cons_zero]
  refine quiet_value rfl (.pointer (some ⟨g, 2, none⟩)) (fun W hW => ⟨W, by unfold execOp; simp [go_sem, Act.eval], rfl⟩) ?_
  simp only [Act.put, List.setIfInBounds_toArray, List.set_cons_succ, List.set_cons_zero]
  refine quiet_value rfl (.string x.theirs) (fun W hW => ⟨W, by have E := E2 W hW; unfold execOp; simp [go_sem, Act.eval, E], rfl⟩) ?_
  simp only [Act.put, List.setIfInBounds_toArray, List.set_cons_succ, List.set_cons_zero]
  refine quiet_call rfl (.string (dhF d x.theirs)) 101 #[.string d, .string x.theirs] (fun W => by unfold execOp; simp [go_sem, Act.eval]) (fun W hW => (cshared_f d x.theirs (by omega) (by omega) W).mono fun _ _ h => ⟨h.1, below_lift hW hW.size h.2⟩) ?_
  simp only [Act.put, List.setIfInBounds_toArray, List.set_cons_succ, List.set_cons_zero]
  refine quiet_assign rfl _ rfl (.string (dhF d x.theirs)) rfl ?_
  simp only [Act.put, List.setIfInBounds_toArray, List.set_cons_succ, List.set_cons_zero]
  refine wpQuiet_nil ?_
  intro W3 B3
  clear E1 E2
  have HR3 := Hid.mk (s_below HR2.out B3)
  have T3 := T2.trans (tch_of B3 g)
  have HVD3 := Hid.mk (HVD2.out.below B3)
  have g0 := s_c0 HR3.out
  clear B3 HR2 HVD2
  go_wp2_with (first
    | (go_at_call 117; have M := root_any x.root (dhF d x.theirs) zr zh W3 (HT.out.tch T3 hg2); with_reducible refine M.mono ?_; clear M; rintro e w4 ⟨rfl, b4⟩; have HR4 := Hid.mk (s_below HR3.out b4); have T4 := T3.trans (tch_of b4 g); clear g0; have g0 := s_c0 HR4.out; have y0 := s_z HR4.out 0 (by omega); have g3 := s_c3 HR4.out; have y3 := s_z HR4.out 3 (by omega); have g5 := s_c5 HR4.out; have y5 := s_z HR4.out 5 (by omega); have g7 := s_c7 HR4.out; have y7 := s_z HR4.out 7 (by omega))
    | fail)
  go_end0
  have T5 : Tch g W3 ((((w4.setCell ⟨g, 0, none⟩ (.string (rootA x.root (dhF d x.theirs)))).setCell ⟨g, 3, none⟩ (.string (rootC x.root (dhF d x.theirs)))).setCell ⟨g, 7, none⟩ (.int .i64 (x.ns : Int))).setCell ⟨g, 5, none⟩ (.int .i64 0)) := ((((tch_of b4 g).setCell 0 _).setCell 3 _).setCell 7 _).setCell 5 _
  have R5 := s_set5 (s_set7 (s_set3 (s_set0 HR4.out (rootA x.root (dhF d x.theirs))) (rootC x.root (dhF d x.theirs))) (x.ns : Int)) 0
  refine ⟨rfl, .slice aV mV cV, ⟨R5.trans (turnS_row x d l _ _ _).symm, ?_, ?_, ?_⟩, HOF1.out, T3.trans T5⟩
  · rw [turnS_saved]; exact HVK0.out.tch (T3.trans T5) HO.out.k
  · rw [turnS_past]; exact HVP0.out.tch (T3.trans T5) HO.out.p
  · rw [turnS_draws]; exact HVD3.out.tch T5 (HOF1.out g hgl)
end Go.Proofs.YteghoooelgcpkaaGreatDoor
