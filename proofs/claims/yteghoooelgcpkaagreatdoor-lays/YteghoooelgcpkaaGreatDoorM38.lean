import Derived.Deep.CutRange
import Derived.Test.YteghoooelgcpkaaGreatDoorM35
import Derived.Test.YteghoooelgcpkaaGreatDoorM37
namespace Go.Proofs.YteghoooelgcpkaaGreatDoor
open Go.RowKit Go.Msg
section
variable {w0 w : World} {gw : Nat} {pv : Value} {ρ : Nat → Nat} {n : Nat}
theorem ownerL_f (hs : LWs w0 gw pv n ρ w) (hn : n ≤ 3000000) (K A B C : Int) (hA1 : -9223372036854775808 ≤ A) (hA2 : A ≤ 9223372036854775807) (hB1 : -9223372036854775808 ≤ B) (hB2 : B ≤ 9223372036854775807) (S T : ByteArray) (hS : S.size ≤ 9223372036854775807) :
    Calls Tryz.prog 38 #[.pointer (some ⟨gw, 0, none⟩), .agg #[.int .i64 K, .int .i64 A, .int .i64 B, .int .i64 C, .string S, .string T]] w fun e w' => ∃ q, e = .returned (.bool q) ∧ Nxt w0 gw pv (n + 1) ρ w w' := by
  by_cases h4 : K = 4
  · subst h4; exact (owner4 hs A B C S T).mono (fun e w' q => ⟨_, q.1, q.2.mono (Nat.le_succ _)⟩)
  · by_cases h9 : K = 9
    · subst h9; exact (owner9 hs hn A B C hA1 hA2 hB1 hB2 S T).mono (fun e w' q => ⟨_, q.1, q.2⟩)
    · by_cases h10 : K = 10
      · subst h10; exact (owner10 hs hn A B C hA1 hA2 hB1 hB2 S T).mono (fun e w' q => ⟨_, q.1, q.2⟩)
      · by_cases h13 : K = 13
        · subst h13; exact (owner13 hs A B C hA1 hA2 S T).mono (fun e w' q => ⟨_, q.1, q.2.mono (Nat.le_succ _)⟩)
        · by_cases h14 : K = 14
          · subst h14; exact (owner14 hs A B C S T hS).mono (fun e w' q => ⟨_, q.1, q.2.mono (Nat.le_succ _)⟩)
          · exact (ownerN hs K A B C S T ⟨h4, h9, h10, h13, h14⟩).mono (fun e w' q => ⟨_, q.1, q.2.mono (Nat.le_succ _)⟩)
def pickN (c : Int) (n : Nat) : Nat := ((if c < 0 then -(c + 1) else c) % (n : Int)).toNat
theorem pickN_lt (c : Int) {n : Nat} (hn : 0 < n) : pickN c n < n := by
  have e2 := Int.emod_nonneg (if c < 0 then -(c + 1) else c) (show (n : Int) ≠ 0 by omega)
  have e3 := Int.emod_lt_of_pos (if c < 0 then -(c + 1) else c) (show (0 : Int) < n by omega)
  unfold pickN
  omega
theorem pick_f (c : Int) (n : Nat) (hn : 0 < n) (h1 : -9223372036854775808 ≤ c) (h2 : c ≤ 9223372036854775807) (hn2 : n ≤ 9223372036854775807) (w : World) :
    Calls Tryz.prog 43 #[.int .i64 c, .int .i64 (n : Int)] w fun e w' => e = .returned (.int .i64 ((pickN c n : Nat) : Int)) ∧ w' = w := by
  have c0 : (n : Int) ≠ 0 := by omega
  have HV : Hid (((pickN c n : Nat) : Int) = (if c < 0 then -(c + 1) else c) % (n : Int)) := Hid.mk (by
    unfold pickN
    exact Int.toNat_of_nonneg (Int.emod_nonneg _ c0))
  by_cases hc : c < 0
  · have HCC := Hid.mk hc
    go_enter Tryz.func43, Tryz.ntmps43
    go_wp2_with fail
    go_ret
    have e1 : -(c + 1).tmod n = (-(c + 1)) % n := by rw [← Int.neg_tmod, Int.tmod_eq_emod_of_nonneg (by omega)]
    refine ⟨?_, rfl⟩
    rw [HV.out, if_pos HCC.out, ← e1]; rfl
  · have HCC := Hid.mk hc
    go_enter Tryz.func43, Tryz.ntmps43
    go_wp2_with fail
    go_ret
    refine ⟨?_, rfl⟩
    rw [HV.out, if_neg (by have := HCC.out; omega)]; rfl
theorem kept_size {x : Sd} (h : x.Wf) : (keptB x).size ≤ 9223372036854775807 := by
  have h1 := h.root
  have h2 := h.self
  have h3 := optB_size h.theirs
  have h4 := optB_size h.send
  have h5 := optB_size h.read
  have h6 := kpsB_size x.saved h.savedW
  have h7 := strsB_size x.past h.pastW
  have h8 := strsB_size x.draws h.drawsW
  have h9 := h.saved
  have hA := h.past
  have hB := h.draws
  have h0 : sRS.size = 2 := rfl
  unfold keptB
  simp only [ByteArray.size_append, be_size, b1_size]
  omega
set_option maxRecDepth 4000 in
set_option maxHeartbeats 8000000 in
theorem stepL_f (hs : LWs w0 gw pv n ρ w) (hn : n ≤ 2900000) (K A B C : Int) (hA1 : -9223372036854775808 ≤ A) (hA2 : A ≤ 9223372036854775807) (hB1 : -9223372036854775808 ≤ B) (hB2 : B ≤ 9223372036854775807) (S T : ByteArray) (hS : S.size ≤ 9223372036854775807) :
    Calls Tryz.prog 23 #[.pointer (some ⟨gw, 0, none⟩), .agg #[.int .i64 K, .int .i64 A, .int .i64 B, .int .i64 C, .string S, .string T]] w fun e w' => e = .returned (.bool true) ∧ ∃ ρ', LWs w0 gw pv (n + 2) ρ' w' := by
  obtain ⟨W0, hW0, B0, r0, s0⟩ := op_box w K A B C S T
  have HL0 := Hid.mk (hs.below B0)
  have R0 := Hid.mk r0
  obtain ⟨u0, u1, u2, u3, u4, u5⟩ := op_cells r0
  have HZ : Hid (ρ w.heap.size = 0) := Hid.mk (by obtain ⟨_, _, _, _, _, _, h, _⟩ := hs; exact h.rf _ (Nat.le_refl _))
  have HM := Hid.mk (ownerL_f HL0.out (by omega) K A B C hA1 hA2 hB1 hB2 S T hS)
  clear hs r0 s0
  go_enter Tryz.func23, Tryz.ntmps23
  go_upto_region 1 with fail
  rw [← hW0]
  clear hW0
  go_upto_region 2 with (first | (go_at_call 38; with_reducible refine HM.out.mono ?_; rintro e W1 ⟨q, rfl, hN⟩; have HN := Hid.mk hN; clear hN u0 u1 u2 u3 u4 u5) | fail)
  generalize hg6 : w.heap.size = g6 at *
  obtain ⟨t1, ρ1, hl1⟩ := HN.out
  have R1 := Hid.mk ((t1.row (by rw [R0.out]; exact Nat.succ_pos 5) (by rw [HZ.out]; simp)).trans R0.out)
  have HL1 := Hid.mk hl1
  clear t1 hl1 HN HM R0 HL0 HZ
  cases q with
  | true =>
    go_wp2
    go_ret
    exact ⟨rfl, ρ1, HL1.out.mono (Nat.le_succ _)⟩
  | false =>
    obtain ⟨u0, u1, u2, u3, u4, u5⟩ := op_cells R1.out
    clear u0 u1 u2 u5
    go_upto_region 6 with (first
      | (go_at_call 39; (have M := full_any S C W1; with_reducible refine M.mono ?_; clear M); rintro e W2 ⟨s, rfl, hb2⟩; (have HL2 := Hid.mk (HL1.out.below hb2)); (have R2 := Hid.mk (op_below R1.out hb2)); obtain ⟨v0, v1, v2, v3, v4, v5⟩ := op_cells R2.out; clear hb2 v0 v1 v2 v4 u3 u4)
      | (go_at_call 39; (have M := full_any T C W2; with_reducible refine M.mono ?_; clear M); rintro e W3 ⟨t, rfl, hb3⟩; (have HL3 := Hid.mk (HL2.out.below hb3)); (have R3 := Hid.mk (op_below R2.out hb3)); clear hb3 v3 v5)
      | fail)
    obtain ⟨x0, x1, x2, x3, x4, x5⟩ := op_cells R3.out
    clear HL1 HL2 R1 R2 x3
    obtain ⟨vp, vm, L, M, a, b, h, h1, h2⟩ := HL3.out
    have HH := Hid.mk h
    have l1 := h.c1
    have l4 := h.c4
    clear h
    by_cases K1 : K = 1
    · subst K1
      go_wp2_with (first | (go_at_call 40; have M := startedL_f HL3.out (by omega) s t; with_reducible refine M.mono ?_; clear M; rintro e W4 ⟨rfl, hN⟩) | fail)
      go_ret
      exact ⟨rfl, hN.2⟩
    by_cases K2 : K = 2
    · subst K2
      go_wp2_with (first | (go_at_call 41; have M := waited_f HL3.out (by omega) s t; with_reducible refine M.mono ?_; clear M; rintro e W4 ⟨rfl, hN⟩) | fail)
      go_ret
      exact ⟨rfl, hN.2⟩
    by_cases K3 : K = 3
    · subst K3
      go_wp2_with (first | (go_at_call 42; have M := published_f HL3.out s; with_reducible refine M.mono ?_; clear M; rintro e W4 ⟨rfl, hN⟩) | fail)
      go_ret
      exact ⟨rfl, (hN.mono (Nat.le_succ _)).2⟩
    by_cases K12 : K = 12
    · subst K12
      go_wp2_with (first | (go_at_call 18; have M := wokenL_f HL3.out (by omega) b; with_reducible refine M.mono ?_; clear M; rintro e W4 ⟨rfl, hN⟩) | fail)
      go_ret
      exact ⟨rfl, hN.2⟩
    have b1 : (K == 1) = false := by simpa using K1
    have b2 : (K == 2) = false := by simpa using K2
    have b3 : (K == 3) = false := by simpa using K3
    have b12 : (K == 12) = false := by simpa using K12
    obtain ⟨ao, cap, gV, rfl, hao, hcell⟩ := HH.out.ptr
    have HC := Hid.mk hcell
    have HA := Hid.mk hao
    clear hcell hao
    generalize hL : L.length = nL at *
    by_cases h0 : nL = 0
    · subst h0
      go_wp2_with fail
      go_ret
      exact ⟨rfl, ρ1, HL3.out.mono (Nat.le_succ _)⟩
    have hpos : 0 < nL := by omega
    have c0 : ((nL : Int) == 0) = false := by simp; omega
    have c1 : ¬ (nL : Int) = 0 := by omega
    have e1 := HA.out hpos
    subst e1
    go_upto_region 17 with fail
    obtain ⟨i, hidx⟩ : ∃ i, i = pickN A nL := ⟨_, rfl⟩
    have hil : i < nL := by rw [hidx]; exact pickN_lt A hpos
    have HPK : Hid (∀ W : World, Calls Tryz.prog 43 #[.int .i64 A, .int .i64 (nL : Int)] W fun e w' => e = .returned (.int .i64 (i : Int)) ∧ w' = W) := Hid.mk (fun W => by rw [hidx]; exact pick_f A nL hpos hA1 hA2 (by omega) W)
    obtain ⟨r, hr0⟩ : ∃ r, L[i]? = some r := ⟨L[i]'(by omega), List.getElem?_eq_getElem _⟩
    have hr := Hid.mk hr0
    have yy1 := HC.out i r hr0
    have yy3 : (i : Int) < nL := by omega
    clear hr0 hidx x0 x2 x4 x5 l4 b1 b2 b3 b12 c0 c1
    go_quiet (first | (go_at_call 43; exact (HPK.out _).mono fun _ _ h => ⟨h.1, _, h.2⟩))
    have hb : Hid (Below W3.heap.size W3 (W3.drewN nq)) := Hid.mk (below_drewN (Below.refl _ _) _)
    generalize W3.drewN nq = wc at *
    have HX := Hid.mk (HH.out.below hb.out)
    have RX := Hid.mk (op_below R3.out hb.out)
    have HLX : Hid (LWs w0 gw pv (n + 1) ρ1 wc) := Hid.mk (HL3.out.below hb.out)
    obtain ⟨y0, y1, y2, y3, y4, y5⟩ := op_cells RX.out
    have lx2 := HX.out.c2
    clear x1 l1 y3 y1 HC HA yy1 yy3 HPK
    have hxL : L.length ≤ n + 1 := by omega
    by_cases K5 : K = 5
    · subst K5
      go_wp2_with (first | (go_at_call 44; have M := laidL_f HX.out hxL h2 hr.out s; with_reducible refine M.mono ?_; clear M; rintro e W4 ⟨rfl, hN⟩) | fail)
      go_ret
      exact ⟨rfl, (hN.mono (Nat.le_succ _)).2⟩
    by_cases K6 : K = 6
    · subst K6
      go_wp2_with (first | (go_at_call 21; have M := sentL_f HX.out hxL h2 (by omega) hr.out S T; with_reducible refine M.mono ?_; clear M; rintro e W4 ⟨rfl, hN⟩) | fail)
      go_ret
      exact ⟨rfl, hN.2⟩
    by_cases K8 : K = 8
    · subst K8
      go_wp2_with (first | (go_at_call 19; have M := readL_f HX.out hxL h2 hr.out S T hS; with_reducible refine M.mono ?_; clear M; rintro e W4 ⟨rfl, hN⟩) | fail)
      go_ret
      exact ⟨rfl, (hN.mono (Nat.le_succ _)).2⟩
    by_cases K11 : K = 11
    · subst K11
      have HP := Hid.mk (HX.out.at hr.out).1
      have k0 := pair_c0 HP.out.row
      go_wp2_with (first | (go_at_call 32; have M := export_f r.x HP.out.wf r.gs r.vK r.vQ r.vE wc HP.out.ses; with_reducible refine M.mono ?_; clear M; rintro e W4 ⟨rfl, b4⟩; have HX4 := Hid.mk (HX.out.below b4); have k4 := HX4.out.c4; have z4 := HX4.out.z 4 (by omega)) | fail)
      go_ret
      obtain ⟨g1, g2⟩ := HX4.out.state (keptB r.x) (kept_size HP.out.wf)
      exact ⟨rfl, ρ1, _, _, _, _, _, _, g1, by omega, by omega⟩
    by_cases K7 : K = 7
    · subst K7
      obtain ⟨am, capm, gM, rfl, ham, hcm⟩ := HX.out.msg
      have HCM := Hid.mk hcm
      have HAM := Hid.mk ham
      have HMS := Hid.mk HX.out.ms
      clear hcm ham
      generalize hM : M.length = nM at *
      by_cases h0 : nM = 0
      · subst h0
        go_wp2_with fail
        go_ret
        exact ⟨rfl, ρ1, HLX.out.mono (Nat.le_succ _)⟩
      have hposm : 0 < nM := by omega
      have d0 : (nM : Int) > 0 := by omega
      have e2 := HAM.out hposm
      subst e2
      go_upto_region 26 with fail
      obtain ⟨q, hqx⟩ : ∃ q, q = pickN B nM := ⟨_, rfl⟩
      have hql : q < nM := by rw [hqx]; exact pickN_lt B hposm
      have HPK : Hid (∀ W : World, Calls Tryz.prog 43 #[.int .i64 B, .int .i64 (nM : Int)] W fun e w' => e = .returned (.int .i64 (q : Int)) ∧ w' = W) := Hid.mk (fun W => by rw [hqx]; exact pick_f B nM hposm hB1 hB2 (by omega) W)
      obtain ⟨mt, hmt⟩ : ∃ m, M[q]? = some m := ⟨M[q]'(by omega), List.getElem?_eq_getElem _⟩
      have HMT := Hid.mk hmt
      clear hqx hmt
      go_quiet (first | (go_at_call 43; exact (HPK.out _).mono fun _ _ h => ⟨h.1, _, h.2⟩))
      have hb5 : Hid (Below wc.heap.size wc (wc.drewN nq)) := Hid.mk (below_drewN (Below.refl _ _) _)
      generalize wc.drewN nq = wd at *
      have HXD := Hid.mk (HX.out.below hb5.out)
      have zz1 : wd.cell? ⟨gM, q, none⟩ = some (.string mt) := by have c := HCM.out q mt HMT.out; rw [hb5.out.cell (World.block_lt_of_cell? _ _ c)]; exact c
      have zz3 : (q : Int) < nM := by omega
      have lx3 := HXD.out.c2
      obtain ⟨y0', y1', y2', y3', y4', y5'⟩ := op_cells (op_below RX.out hb5.out)
      have HRDQ : Hid (∀ W : World, Below wd.heap.size wd W → Calls Tryz.prog 19 #[.pointer (some ⟨gw, 0, none⟩), .pointer (some ⟨r.gp, 0, none⟩), .string mt, .string T] W fun e w' => e = .returned (.bool true) ∧ Nxt w0 gw pv (n + 1) ρ1 W w') := Hid.mk (fun W bW => readL_f (HXD.out.below bW) hxL (by omega) hr.out mt T (by have := HMS.out mt (List.mem_of_getElem? HMT.out); omega))
      clear y0 y2 y4 y5 lx2 y0' y1' y2' y3' y4' HPK HCM HAM
      go_upto_region 27 with fail
      go_region_with (go_at_call 19; with_reducible refine (HRDQ.out _ (by exact (Below.refl _ _).drew)).mono ?_; rintro e W5 ⟨rfl, hN⟩)
      all_goals go_wp2_with fail
      all_goals go_ret
      all_goals exact ⟨rfl, (hN.mono (Nat.le_succ _)).2⟩
    have d5 : (K == 5) = false := by simpa using K5
    have d6 : (K == 6) = false := by simpa using K6
    have d7 : (K == 7) = false := by simpa using K7
    have d8 : (K == 8) = false := by simpa using K8
    have d11 : (K == 11) = false := by simpa using K11
    go_wp2_with fail
    go_ret
    exact ⟨rfl, ρ1, HLX.out.mono (Nat.le_succ _)⟩
end
end Go.Proofs.YteghoooelgcpkaaGreatDoor
namespace Go.Proofs.YteghoooelgcpkaaGreatDoor
open Go.RowKit Go.Msg
structure Ops where
  K : Nat → Int
  A : Nat → Int
  B : Nat → Int
  C : Nat → Int
  S : Nat → ByteArray
  T : Nat → ByteArray
def OpAt (w : World) (b off : Nat) (o : Ops) (i : Nat) : Prop :=
  w.cell? ⟨b, off + i * 6, none⟩ = some (.int .i64 (o.K i)) ∧ w.cell? ⟨b, off + i * 6 + 1, none⟩ = some (.int .i64 (o.A i)) ∧ w.cell? ⟨b, off + i * 6 + 2, none⟩ = some (.int .i64 (o.B i)) ∧
  w.cell? ⟨b, off + i * 6 + 3, none⟩ = some (.int .i64 (o.C i)) ∧ w.cell? ⟨b, off + i * 6 + 4, none⟩ = some (.string (o.S i)) ∧ w.cell? ⟨b, off + i * 6 + 5, none⟩ = some (.string (o.T i))
theorem OpAt.lt {w : World} {b off : Nat} {o : Ops} {i : Nat} (h : OpAt w b off o i) : b < w.heap.size := World.block_lt_of_cell? w _ h.1
theorem OpAt.below {w w' : World} {b off : Nat} {o : Ops} {i B : Nat} (h : OpAt w b off o i) (hb : Below B w w') (hB : w.heap.size ≤ B) : OpAt w' b off o i := by
  have hl := Nat.lt_of_lt_of_le h.lt hB
  obtain ⟨h0, h1, h2, h3, h4, h5⟩ := h
  exact ⟨by rw [hb.cell hl]; exact h0, by rw [hb.cell hl]; exact h1, by rw [hb.cell hl]; exact h2, by rw [hb.cell hl]; exact h3, by rw [hb.cell hl]; exact h4, by rw [hb.cell hl]; exact h5⟩
structure OpsOk (o : Ops) (n : Nat) : Prop where
  a : ∀ i, i < n → -9223372036854775808 ≤ o.A i ∧ o.A i ≤ 9223372036854775807
  b : ∀ i, i < n → -9223372036854775808 ≤ o.B i ∧ o.B i ≤ 9223372036854775807
  s : ∀ i, i < n → (o.S i).size ≤ 9223372036854775807
theorem LW.init {w : World} {pv : Value} (hp : PrimAt w pv) (ht : Tbl w) : ∃ ρ, LWs w w.heap.size pv 0 ρ (w.alloc (.cells #[pv, .slice none 0 0, .slice none 0 0, .string ⟨#[]⟩, .string ⟨#[]⟩] 34)) := by
  refine ⟨fun g => if g = w.heap.size then 1 else 0, .slice none 0 0, .slice none 0 0, [], [], ⟨#[]⟩, ⟨#[]⟩, ⟨rowOf_new2 _ _ _ _ rfl, by_alloc _ _, hp, ht, fun g hg => if_neg (by omega), fun g hg => if_neg (by simp at hg; omega), if_pos rfl, World.ownsRow_nil _ _ _ _, fun g q => (by cases q), World.ownsRow_nil _ _ _ _, fun g q => (by cases q), fun i r hi => (by simp at hi), fun m hm => (by cases hm), by decide⟩, Nat.le_refl _, Nat.le_refl _⟩
set_option maxRecDepth 20000 in
set_option maxHeartbeats 4000000 in
theorem upto_f (at0 : Option Addr) (b off n cap : Nat) (o : Ops) (w : World) (hat : 0 < n → at0 = some ⟨b, off, none⟩) (hn : n ≤ 9223372036854775807) (hO : ∀ i, i < n → OpAt w b off o i) (hok : OpsOk o n) (hT : Tbl w) :
    Calls Tryz.prog 15 #[.slice at0 n cap] w fun e w' => e = .returned (.int .i64 (-1)) ∧ Below w.heap.size w w' := by
  have HAt := Hid.mk hat
  have HO := Hid.mk hO
  have HK := Hid.mk hok
  have HT := Hid.mk hT
  clear hat hO hok hT
  go_enter Tryz.func15, Tryz.ntmps15
  go_wp2_with (first | (go_at_call 17; refine (constants_any _).mono ?_; rintro e W1 ⟨v, rfl, hP, hb1⟩; obtain ⟨gp, rfl⟩ : ∃ gp, v = .pointer (some ⟨gp, 0, none⟩) := (let ⟨g', _, _, h1, _⟩ := hP; ⟨g', h1⟩); (have HP := Hid.mk hP); clear hP) | fail)
  have L0 := Hid.mk (LW.init HP.out (HT.out.below hb1))
  have Bs := hb1.size
  generalize W1.alloc (.cells #[.pointer (some ⟨gp, 0, none⟩), .slice none 0 0, .slice none 0 0, .string ⟨#[]⟩, .string ⟨#[]⟩] 34) = Wa at *
  generalize hg : W1.heap.size = g at *
  go_loopw [5] (fun i wq => ∃ (k : Nat), i = .int .i64 k ∧ k ≤ n ∧ k ≤ 1048576 ∧ Hid (∃ ρ, LWs W1 g (.pointer (some ⟨gp, 0, none⟩)) (2 * k) ρ wq)) (fun i _ => n - (intOf i).toNat)
  case atStart => exact ⟨0, rfl, by omega, by omega, L0⟩
  case round =>
    clear L0
    obtain ⟨k, rfl, hk, hk2, HL⟩ := hrel
    obtain ⟨ρ, hl⟩ := HL.out
    have HLS := Hid.mk hl
    have HBL : Hid (Below W1.heap.size W1 wr) := Hid.mk (by obtain ⟨_, _, _, _, _, _, h, _⟩ := hl; exact h.bl)
    clear hl HL
    by_cases hlt : k < n ∧ k < 1048576
    · obtain ⟨hlt, hlt2⟩ := hlt
      have c1 : (k : Int) < n := by omega
      have c2 : (k : Int) < 1048576 := by omega
      obtain rfl := HAt.out (by omega)
      have HOW := Hid.mk (((HO.out k hlt).below hb1 (Nat.le_refl _)).below HBL.out (Nat.le_refl _))
      obtain ⟨o0, o1, o2, o3, o4, o5⟩ := HOW.out
      have HST := Hid.mk (stepL_f HLS.out (by omega) (o.K k) (o.A k) (o.B k) (o.C k) (HK.out.a k hlt).1 (HK.out.a k hlt).2 (HK.out.b k hlt).1 (HK.out.b k hlt).2 (o.S k) (o.T k) (HK.out.s k hlt))
      go_upto_region 7 with (first | (go_at_call 23; with_reducible refine HST.out.mono ?_; rintro e W2 ⟨rfl, hN⟩; have HN := Hid.mk hN; clear hN) | fail)
      obtain ⟨ρ2, hl2⟩ := HN.out
      have HL2 := Hid.mk hl2
      have HBL2 : Hid (Below W1.heap.size W1 W2) := Hid.mk (by obtain ⟨_, _, _, _, _, _, h, _⟩ := hl2; exact h.bl)
      have HOW2 := Hid.mk (((HO.out k hlt).below hb1 (Nat.le_refl _)).below HBL2.out (Nat.le_refl _))
      clear o0 o1 o2 o3 o4 o5 hl2
      obtain ⟨o0, o1, o2, o3, o4, o5⟩ := HOW2.out
      clear o0 o1 o2 o4 o5
      go_upto_region 9 with fail
      go_cut [36] from 11 to 41 (fun v wx => (∃ x, v = .bool x) ∧ wx = W2)
      case first =>
        go_wp2_with fail
        go_meet
        exact ⟨⟨_, rfl⟩, rfl⟩
      case rest =>
      obtain ⟨⟨x, rfl⟩, rfl⟩ := hcut
      cases x
      all_goals go_wp2_with (first | (go_at_call 24; have M := looks_f HL2.out (by omega); with_reducible refine M.mono ?_; clear M; rintro e W3 ⟨rfl, b3⟩; have HL3 := Hid.mk (HL2.out.below b3)) | fail)
      all_goals go_roundw
      all_goals first
        | (simp [intOf]; omega)
        | exact ⟨k + 1, by go_num, by omega, by omega, Hid.mk ⟨ρ2, HL3.out⟩⟩
        | exact ⟨k + 1, by go_num, by omega, by omega, Hid.mk ⟨ρ2, HL2.out⟩⟩
    · by_cases hlt1 : k < n
      · have c1 : (k : Int) < n := by omega
        have c2 : ¬ (k : Int) < 1048576 := by omega
        go_wp2_with fail
        go_ret
        exact ⟨rfl, below_lift hb1 hb1.size HBL.out⟩
      · have c1 : ¬ (k : Int) < n := by omega
        go_wp2_with fail
        go_ret
        exact ⟨rfl, below_lift hb1 hb1.size HBL.out⟩
end Go.Proofs.YteghoooelgcpkaaGreatDoor
