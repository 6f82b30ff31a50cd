import Derived.Deep.CutRange
import Derived.Deep.QuietTactic
import Derived.BigQuiet
import Derived.Test.YteghoooelgcpkaaGreatDoorM11
import Derived.Test.YteghoooelgcpkaaGreatDoorM15
namespace Go.Proofs.YteghoooelgcpkaaGreatDoor
open Go.RowKit Go.Msg
theorem spick_any (c : Int) (n : Nat) (hn : 0 < n) (h1 : -9223372036854775808 ≤ c) (h2 : c ≤ 9223372036854775807) (hn2 : n ≤ 9223372036854775807) (w : World) :
    Calls Tryz.prog 111 #[.int .i64 c, .int .i64 (n : Int)] w fun e w' => ∃ k : Nat, e = .returned (.int .i64 (k : Int)) ∧ k < n ∧ w' = w := by
  have c0 : (n : Int) ≠ 0 := by omega
  by_cases hc : c < 0
  · go_enter Tryz.func111, Tryz.ntmps111
    go_wp2_with fail
    go_ret
    have e1 : -(c + 1).tmod n = (-(c + 1)) % n := by rw [← Int.neg_tmod, Int.tmod_eq_emod_of_nonneg (by omega)]
    have e2 := Int.emod_nonneg (-(c + 1)) c0
    have e3 := Int.emod_lt_of_pos (-(c + 1)) (show (0 : Int) < n by omega)
    refine ⟨((-(c + 1)) % n).toNat, ?_, by omega, rfl⟩
    rw [Int.toNat_of_nonneg e2, ← e1]; rfl
  · go_enter Tryz.func111, Tryz.ntmps111
    go_wp2_with fail
    go_ret
    have e2 := Int.emod_nonneg c c0
    have e3 := Int.emod_lt_of_pos c (show (0 : Int) < n by omega)
    refine ⟨(c % n).toNat, ?_, by omega, rfl⟩
    rw [Int.toNat_of_nonneg e2]; rfl
set_option maxRecDepth 20000 in
set_option maxHeartbeats 2000000 in
theorem drawn_any (a b : Int) (w : World) :
    Calls Tryz.prog 143 #[.int .i64 a, .int .i64 b] w fun e w' => ∃ s, e = .returned (.string s) ∧ s.size = 32 ∧ Below w.heap.size w w' := by
  have qA := cvA
  go_enter Tryz.func143, Tryz.ntmps143
  go_wp2_with fail
  go_loopw [5, 6, 7] (fun x s i wq => ∃ (k : Nat) (n : Int) (t : ByteArray), i = .int .i64 k ∧ x = .int .i64 n ∧ s = .string t ∧ t.size = k ∧ k ≤ 32 ∧ Below w.heap.size w wq) (fun _ _ i _ => 32 - (intOf i).toNat)
  case atStart => exact ⟨0, _, ⟨#[]⟩, rfl, rfl, rfl, rfl, by omega, Below.refl _ _⟩
  case round =>
    obtain ⟨k, n, t, rfl, rfl, rfl, ht, hk, hb⟩ := hrel
    by_cases hlt : k < 32
    · have c1 : (k : Int) < 32 := by omega
      go_wp2_with fail
      go_roundw
      case rel => exact ⟨k + 1, _, _, by go_num, rfl, rfl, by rw [ByteArray.size_append, ht]; rfl, by omega, below_lift hb hb.size (by_alloc _ _)⟩
      case measure => simp [intOf]; omega
    · have c1 : ¬ (k : Int) < 32 := by omega
      go_wp2_with fail
      go_ret
      exact ⟨t, rfl, by omega, hb⟩
end Go.Proofs.YteghoooelgcpkaaGreatDoor
namespace Go.Proofs.YteghoooelgcpkaaGreatDoor
open Go.RowKit Go.Msg
def heardS (x : Sd) (m data : ByteArray) : Sd × ByteArray × Int := if data.size ≤ 100 then hearS x m data else (x, ⟨#[]⟩, 2)
theorem heardS_wf {x : Sd} (h : x.Wf) (m data : ByteArray) : (heardS x m data).1.Wf := by
  unfold heardS
  split
  · exact hearS_wf h m data
  · exact h
theorem heardS_out {x : Sd} (m data : ByteArray) : ((heardS x m data).2.2 ≠ 0 ∧ (heardS x m data).1 = x ∧ (heardS x m data).2.1 = ⟨#[]⟩) ∨ ((heardS x m data).2.2 = 0 ∧ (heardS x m data).1 ≠ x) := by
  unfold heardS
  split
  · exact hearS_out m data
  · exact Or.inl ⟨(by decide : (2 : Int) ≠ 0), rfl, rfl⟩
def AskP (g : Nat) (w : World) (vK vP vD : Value) (y : Sd) (w' : World) : Prop := Tch g w w' ∧ ∃ vK' vP' vD', SesAt w' g y vK' vP' vD' ∧ ∀ k, k < w.heap.size → Offs k vK vP vD → Offs k vK' vP' vD'
theorem AskP.of_below {g : Nat} {w w' : World} {vK vP vD : Value} {x : Sd} (hs : SesAt w g x vK vP vD) (b : Below w.heap.size w w') : AskP g w vK vP vD x w' := ⟨tch_of b _, vK, vP, vD, hs.below b, fun _ _ q => q⟩
theorem AskP.post {g : Nat} {w w1 w' : World} {vK vP vD : Value} {y : Sd} (h : AskP g w vK vP vD y w1) (b : Below w1.heap.size w1 w') : AskP g w vK vP vD y w' := by
  obtain ⟨t, vK', vP', vD', hs, ho⟩ := h
  exact ⟨t.trans (tch_of b _), vK', vP', vD', hs.below b, ho⟩
theorem AskP.pre {g : Nat} {w w1 w' : World} {vK vP vD : Value} {y : Sd} (h : AskP g w1 vK vP vD y w') (b : Below w.heap.size w w1) : AskP g w vK vP vD y w' := by
  obtain ⟨t, vK', vP', vD', hs, ho⟩ := h
  exact ⟨(tch_of b _).trans t, vK', vP', vD', hs, fun k hk q => ho k (Nat.lt_of_lt_of_le hk b.size) q⟩
theorem readA_f (x : Sd) (hx : x.Wf) (gs : Nat) (vK vP vD : Value) (m data : ByteArray) (w : World) (hs : SesAt w gs x vK vP vD) (ho : Offs gs vK vP vD) (hT : Tbl w) :
    Calls Tryz.prog 30 #[.pointer (some ⟨gs, 0, none⟩), .string m, .string data] w fun e w' => e = .returned (.tuple #[.string (heardS x m data).2.1, .int .i64 (heardS x m data).2.2]) ∧ AskP gs w vK vP vD (heardS x m data).1 w' := by
  unfold heardS
  by_cases hd : data.size ≤ 100
  · rw [if_pos hd]
    refine (read_f x hx gs vK vP vD m data hd w hs ho hT).mono (fun e w' q => ⟨q.1, ?_⟩)
    rcases q.2 with ⟨q1, q2⟩ | ⟨_, q2, q3⟩
    · have e1 : (hearS x m data).1 = x := by
        rcases hearS_out (x := x) m data with h | h
        · exact h.2.1
        · exact absurd h.1 q1
      rw [e1]; exact AskP.of_below hs q2
    · exact ⟨q2, q3⟩
  · rw [if_neg hd]
    exact (read_long gs m data (by omega) w).mono (fun e w' q => ⟨q.1, AskP.of_below hs q.2⟩)
set_option maxHeartbeats 2000000 in
theorem asked_f (x : Sd) (hx : x.Wf) (g : Nat) (vK vP vD : Value) (m data : ByteArray) (w : World) (hs : SesAt w g x vK vP vD) (ho : Offs g vK vP vD) (hT : Tbl w) :
    Calls Tryz.prog 147 #[.pointer (some ⟨g, 0, none⟩), .string m, .string data] w fun e w' => e = .returned (.tuple #[.string (heardS x m data).2.1, .int .i64 (heardS x m data).2.2, .bool true]) ∧ AskP g w vK vP vD (heardS x m data).1 w' := by
  have HX := Hid.mk (export_f x hx g vK vP vD w hs)
  have HR : Hid (∀ w1, Below w.heap.size w w1 → Calls Tryz.prog 30 #[.pointer (some ⟨g, 0, none⟩), .string m, .string data] w1 fun e w' => e = .returned (.tuple #[.string (heardS x m data).2.1, .int .i64 (heardS x m data).2.2]) ∧ Hid (AskP g w vK vP vD (heardS x m data).1 w')) := Hid.mk (fun w1 b1 =>
    (readA_f x hx g vK vP vD m data w1 (hs.below b1) ho (hT.below b1)).mono (fun e w' q => ⟨q.1, Hid.mk (q.2.pre b1)⟩))
  have HY := Hid.mk (heardS_wf hx m data)
  have HO := Hid.mk (heardS_out (x := x) m data)
  have HI : Hid (keptB (heardS x m data).1 = keptB x → (heardS x m data).1 = x) := Hid.mk (fun q => keptB_inj (heardS_wf hx m data) hx q)
  clear hs ho hT
  generalize heardS x m data = R at *
  obtain ⟨y, t, c⟩ := R
  have HE : Hid (∀ w2, AskP g w vK vP vD y w2 → Calls Tryz.prog 32 #[.pointer (some ⟨g, 0, none⟩)] w2 fun e w' => e = .returned (.string (keptB y)) ∧ Below w2.heap.size w2 w') := Hid.mk (fun w2 q => by
    obtain ⟨_, vK', vP', vD', hs, _⟩ := q
    exact export_f y HY.out g vK' vP' vD' w2 hs)
  simp only at HR HI HO
  rcases HO.out with ⟨q1, q2, q3⟩ | ⟨q1, q2⟩
  · subst q2 q3
    have c1 : ¬ c = 0 := q1
    generalize hK : keptB y = K at *
    go_enter Tryz.func147, Tryz.ntmps147
    go_wp2_with (first
      | (go_at_call 30; with_reducible refine (HR.out _ b1).mono ?_; rintro e w2 ⟨rfl, HA⟩)
      | (go_at_call 32; with_reducible refine HX.out.mono ?_; rintro e w1 ⟨rfl, b1⟩)
      | (go_at_call 32; with_reducible refine (HE.out _ HA.out).mono ?_; rintro e w3 ⟨rfl, b3⟩)
      | fail)
    go_ret3
    exact ⟨rfl, HA.out.post b3⟩
  · subst q1
    have hne : ¬ keptB y = keptB x := fun q => q2 (HI.out q)
    generalize hK : keptB y = K at *
    generalize hK2 : keptB x = K2 at *
    have hne1 : (K.toList == K2.toList) = false := beq_eq_false_iff_ne.2 (fun q => hne (toList_inj.1 q))
    go_enter Tryz.func147, Tryz.ntmps147
    go_wp2_with (first
      | (go_at_call 30; with_reducible refine (HR.out _ b1).mono ?_; rintro e w2 ⟨rfl, HA⟩)
      | (go_at_call 32; with_reducible refine HX.out.mono ?_; rintro e w1 ⟨rfl, b1⟩)
      | (go_at_call 32; with_reducible refine (HE.out _ HA.out).mono ?_; rintro e w3 ⟨rfl, b3⟩)
      | fail)
    go_ret3
    exact ⟨rfl, HA.out.post b3⟩
end Go.Proofs.YteghoooelgcpkaaGreatDoor
namespace Go.Proofs.YteghoooelgcpkaaGreatDoor
open Go.RowKit Go.Msg
structure DP (B gd : Nat) (w : World) (c0 c1 c2 vp : Value) (ps : List ByteArray) (tw : Bool) (c5 : Value) (ld sd : Int) : Prop where
  row : w.rowOf gd = #[c0, c1, c2, vp, .bool tw, c5, .int .i64 ld, .int .i64 sd]
  op : w.ownsRow B 9 1 vp ps.length (strCells ps)
  ne : ∀ g, vp.ownBlock = some g → g ≠ gd
theorem dp_c3 {w : World} {g : Nat} {c0 c1 c2 c3 c4 c5 c6 c7 : Value} (h : w.rowOf g = #[c0, c1, c2, c3, c4, c5, c6, c7]) : w.cell? ⟨g, 3, none⟩ = some c3 := rowcell h 3 _ rfl
theorem dp_c4 {w : World} {g : Nat} {c0 c1 c2 c3 c4 c5 c6 c7 : Value} (h : w.rowOf g = #[c0, c1, c2, c3, c4, c5, c6, c7]) : w.cell? ⟨g, 4, none⟩ = some c4 := rowcell h 4 _ rfl
theorem dp_z {w : World} {g : Nat} {c0 c1 c2 c3 c4 c5 c6 c7 : Value} (h : w.rowOf g = #[c0, c1, c2, c3, c4, c5, c6, c7]) (j : Nat) (hj : j < 8) : w.frozen? ⟨g, j, none⟩ = false := rowfz2 h j hj
theorem dp_lt {w : World} {g : Nat} {c0 c1 c2 c3 c4 c5 c6 c7 : Value} (h : w.rowOf g = #[c0, c1, c2, c3, c4, c5, c6, c7]) : g < w.heap.size := rowOf_lt (by rw [h]; exact Nat.succ_pos 7)
theorem own_strs {B : Nat} {w : World} {v : Value} {M : List ByteArray} (h0 : w.ownsRow B 9 1 v M.length (strCells M)) : ∃ ao cap g, v = .slice ao M.length cap ∧ (0 < M.length → ao = some ⟨g, 0, none⟩ ∧ v.ownBlock = some g) ∧ ∀ k t, M[k]? = some t → w.cell? ⟨g, k, none⟩ = some (.string t) := by
  rcases h0.2 with ⟨e, hn⟩ | ⟨g, cap, cur, e, hg, hh, rest⟩
  · have hL : M = [] := List.eq_nil_of_length_eq_zero hn
    subst hL
    exact ⟨none, 0, 0, e, fun q => absurd q (by simp), fun k r hk => by simp at hk⟩
  · subst e
    refine ⟨some ⟨g, 0, none⟩, cap, g, rfl, fun _ => ⟨rfl, rfl⟩, fun k r hk => ?_⟩
    have hlt := (List.getElem?_eq_some_iff.1 hk).1
    rw [h0.cellAt k (by omega)]
    simp [strCells, hk]
theorem row_setD {w : World} {g : Nat} {c : Array Value} (h : w.rowOf g = c) (hc : 0 < c.size) (i : Nat) (v : Value) {d : Array Value} (hd : c.setIfInBounds i v = d) : (w.setCell ⟨g, i, none⟩ v).rowOf g = d := by rw [← hd]; exact rowOf_setCell h hc i v
def amid (p : ByteArray) (ps : List ByteArray) (k : Nat) : Bool := (ps.take k).any (fun t => decide (t = p))
theorem amid_succ {p t : ByteArray} {ps : List ByteArray} {k : Nat} (h : ps[k]? = some t) : amid p ps (k + 1) = (amid p ps k || decide (t = p)) := by
  unfold amid
  rw [List.take_add_one, h]
  simp
theorem amid_zero (p : ByteArray) (ps : List ByteArray) : amid p ps 0 = false := rfl
theorem amid_all (p : ByteArray) (ps : List ByteArray) : amid p ps ps.length = ps.any (fun t => decide (t = p)) := by
  unfold amid
  rw [List.take_length]
set_option maxRecDepth 4000 in
set_option maxHeartbeats 4000000 in
theorem point_f {B gd : Nat} {w : World} {c0 c1 c2 vp : Value} {ps : List ByteArray} {tw : Bool} {c5 : Value} {ld sd : Int} (h : DP B gd w c0 c1 c2 vp ps tw c5 ld sd) (hB : B ≤ w.heap.size) (key : ByteArray) (hk : key.size = 32) (hn : ps.length ≤ 4000000) :
    Calls Tryz.prog 144 #[.pointer (some ⟨gd, 0, none⟩), .string key] w fun e w' => e = .returned (.string (pubF key)) ∧ ∃ vp', DP B gd w' c0 c1 c2 vp' (ps ++ [pubF key]) (tw || ps.any (fun t => decide (t = pubF key))) c5 ld sd ∧ TchS (fun g => g = gd ∨ vp.ownBlock = some g) w w' ∧ (vp'.ownBlock = vp.ownBlock ∨ ∃ b, vp'.ownBlock = some b ∧ w.heap.size ≤ b) := by
  have HPub := Hid.mk (spublic_f key hk w)
  obtain ⟨ao, cap, gP, rfl, hao, hcell⟩ := own_strs h.op
  have HA := Hid.mk hao
  have HC := Hid.mk hcell
  have H := Hid.mk h
  have HN := Hid.mk hn
  have HBB := Hid.mk hB
  have HW := Hid.mk (amid_all (pubF key) ps)
  have hlt := dp_lt h.row
  have hps : ps.length ≤ 4000000 := hn
  clear h hao hcell hk hn hB
  generalize pubF key = P at *
  generalize hnL : ps.length = n at *
  go_enter Tryz.func144, Tryz.ntmps144
  go_wp2_with (first | (go_at_call 77; with_reducible refine HPub.out.mono ?_; rintro e w1 ⟨rfl, b1⟩) | fail)
  have R1 : w1.rowOf gd = #[c0, c1, c2, .slice ao n cap, .bool tw, c5, .int .i64 ld, .int .i64 sd] := (below_row b1 (by rw [H.out.row]; exact Nat.succ_pos 7)).trans H.out.row
  have HR1 := Hid.mk R1
  clear R1
  go_loopw [7] (fun i wq => ∃ k : Nat, i = .int .i64 k ∧ k ≤ n ∧ Hid (wq.rowOf gd = #[c0, c1, c2, .slice ao n cap, .bool (tw || amid P ps k), c5, .int .i64 ld, .int .i64 sd] ∧ Tch gd w1 wq)) (fun i _ => n - (intOf i).toNat)
  case atStart => exact ⟨0, rfl, by omega, Hid.mk ⟨by rw [amid_zero, Bool.or_false]; exact HR1.out, tch_of (Below.refl _ _) _⟩⟩
  case round =>
    obtain ⟨k, rfl, hk, HQ⟩ := hrel
    have k3 := dp_c3 HQ.out.1
    have k4 := dp_c4 HQ.out.1
    have z4 := dp_z HQ.out.1 4 (by omega)
    have z3 := dp_z HQ.out.1 3 (by omega)
    have hltr := dp_lt HQ.out.1
    by_cases hlt2 : k < n
    · have cc : (k : Int) < n := by omega
      obtain ⟨t, ht⟩ : ∃ t, ps[k]? = some t := ⟨ps[k]'(by omega), List.getElem?_eq_getElem _⟩
      obtain ⟨rfl, hob⟩ := HA.out (by omega)
      have hne := H.out.ne gP hob
      have hc0 := HC.out k t ht
      have hc1 : w1.cell? ⟨gP, k, none⟩ = some (.string t) := by rw [b1.cell (World.block_lt_of_cell? w _ hc0)]; exact hc0
      have hc : wr.cell? ⟨gP, k, none⟩ = some (.string t) := by rw [HQ.out.2.cell (World.block_lt_of_cell? w1 _ hc1) hne]; exact hc1
      have HS := Hid.mk (amid_succ (p := P) ht)
      clear hc0 hc1 ht
      generalize amid P ps k = am at *
      have HTT : Hid (∀ u : Bool, (wr.setCell ⟨gd, 4, none⟩ (.bool u)).rowOf gd = #[c0, c1, c2, .slice (some ⟨gP, 0, none⟩) n cap, .bool u, c5, .int .i64 ld, .int .i64 sd] ∧ Tch gd w1 (wr.setCell ⟨gd, 4, none⟩ (.bool u))) := Hid.mk (fun u => ⟨row_setD HQ.out.1 (Nat.succ_pos 7) 4 _ rfl, HQ.out.2.trans (tch_own gd 4 wr _)⟩)
      cases hb : (tw || am)
      · rw [hb] at k4
        by_cases he : t = P
        · have he2 : (t.toList == P.toList) = true := by rw [he]; exact beq_self_eq_true _
          go_wp2_with fail
          go_roundw
          case rel => exact ⟨k + 1, by go_num, by omega, Hid.mk (by rw [HS.out, ← Bool.or_assoc, hb, decide_eq_true he]; exact HTT.out _)⟩
          case measure => simp [intOf]; omega
        · have he2 : (t.toList == P.toList) = false := beq_eq_false_iff_ne.2 (fun q => he (toList_inj.1 q))
          go_wp2_with fail
          go_roundw
          case rel => exact ⟨k + 1, by go_num, by omega, Hid.mk (by rw [HS.out, ← Bool.or_assoc, hb, decide_eq_false he]; exact HTT.out _)⟩
          case measure => simp [intOf]; omega
      · rw [hb] at k4
        go_wp2_with fail
        go_roundw
        case rel => exact ⟨k + 1, by go_num, by omega, Hid.mk (by rw [HS.out, ← Bool.or_assoc, hb, Bool.true_or]; exact HTT.out _)⟩
        case measure => simp [intOf]; omega
    · have cc : ¬ (k : Int) < n := by omega
      obtain rfl : k = n := by omega
      have hbl : B ≤ wr.heap.size := Nat.le_trans HBB.out (Nat.le_trans b1.size HQ.out.2.size)
      have HO : Hid (wr.ownsRow B 9 1 (.slice ao k cap) k (strCells ps)) := Hid.mk (by
        have o1 := TchS.owns (S := fun g => g = gd) ((TchS.of_below b1).trans (TchS.of_tch HQ.out.2 (fun _ => rfl))) H.out.op (fun g q => H.out.ne g q)
        rwa [hnL] at o1)
      have HLL : Hid ((strCells ps).length = k * 1) := Hid.mk (by rw [strCells_length, hnL])
      clear hlt2
      go_wp2_with (first
        | (at_builtin; refine wpl_appendT Tryz.underlying32 iStr (by omega) (by omega) rfl _ _ rfl B (.slice ao k cap) k (strCells ps) rfl (HO.out.alloc _) ⟨wr.heap.size, 0, none⟩ 1 1 [.string P] rfl (by omega) rfl (cell_one_new _ _ _) ?_ HN.out (by omega) ?_ ?_; (focus (intro u hu; simp at hu; subst hu; rfl)); (focus (simp; omega)); intro v w4 hown hg hat; obtain ⟨aV, cV, eV⟩ := own_sl hown; subst eV; (have T4 : TchS (fun g => (Value.slice ao k cap).ownBlock = some g) wr w4 := (TchS.of_below (by_alloc _ _)).trans (TchS.of_grown hg (fun g e => e))); (have R4 := (T4.row (by rw [HQ.out.1]; exact Nat.succ_pos 7) (fun e => H.out.ne gd e rfl)).trans HQ.out.1); have k4' := dp_c3 R4; have z4' := dp_z R4 3 (by omega); have HG := Hid.mk T4; have HW4 := Hid.mk hown; have HAT := Hid.mk hat; have HR4 := Hid.mk R4; clear hg hown hat T4 R4)
        | fail)
      go_ret
      have T5 : TchS (fun g => g = gd) w4 (w4.setCell ⟨gd, 3, none⟩ (.slice aV (k + 1) cV)) := TchS.of_tch (tch_own gd 3 w4 _) (fun _ => rfl)
      have hfr : ∀ g, (Value.slice aV (k + 1) cV).ownBlock = some g → g ≠ gd := fun g q => by
        rcases HAT.out with e | e
        · rw [e] at q; exact H.out.ne g q
        · rw [e] at q; have := Option.some.inj q; simp at this; omega
      refine ⟨rfl, _, ⟨?_, ?_, hfr⟩, ?_, ?_⟩
      · rw [HW.out] at HR4
        exact row_setD HR4.out (Nat.succ_pos 7) 3 _ rfl
      · rw [List.length_append, strCells_append, hnL]
        exact T5.owns HW4.out (fun g q => hfr g q)
      · refine (TchS.of_below b1).trans (((TchS.of_tch HQ.out.2 (fun _ => Or.inl rfl)).trans (HG.out.mono (fun g _ e => Or.inr e))).trans (T5.mono (fun g _ e => Or.inl e)))
      · rcases HAT.out with e | e
        · exact Or.inl e
        · exact Or.inr ⟨_, e, by have := b1.size; have := HQ.out.2.size; simp; omega⟩
end Go.Proofs.YteghoooelgcpkaaGreatDoor
namespace Go.Proofs.YteghoooelgcpkaaGreatDoor
open Go.RowKit Go.Msg
theorem dp_c6 {w : World} {g : Nat} {c0 c1 c2 c3 c4 c5 c6 c7 : Value} (h : w.rowOf g = #[c0, c1, c2, c3, c4, c5, c6, c7]) : w.cell? ⟨g, 6, none⟩ = some c6 := rowcell h 6 _ rfl
theorem dp_c7 {w : World} {g : Nat} {c0 c1 c2 c3 c4 c5 c6 c7 : Value} (h : w.rowOf g = #[c0, c1, c2, c3, c4, c5, c6, c7]) : w.cell? ⟨g, 7, none⟩ = some c7 := rowcell h 7 _ rfl
section
variable {B gd : Nat} {w w' : World} {c0 c1 c2 vp : Value} {ps : List ByteArray} {tw : Bool} {c5 : Value} {ld sd : Int}
theorem DP.below (h : DP B gd w c0 c1 c2 vp ps tw c5 ld sd) (b : Below w.heap.size w w') : DP B gd w' c0 c1 c2 vp ps tw c5 ld sd :=
  ⟨(below_row b (by rw [h.row]; exact Nat.succ_pos 7)).trans h.row, TchS.owns (S := fun _ => False) (TchS.of_below b) h.op (fun _ _ q => q), h.ne⟩
theorem DP.tchS {S : Nat → Prop} (h : DP B gd w c0 c1 c2 vp ps tw c5 ld sd) (t : TchS S w w') (h1 : ¬ S gd) (h2 : ∀ g, vp.ownBlock = some g → ¬ S g) : DP B gd w' c0 c1 c2 vp ps tw c5 ld sd :=
  ⟨(t.row (by rw [h.row]; exact Nat.succ_pos 7) h1).trans h.row, t.owns h.op h2, h.ne⟩
structure LaidP (B gd : Nat) (w : World) (c0 c1 c2 vp : Value) (ps : List ByteArray) (tw : Bool) (c5 : Value) (sd : Int) (g : Nat) (x : Sd) (vK vP vD : Value) (w' : World) : Prop where
  out : ∃ vp' ps' tw' ld' y vD', DP B gd w' c0 c1 c2 vp' ps' tw' c5 ld' sd ∧ SesAt w' g y vK vP vD' ∧
    ((y = x ∧ ps' = ps ∧ tw' = tw ∧ ¬ x.draws.length < 8) ∨ ∃ k : ByteArray, k.size = 32 ∧ x.draws.length < 8 ∧ y = laidS x k ∧ ps' = ps ++ [pubF k] ∧ tw' = (tw || ps.any (fun t => decide (t = pubF k)))) ∧
    TchS (fun q => q = gd ∨ vp.ownBlock = some q ∨ q = g) w w' ∧ (vp'.ownBlock = vp.ownBlock ∨ ∃ b, vp'.ownBlock = some b ∧ w.heap.size ≤ b) ∧ (∀ q, q < w.heap.size → Offs q vK vP vD → Offs q vK vP vD') ∧ ps'.length ≤ ps.length + 1 ∧ (∀ b, vp'.ownBlock = some b → vp'.ownBlock = vp.ownBlock ∨ Offs b vK vP vD')
set_option maxRecDepth 4000 in
set_option maxHeartbeats 4000000 in
theorem lays_f (h : DP B gd w c0 c1 c2 vp ps tw c5 ld sd) (hB : B ≤ w.heap.size) (hn : ps.length ≤ 4000000) {g : Nat} {x : Sd} {vK vP vD : Value} (hx : x.Wf) (hs : SesAt w g x vK vP vD) (ho : Offs g vK vP vD) (hg : g ≠ gd) (hgp : vp.ownBlock ≠ some g) (hod : Offs gd vK vP vD) (hop : ∀ b, vp.ownBlock = some b → Offs b vK vP vD) :
    Calls Tryz.prog 148 #[.pointer (some ⟨gd, 0, none⟩), .pointer (some ⟨g, 0, none⟩)] w fun e w' => e = .returned (.tuple #[]) ∧ LaidP B gd w c0 c1 c2 vp ps tw c5 sd g x vK vP vD w' := by
  have k6 := dp_c6 h.row
  have k7 := dp_c7 h.row
  have hlt := dp_lt h.row
  have H := Hid.mk h
  have HS := Hid.mk hs
  have HOP := Hid.mk hop
  clear h hs hop
  go_enter Tryz.func148, Tryz.ntmps148
  go_upto_region 0 with fail
  go_cut [4] from 16 (fun v wx => ∃ s : ByteArray, v = .string s ∧ s.size = 32 ∧ Hid (Below w.heap.size w wx))
  case first =>
    go_region_with (go_at_call 143; refine (drawn_any _ _ _).mono ?_; rintro e W2 ⟨s, rfl, hs, hb⟩)
    all_goals go_wp2_with fail
    all_goals go_meet
    all_goals exact ⟨_, rfl, hs, Hid.mk (below_lift (Below.refl _ _).drew (Nat.le_refl _) hb)⟩
  case rest =>
  obtain ⟨s, rfl, hs32, hb⟩ := hcut
  have HM := Hid.mk (lay_f x hx g vK vP vD s wc (HS.out.below hb.out) ho)
  by_cases hd : x.draws.length < 8
  · have HM2 : Hid (Calls Tryz.prog 78 #[.pointer (some ⟨g, 0, none⟩), .string s] wc fun e w' => e = .returned (.int .i64 0) ∧ Hid (∃ v, SesAt w' g (laidS x s) vK vP v ∧ (∀ k, k < wc.heap.size → Off k v) ∧ Tch g wc w')) := Hid.mk (HM.out.mono (fun e w' q => by
      rcases q with ⟨q1, _⟩ | ⟨_, q1, _⟩ | ⟨_, _, q1, q2⟩
      · exact absurd hs32 q1
      · omega
      · exact ⟨q1, Hid.mk q2⟩))
    clear HM k6 k7
    go_upto_region 3 with (first | (go_at_call 78; with_reducible refine HM2.out.mono ?_; rintro e w2 ⟨rfl, HQ⟩) | fail)
    obtain ⟨vD2, hs2, hf2, ht2⟩ := HQ.out
    have D2 := (H.out.below hb.out).tchS (TchS.of_tch (S := fun q => q = g) ht2 (fun _ => rfl)) (fun e => hg e.symm) (fun q e (e2 : q = g) => hgp (by rw [e2] at e; exact e))
    have HP := Hid.mk (point_f D2 (Nat.le_trans hB (Nat.le_trans hb.out.size ht2.size)) s hs32 hn)
    have HS2 := Hid.mk hs2
    have HF2 := Hid.mk hf2
    have HT2 := Hid.mk ht2
    clear hs2 hf2 ht2 D2 HQ
    go_upto_region 4 with (first | (go_at_call 144; with_reducible refine HP.out.mono ?_; rintro e w3 ⟨rfl, hq⟩; have HQ3 := Hid.mk hq; clear hq) | fail)
    obtain ⟨vp3, D3, T3, F3⟩ := HQ3.out
    have k6 := dp_c6 D3.row
    have z6 := dp_z D3.row 6 (by omega)
    have hlt3 := dp_lt D3.row
    have HD3 := Hid.mk D3
    clear D3
    go_wp2_with fail
    go_end0
    have T0 : TchS (fun q => q = gd ∨ vp.ownBlock = some q ∨ q = g) w w3 := ((TchS.of_below hb.out).trans (TchS.of_tch HT2.out (fun _ => Or.inr (Or.inr rfl)))).trans (T3.mono (fun q _ e => e.elim Or.inl (fun e => Or.inr (Or.inl e))))
    have hsz := hb.out.size
    have hsz2 := HT2.out.size
    have hgl : g < w.heap.size := HS.out.lt
    have off2 : ∀ q, q < wc.heap.size → Offs q vK vP vD → Offs q vK vP vD2 := fun q hq o => ⟨o.k, o.p, HF2.out q hq⟩
    have S3 : SesAt w3 g (laidS x s) vK vP vD2 := HS2.out.tchS T3 (fun e => e.elim hg hgp) (fun q e => off2 q (by
      rcases e with e | e
      · rw [e]; omega
      · have := (H.out.op.lt q e).2; omega) (by
      rcases e with e | e
      · rw [e]; exact hod
      · exact HOP.out q e))
    have T5 : TchS (fun q => q = gd) w3 (w3.setCell ⟨gd, 6, none⟩ (.int .i64 (wrap64 (ld + 1)))) := TchS.of_tch (tch_own gd 6 w3 _) (fun _ => rfl)
    refine ⟨rfl, ⟨vp3, _, _, wrap64 (ld + 1), laidS x s, vD2, ⟨row_setD HD3.out.row (Nat.succ_pos 7) 6 _ rfl, T5.owns HD3.out.op (fun q e => HD3.out.ne q e), HD3.out.ne⟩, S3.tchS T5 hg (fun q e => by rw [e]; exact off2 gd (by omega) hod), Or.inr ⟨s, hs32, hd, rfl, rfl, rfl⟩, T0.trans (T5.mono (fun q _ e => Or.inl e)), ?_, fun q hq o => off2 q (by omega) o, by simp, ?_⟩⟩
    rotate_left
    · intro b eb
      rcases F3 with e | ⟨b', e, hb2⟩
      · exact Or.inl e
      · rw [e] at eb; cases eb; exact Or.inr (HS2.out.fresh hb2)
    rcases F3 with e | ⟨b, e, hb2⟩
    · exact Or.inl e
    · exact Or.inr ⟨b, e, by omega⟩
  · have HM2 : Hid (Calls Tryz.prog 78 #[.pointer (some ⟨g, 0, none⟩), .string s] wc fun e w' => e = .returned (.int .i64 4) ∧ Below wc.heap.size wc w') := Hid.mk (HM.out.mono (fun e w' q => by
      rcases q with ⟨q1, _⟩ | ⟨_, _, q1, q2⟩ | ⟨_, q1, _⟩
      · exact absurd hs32 q1
      · exact ⟨q1, q2⟩
      · exact absurd q1 hd))
    clear HM k6 k7
    go_wp2_with (first | (go_at_call 78; with_reducible refine HM2.out.mono ?_; rintro e w2 ⟨rfl, b2⟩) | fail)
    go_end0
    have b := below_lift hb.out hb.out.size b2
    have D2 := H.out.below b
    exact ⟨rfl, ⟨vp, ps, tw, ld, x, vD, D2, HS.out.below b, Or.inl ⟨rfl, rfl, rfl, hd⟩, TchS.of_below b, Or.inl rfl, fun _ _ q => q, by omega, fun _ _ => Or.inl rfl⟩⟩
end
end Go.Proofs.YteghoooelgcpkaaGreatDoor
namespace Go.Proofs.YteghoooelgcpkaaGreatDoor
open Go.RowKit Go.Msg
structure SR where
  g : Nat
  x : Sd
  vK : Value
  vP : Value
  vD : Value
def updS {α : Type} (S : Bool → α) (b : Bool) (r : α) : Bool → α := fun q => if q = b then r else S q
theorem updS_same {α : Type} (S : Bool → α) (b : Bool) (r : α) : updS S b r b = r := if_pos rfl
theorem updS_ne {α : Type} (S : Bool → α) {b q : Bool} (r : α) (h : q ≠ b) : updS S b r q = S q := if_neg h
def lmCells (ls : List Lm) : List Value := ls.flatMap (fun c => [.bool c.odd, .string c.bytes, .string c.text, .string c.data, .bool c.read, .string c.before])
def role (b : Bool) : Nat := if b then 5 else 4
theorem role_b (b : Bool) : role b = 4 ∨ role b = 5 := by cases b <;> simp [role]
theorem role_inj {a b : Bool} (h : role a = role b) : a = b := by cases a <;> cases b <;> simp_all [role]
structure DW (w0 : World) (gd : Nat) (ρ : Nat → Nat) (w : World) (S : Bool → SR) (vl vp : Value) (ls : List Lm) (ps : List ByteArray) (tw lo : Bool) (ld sd : Int) : Prop where
  row : w.rowOf gd = #[.pointer (some ⟨(S false).g, 0, none⟩), .pointer (some ⟨(S true).g, 0, none⟩), vl, vp, .bool tw, .bool lo, .int .i64 ld, .int .i64 sd]
  bl : Below w0.heap.size w0 w
  tb : Tbl w0
  rb : ∀ g, g < w0.heap.size → ρ g = 0
  rf : ∀ g, w.heap.size ≤ g → ρ g = 0
  rd : ρ gd = 1
  ol : w.ownsRow w0.heap.size 176 6 vl ls.length (lmCells ls)
  rl : ∀ g, vl.ownBlock = some g → ρ g = 2
  op : w.ownsRow w0.heap.size 9 1 vp ps.length (strCells ps)
  rp : ∀ g, vp.ownBlock = some g → ρ g = 3
  se : ∀ b, SesAt w (S b).g (S b).x (S b).vK (S b).vP (S b).vD
  wf : ∀ b, (S b).x.Wf
  rs : ∀ b, ρ (S b).g = role b
  os : ∀ b g, ρ g ≠ 0 → Offs g (S b).vK (S b).vP (S b).vD
section
variable {w0 w w' : World} {gd : Nat} {ρ : Nat → Nat} {S : Bool → SR} {vl vp : Value} {ls : List Lm} {ps : List ByteArray} {tw lo : Bool} {ld sd : Int}
theorem DW.lt (h : DW w0 gd ρ w S vl vp ls ps tw lo ld sd) : gd < w.heap.size := dp_lt h.row
theorem DW.tbl (h : DW w0 gd ρ w S vl vp ls ps tw lo ld sd) : Tbl w := h.tb.below h.bl
theorem DW.old (h : DW w0 gd ρ w S vl vp ls ps tw lo ld sd) {g : Nat} (hg : ρ g ≠ 0) : w0.heap.size ≤ g ∧ g < w.heap.size := by
  refine ⟨?_, ?_⟩
  · by_cases q : g < w0.heap.size
    · exact absurd (h.rb g q) hg
    · omega
  · by_cases q : w.heap.size ≤ g
    · exact absurd (h.rf g q) hg
    · omega
theorem DW.rs0 (h : DW w0 gd ρ w S vl vp ls ps tw lo ld sd) (b : Bool) : ρ (S b).g ≠ 0 := by
  rw [h.rs b]; rcases role_b b with e | e <;> omega
theorem DW.off (h : DW w0 gd ρ w S vl vp ls ps tw lo ld sd) (b : Bool) : Offs (S b).g (S b).vK (S b).vP (S b).vD := h.os b _ (h.rs0 b)
theorem DW.below (h : DW w0 gd ρ w S vl vp ls ps tw lo ld sd) (b : Below w.heap.size w w') : DW w0 gd ρ w' S vl vp ls ps tw lo ld sd :=
  ⟨(below_row b (by rw [h.row]; exact Nat.succ_pos 7)).trans h.row, below_lift h.bl h.bl.size b, h.tb, h.rb, fun g hg => h.rf g (Nat.le_trans b.size hg), h.rd,
    TchS.owns (S := fun _ => False) (TchS.of_below b) h.ol (fun _ _ q => q), h.rl, TchS.owns (S := fun _ => False) (TchS.of_below b) h.op (fun _ _ q => q), h.rp, fun q => (h.se q).below b, h.wf, h.rs, h.os⟩
theorem DW.dp (h : DW w0 gd ρ w S vl vp ls ps tw lo ld sd) : DP w0.heap.size gd w (.pointer (some ⟨(S false).g, 0, none⟩)) (.pointer (some ⟨(S true).g, 0, none⟩)) vl vp ps tw (.bool lo) ld sd :=
  ⟨h.row, h.op, fun g q e => by have := h.rp g q; rw [e, h.rd] at this; omega⟩
theorem DW.ses (h : DW w0 gd ρ w S vl vp ls ps tw lo ld sd) (b : Bool) {y : Sd} (hy : y.Wf) (q : AskP (S b).g w (S b).vK (S b).vP (S b).vD y w') :
    ∃ r : SR, r.g = (S b).g ∧ r.x = y ∧ DW w0 gd ρ w' (updS S b r) vl vp ls ps tw lo ld sd := by
  obtain ⟨t, vK', vP', vD', hs, ho⟩ := q
  have T : TchS (fun g => g = (S b).g) w w' := TchS.of_tch t (fun _ => rfl)
  have hr := h.rs b
  have hb := role_b b
  have n1 : ∀ g, ρ g ≠ role b → ¬ g = (S b).g := fun g hg e => hg (by rw [e]; exact hr)
  refine ⟨⟨(S b).g, y, vK', vP', vD'⟩, rfl, rfl, ?_⟩
  have hg : ∀ c, (updS S b ⟨(S b).g, y, vK', vP', vD'⟩ c).g = (S c).g := fun c => by
    by_cases e : c = b
    · rw [e, updS_same]
    · rw [updS_ne S _ e]
  refine ⟨?_, T.below h.bl h.bl.size (fun g e => by rw [e]; exact (h.old (h.rs0 b)).1), h.tb, h.rb, fun g hg' => h.rf g (Nat.le_trans t.size hg'), h.rd, ?_, h.rl, ?_, h.rp, fun c => ?_, fun c => ?_, fun c => by rw [hg]; exact h.rs c, fun c g hg' => ?_⟩
  · rw [hg, hg]; exact (T.row (by rw [h.row]; exact Nat.succ_pos 7) (n1 gd (by rw [h.rd]; omega))).trans h.row
  · exact T.owns h.ol (fun g e => n1 g (by rw [h.rl g e]; omega))
  · exact T.owns h.op (fun g e => n1 g (by rw [h.rp g e]; omega))
  · by_cases e : c = b
    · rw [e, updS_same]; exact hs
    · rw [updS_ne S _ e]
      exact (h.se c).tchS T (n1 _ (fun q => e (role_inj (by rw [← h.rs c, q])))) (fun g q => h.os c g (by rw [q]; exact h.rs0 b))
  · by_cases e : c = b
    · rw [e, updS_same]; exact hy
    · rw [updS_ne S _ e]; exact h.wf c
  · by_cases e : c = b
    · rw [e, updS_same]; exact ho g (h.old hg').2 (h.os b g hg')
    · rw [updS_ne S _ e]; exact h.os c g hg'
theorem DW.laid (h : DW w0 gd ρ w S vl vp ls ps tw lo ld sd) (b : Bool) (q : LaidP w0.heap.size gd w (.pointer (some ⟨(S false).g, 0, none⟩)) (.pointer (some ⟨(S true).g, 0, none⟩)) vl vp ps tw (.bool lo) sd (S b).g (S b).x (S b).vK (S b).vP (S b).vD w') :
    ∃ (ρ' : Nat → Nat) (r : SR) (vp' : Value) (ps' : List ByteArray) (tw' : Bool) (ld' : Int), r.g = (S b).g ∧ DW w0 gd ρ' w' (updS S b r) vl vp' ls ps' tw' lo ld' sd ∧ ps'.length ≤ ps.length + 1 ∧
      ((r.x = (S b).x ∧ ps' = ps ∧ tw' = tw ∧ ¬ (S b).x.draws.length < 8) ∨ ∃ k : ByteArray, k.size = 32 ∧ (S b).x.draws.length < 8 ∧ r.x = laidS (S b).x k ∧ ps' = ps ++ [pubF k] ∧ tw' = (tw || ps.any (fun t => decide (t = pubF k)))) := by
  obtain ⟨vp', ps', tw', ld', y, vD', d, hs, alt, T, hv, ho, hl, hnb⟩ := q.out
  have hr := h.rs b
  have hb := role_b b
  obtain ⟨ρ', hρ⟩ : ∃ ρ' : Nat → Nat, ρ' = fun g => if vp'.ownBlock = some g then 3 else ρ g := ⟨_, rfl⟩
  have hsame : ∀ g, ρ g ≠ 0 → ρ' g = ρ g := fun g hg' => by
    rw [hρ]
    show (if vp'.ownBlock = some g then 3 else ρ g) = ρ g
    split
    · next e =>
      rcases hv with e2 | ⟨p, e2, hp⟩
      · rw [h.rp g (by rw [← e2]; exact e)]
      · rw [e2] at e; cases e; exact absurd (h.rf _ hp) hg'
    · rfl
  have hcase : ∀ g, ρ' g ≠ 0 → ρ g ≠ 0 ∨ (w.heap.size ≤ g ∧ vp'.ownBlock = some g) := fun g hg' => by
    by_cases e : vp'.ownBlock = some g
    · rcases hv with e2 | ⟨p, e2, hp⟩
      · left; rw [h.rp g (by rw [← e2]; exact e)]; decide
      · right; refine ⟨?_, e⟩; rw [e2] at e; cases e; exact hp
    · left; intro q; apply hg'; rw [hρ]; show (if vp'.ownBlock = some g then 3 else ρ g) = 0; rw [if_neg e]; exact q
  have n1 : ∀ g, ρ g ≠ 1 → ρ g ≠ 3 → ρ g ≠ role b → ¬ (g = gd ∨ vp.ownBlock = some g ∨ g = (S b).g) := fun g a1 a2 a3 e => by
    rcases e with e | e | e
    · exact a1 (by rw [e]; exact h.rd)
    · exact a2 (h.rp g e)
    · exact a3 (by rw [e]; exact hr)
  have nS : ∀ g, g = gd ∨ vp.ownBlock = some g ∨ g = (S b).g → ρ g ≠ 0 := fun g e => by
    rcases e with e | e | e
    · rw [e, h.rd]; decide
    · rw [h.rp g e]; decide
    · rw [e]; exact h.rs0 b
  have hwf : y.Wf := by
    rcases alt with ⟨e, _⟩ | ⟨k, k1, k2, e, _⟩
    · rw [e]; exact h.wf b
    · rw [e]; exact laidS_wf (h.wf b) k k1 k2
  have hbl : Below w0.heap.size w0 w' := T.below h.bl h.bl.size (fun g e => (h.old (nS g e)).1)
  have hg : ∀ c, (updS S b ⟨(S b).g, y, (S b).vK, (S b).vP, vD'⟩ c).g = (S c).g := fun c => by
    by_cases e : c = b
    · rw [e, updS_same]
    · rw [updS_ne S _ e]
  refine ⟨ρ', ⟨(S b).g, y, (S b).vK, (S b).vP, vD'⟩, vp', ps', tw', ld', rfl, ⟨?_, hbl, h.tb, ?_, ?_, ?_, ?_, ?_, d.op, ?_, fun c => ?_, fun c => ?_, fun c => ?_, fun c g hg' => ?_⟩, hl, ?_⟩
  · rw [hg, hg]; exact d.row
  · intro g hg'
    by_cases q : ρ' g = 0
    · exact q
    · rcases hcase g q with e | ⟨e, _⟩
      · exact absurd (h.rb g hg') e
      · have := h.bl.size; omega
  · intro g hg'
    by_cases q : ρ' g = 0
    · exact q
    · rcases hcase g q with e | ⟨_, e⟩
      · have := (h.old e).2; have := T.size; omega
      · have := (d.op.lt g e).2; omega
  · rw [hsame gd (by rw [h.rd]; decide)]; exact h.rd
  · exact T.owns h.ol (fun g e => n1 g (by rw [h.rl g e]; decide) (by rw [h.rl g e]; decide) (by rw [h.rl g e]; omega))
  · intro g e; rw [hsame g (by rw [h.rl g e]; decide)]; exact h.rl g e
  · intro g e; rw [hρ]; show (if vp'.ownBlock = some g then 3 else ρ g) = 3; rw [if_pos e]
  · by_cases e : c = b
    · rw [e, updS_same]; exact hs
    · rw [updS_ne S _ e]
      have hc := role_b c
      exact (h.se c).tchS T (n1 _ (by rw [h.rs c]; omega) (by rw [h.rs c]; omega) (by rw [h.rs c]; exact fun q => e (role_inj q))) (fun g q => h.os c g (nS g q))
  · by_cases e : c = b
    · rw [e, updS_same]; exact hwf
    · rw [updS_ne S _ e]; exact h.wf c
  · rw [hg, hsame _ (h.rs0 c)]; exact h.rs c
  · rcases hcase g hg' with q | ⟨q, q2⟩
    · by_cases e : c = b
      · rw [e, updS_same]; exact ho g (h.old q).2 (h.os b g q)
      · rw [updS_ne S _ e]; exact h.os c g q
    · by_cases e : c = b
      · rw [e, updS_same]
        rcases hnb g q2 with e2 | e2
        · have := (h.op.lt g (by rw [← e2]; exact q2)).2; omega
        · exact e2
      · rw [updS_ne S _ e]
        exact (h.se c).fresh q
  · rcases alt with ⟨e, e1, e2, e3⟩ | ⟨k, k1, k2, e, e1, e2⟩
    · exact Or.inl ⟨e, e1, e2, e3⟩
    · exact Or.inr ⟨k, k1, k2, e, e1, e2⟩
end
end Go.Proofs.YteghoooelgcpkaaGreatDoor
namespace Go.Proofs.YteghoooelgcpkaaGreatDoor
open Go.RowKit Go.Msg
structure DI (S : Bool → SR) (ls : List Lm) (ps : List ByteArray) (tw lo : Bool) (n : Nat) : Prop where
  sn : ∀ c ∈ ls, ∃ x0, Sent c x0 ∧ x0.send.size = 32
  tk : tw = false → lo = false → Talk (S false).x (S true).x ls ps
  nl : ls.length ≤ n
  np : ps.length ≤ 2 * n + 2
def Live (w0 : World) (gd n : Nat) (w : World) : Prop := ∃ ρ S vl vp ls ps tw lo ld sd, DW w0 gd ρ w S vl vp ls ps tw lo ld sd ∧ DI S ls ps tw lo n
theorem dp_c0 {w : World} {g : Nat} {c0 c1 c2 c3 c4 c5 c6 c7 : Value} (h : w.rowOf g = #[c0, c1, c2, c3, c4, c5, c6, c7]) : w.cell? ⟨g, 0, none⟩ = some c0 := rowcell h 0 _ rfl
theorem dp_c1 {w : World} {g : Nat} {c0 c1 c2 c3 c4 c5 c6 c7 : Value} (h : w.rowOf g = #[c0, c1, c2, c3, c4, c5, c6, c7]) : w.cell? ⟨g, 1, none⟩ = some c1 := rowcell h 1 _ rfl
theorem dp_c2 {w : World} {g : Nat} {c0 c1 c2 c3 c4 c5 c6 c7 : Value} (h : w.rowOf g = #[c0, c1, c2, c3, c4, c5, c6, c7]) : w.cell? ⟨g, 2, none⟩ = some c2 := rowcell h 2 _ rfl
theorem dp_c5 {w : World} {g : Nat} {c0 c1 c2 c3 c4 c5 c6 c7 : Value} (h : w.rowOf g = #[c0, c1, c2, c3, c4, c5, c6, c7]) : w.cell? ⟨g, 5, none⟩ = some c5 := rowcell h 5 _ rfl
section
variable {w0 w w' : World} {gd n : Nat} {ρ : Nat → Nat} {S : Bool → SR} {vl vp : Value} {ls : List Lm} {ps : List ByteArray} {tw lo : Bool} {ld sd : Int}
theorem DI.mono (h : DI S ls ps tw lo n) {m : Nat} (hm : n ≤ m) : DI S ls ps tw lo m := ⟨h.sn, h.tk, Nat.le_trans h.nl hm, by have := h.np; omega⟩
theorem DI.same (h : DI S ls ps tw lo n) {S' : Bool → SR} (hx : ∀ b, (S' b).x = (S b).x) : DI S' ls ps tw lo n := ⟨h.sn, fun a b => by rw [hx, hx]; exact h.tk a b, h.nl, h.np⟩
set_option maxHeartbeats 1000000 in
theorem side_f (h : DW w0 gd ρ w S vl vp ls ps tw lo ld sd) (b : Bool) :
    Calls Tryz.prog 145 #[.pointer (some ⟨gd, 0, none⟩), .bool b] w fun e w' => e = .returned (.pointer (some ⟨(S b).g, 0, none⟩)) ∧ w = w' := by
  have k0 := dp_c0 h.row
  have k1 := dp_c1 h.row
  have hlt := h.lt
  clear h
  cases b
  · go_enter Tryz.func145, Tryz.ntmps145
    go_wp2_with fail
    go_ret
    exact ⟨rfl, rfl⟩
  · go_enter Tryz.func145, Tryz.ntmps145
    go_wp2_with fail
    go_ret
    exact ⟨rfl, rfl⟩
theorem heardS_junk (x : Sd) {t : ByteArray} (h : t.size < 72) : heardS x t ⟨#[]⟩ = (x, ⟨#[]⟩, 5) := by
  unfold heardS
  rw [if_pos (by decide)]
  unfold hearS
  rw [if_pos (fun q : IsMsg t => by have := q.1; omega)]
set_option maxHeartbeats 1000000 in
theorem junk_f (hl : Live w0 gd n w) (b : Bool) (t : ByteArray) :
    Calls Tryz.prog 108 #[.pointer (some ⟨gd, 0, none⟩), .bool b, .string t] w fun e w' => e = .returned (.bool true) ∧ Live w0 gd (n + 1) w' := by
  obtain ⟨ρ, S, vl, vp, ls, ps, tw, lo, ld, sd, h, hi⟩ := hl
  have HS := Hid.mk (side_f h b)
  have H := Hid.mk h
  by_cases ht : t.size < 72
  · have c1 : ¬ (t.size : Int) ≥ 72 := by omega
    have HA : Hid (Calls Tryz.prog 147 #[.pointer (some ⟨(S b).g, 0, none⟩), .string t, .string ⟨#[]⟩] w fun e w' => e = .returned (.tuple #[.string ⟨#[]⟩, .int .i64 5, .bool true]) ∧ Hid (AskP (S b).g w (S b).vK (S b).vP (S b).vD (S b).x w')) := Hid.mk (by
      have M := asked_f (S b).x (h.wf b) (S b).g (S b).vK (S b).vP (S b).vD t ⟨#[]⟩ w (h.se b) (h.off b) h.tbl
      rw [heardS_junk _ ht] at M
      exact M.mono (fun e w' q => ⟨q.1, Hid.mk q.2⟩))
    clear h
    go_enter Tryz.func108, Tryz.ntmps108
    go_wp2_with (first
      | (go_at_call 145; with_reducible refine HS.out.mono ?_; rintro e w1 ⟨rfl, rfl⟩)
      | (go_at_call 147; with_reducible refine HA.out.mono ?_; rintro e w2 ⟨rfl, HQ⟩)
      | fail)
    go_ret
    obtain ⟨r, r1, r2, r3⟩ := H.out.ses b (H.out.wf b) HQ.out
    exact ⟨rfl, ρ, _, _, _, _, _, _, _, _, _, r3, (hi.mono (Nat.le_succ _)).same (fun c => by
      by_cases e : c = b
      · rw [e, updS_same]; exact r2
      · rw [updS_ne S _ e])⟩
  · have c1 : (t.size : Int) ≥ 72 := by omega
    clear h
    go_enter Tryz.func108, Tryz.ntmps108
    go_wp2_with (first
      | (go_at_call 145; with_reducible refine HS.out.mono ?_; rintro e w1 ⟨rfl, rfl⟩)
      | fail)
    go_ret
    exact ⟨rfl, ρ, S, _, _, _, _, _, _, _, _, H.out, hi.mono (Nat.le_succ _)⟩
end
end Go.Proofs.YteghoooelgcpkaaGreatDoor
namespace Go.Proofs.YteghoooelgcpkaaGreatDoor
open Go.RowKit Go.Msg
section
variable {w0 w w' : World} {gd n : Nat} {ρ : Nat → Nat} {S : Bool → SR} {vl vp : Value} {ls : List Lm} {ps : List ByteArray} {tw lo : Bool} {ld sd : Int}
theorem DW.woken (h : DW w0 gd ρ w S vl vp ls ps tw lo ld sd) (b : Bool) (r : SR) (h0 : ρ r.g = 0) (hb : w0.heap.size ≤ r.g) (hs : SesAt w r.g r.x r.vK r.vP r.vD) (hw : r.x.Wf) (hof : ∀ g, ρ g ≠ 0 ∨ g = r.g → Offs g r.vK r.vP r.vD) (hot : ∀ c, Offs r.g (S c).vK (S c).vP (S c).vD) :
    ∃ ρ', DW w0 gd ρ' (w.setCell ⟨gd, if b then 1 else 0, none⟩ (.pointer (some ⟨r.g, 0, none⟩))) (updS S b r) vl vp ls ps tw lo ld sd := by
  obtain ⟨ρ', hρ⟩ : ∃ ρ' : Nat → Nat, ρ' = fun g => if g = r.g then role b else if g = (S b).g then 0 else ρ g := ⟨_, rfl⟩
  have e1 : ρ' r.g = role b := by rw [hρ]; exact if_pos rfl
  have e2 : ∀ g, g ≠ r.g → g ≠ (S b).g → ρ' g = ρ g := fun g a1 a2 => by
    rw [hρ]; show (if g = r.g then role b else if g = (S b).g then 0 else ρ g) = ρ g
    rw [if_neg a1, if_neg a2]
  have hrb := role_b b
  have ne1 : ∀ g, ρ g ≠ 0 → g ≠ r.g := fun g hg e => hg (by rw [e]; exact h0)
  have ne2 : ∀ g, ρ g ≠ role b → g ≠ (S b).g := fun g hg e => hg (by rw [e]; exact h.rs b)
  have e3 : ∀ g, ρ g ≠ 0 → ρ g ≠ role b → ρ' g = ρ g := fun g a1 a2 => e2 g (ne1 g a1) (ne2 g a2)
  have hcase : ∀ g, ρ' g ≠ 0 → ρ g ≠ 0 ∨ g = r.g := fun g hg => by
    by_cases q : g = r.g
    · exact Or.inr q
    · left
      intro z
      apply hg
      by_cases q2 : g = (S b).g
      · rw [hρ]; show (if g = r.g then role b else if g = (S b).g then 0 else ρ g) = 0
        rw [if_neg q, if_pos q2]
      · rw [e2 g q q2]; exact z
  obtain ⟨W, hW⟩ : ∃ W, W = w.setCell ⟨gd, if b then 1 else 0, none⟩ (.pointer (some ⟨r.g, 0, none⟩)) := ⟨_, rfl⟩
  have T : TchS (fun g => g = gd) w W := by rw [hW]; exact TchS.of_tch (tch_own gd _ w _) (fun _ => rfl)
  have hlt := hs.lt
  have ng : ∀ g, ρ g ≠ 1 → ¬ g = gd := fun g hg e => hg (by rw [e]; exact h.rd)
  rw [← hW]
  refine ⟨ρ', ?_, T.below h.bl h.bl.size (fun g e => by rw [e]; exact (h.old (by rw [h.rd]; decide)).1), h.tb, ?_, ?_, ?_, ?_, ?_, ?_, ?_, fun c => ?_, fun c => ?_, fun c => ?_, fun c g hg => ?_⟩
  · rw [hW]
    cases b
    · rw [updS_same, updS_ne S _ (by decide)]; exact row_setD h.row (Nat.succ_pos 7) _ _ rfl
    · rw [updS_same, updS_ne S _ (by decide)]; exact row_setD h.row (Nat.succ_pos 7) _ _ rfl
  · intro g hg
    by_cases q : ρ' g = 0
    · exact q
    · rcases hcase g q with e | e
      · exact absurd (h.rb g hg) e
      · omega
  · intro g hg
    have := T.size
    by_cases q : ρ' g = 0
    · exact q
    · rcases hcase g q with e | e
      · have := (h.old e).2; omega
      · omega
  · rw [e3 gd (by rw [h.rd]; decide) (by rw [h.rd]; omega)]; exact h.rd
  · exact T.owns h.ol (fun g e => ng g (by rw [h.rl g e]; decide))
  · intro g e; rw [e3 g (by rw [h.rl g e]; decide) (by rw [h.rl g e]; omega)]; exact h.rl g e
  · exact T.owns h.op (fun g e => ng g (by rw [h.rp g e]; decide))
  · intro g e; rw [e3 g (by rw [h.rp g e]; decide) (by rw [h.rp g e]; omega)]; exact h.rp g e
  · by_cases e : c = b
    · rw [e, updS_same]; exact hs.tchS T (fun q => absurd h0 (by rw [q, h.rd]; decide)) (fun g q => hof g (Or.inl (by rw [q, h.rd]; decide)))
    · rw [updS_ne S _ e]
      have hc := role_b c
      exact (h.se c).tchS T (ng _ (by rw [h.rs c]; omega)) (fun g q => h.os c g (by rw [q, h.rd]; decide))
  · by_cases e : c = b
    · rw [e, updS_same]; exact hw
    · rw [updS_ne S _ e]; exact h.wf c
  · by_cases e : c = b
    · rw [e, updS_same]; exact e1
    · rw [updS_ne S _ e, e3 _ (h.rs0 c) (by rw [h.rs c]; exact fun q => e (role_inj q))]; exact h.rs c
  · by_cases e : c = b
    · rw [e, updS_same]
      exact hof g (hcase g hg)
    · rw [updS_ne S _ e]
      rcases hcase g hg with q | q
      · exact h.os c g q
      · rw [q]; exact hot c
theorem copy_f (h : DW w0 gd ρ w S vl vp ls ps tw lo ld sd) (b : Bool) (w1 : World) :
    Calls Tryz.prog 27 #[.string (keptB (S b).x)] w1 fun e w' => ∃ r : SR, e = .returned (.tuple #[.pointer (some ⟨r.g, 0, none⟩), .int .i64 0]) ∧ r.x = (S b).x ∧ w1.heap.size ≤ r.g ∧ Hid (SesAt w' r.g r.x r.vK r.vP r.vD ∧ (∀ g, g ≤ r.g → Offs g r.vK r.vP r.vD) ∧ Below w1.heap.size w1 w') := by
  refine (import_f (keptB (S b).x) w1).mono (fun e w' q => ?_)
  obtain ⟨i1, i2⟩ := import_of (S b).x (h.wf b)
  obtain ⟨⟨q1, _⟩ | ⟨_, g, vK, vP, vD, q2, q3, q4, q5⟩, q6⟩ := q
  · exact absurd i1 q1
  · rw [i2] at q4
    exact ⟨⟨g, (S b).x, vK, vP, vD⟩, q3, rfl, q2, Hid.mk ⟨q4, q5, q6⟩⟩
set_option maxHeartbeats 2000000 in
theorem wake_f (hl : Live w0 gd n w) (b : Bool) :
    Calls Tryz.prog 109 #[.pointer (some ⟨gd, 0, none⟩), .bool b] w fun e w' => e = .returned (.bool true) ∧ Live w0 gd (n + 1) w' := by
  obtain ⟨ρ, S, vl, vp, ls, ps, tw, lo, ld, sd, h, hi⟩ := hl
  have HS := Hid.mk (side_f h b)
  have H := Hid.mk h
  have HX := Hid.mk (export_f (S b).x (h.wf b) (S b).g (S b).vK (S b).vP (S b).vD w (h.se b))
  have HC : Hid (∀ w1, Calls Tryz.prog 27 #[.string (keptB (S b).x)] w1 fun e w' => ∃ r : SR, e = .returned (.tuple #[.pointer (some ⟨r.g, 0, none⟩), .int .i64 0]) ∧ r.x = (S b).x ∧ w1.heap.size ≤ r.g ∧ Hid (SesAt w' r.g r.x r.vK r.vP r.vD ∧ (∀ g, g ≤ r.g → Offs g r.vK r.vP r.vD) ∧ Below w1.heap.size w1 w')) := Hid.mk (fun w1 => copy_f h b w1)
  have HE : Hid (∀ w2 (r : SR), r.x = (S b).x → SesAt w2 r.g r.x r.vK r.vP r.vD → Calls Tryz.prog 32 #[.pointer (some ⟨r.g, 0, none⟩)] w2 fun e w' => e = .returned (.string (keptB (S b).x)) ∧ Below w2.heap.size w2 w') := Hid.mk (fun w2 r hr q => by
    have M := export_f r.x (by rw [hr]; exact h.wf b) r.g r.vK r.vP r.vD w2 q
    rw [hr] at M
    exact M)
  clear h
  generalize hK : keptB (S b).x = K at *
  go_enter Tryz.func109, Tryz.ntmps109
  go_upto_region 6 with (first
    | (go_at_call 145; with_reducible refine HS.out.mono ?_; rintro e w1 ⟨rfl, rfl⟩)
    | (go_at_call 32; with_reducible refine HX.out.mono ?_; rintro e w1 ⟨rfl, b1⟩)
    | (go_at_call 27; with_reducible refine (HC.out _).mono ?_; rintro e w2 ⟨r, rfl, hrx, hrg, HR⟩)
    | fail)
  have HM := Hid.mk (HE.out _ r hrx HR.out.1)
  go_upto_region 7 with (first
    | (go_at_call 32; with_reducible refine HM.out.mono ?_; rintro e w3 ⟨rfl, b3⟩)
    | fail)
  have B3 : Below w.heap.size w w3 := below_lift (below_lift b1 b1.size HR.out.2.2) (Nat.le_trans b1.size HR.out.2.2.size) b3
  have D3 := H.out.below B3
  have hrw : w.heap.size ≤ r.g := Nat.le_trans b1.size hrg
  have HD : Hid (∃ ρ', DW w0 gd ρ' (w3.setCell ⟨gd, if b then 1 else 0, none⟩ (.pointer (some ⟨r.g, 0, none⟩))) (updS S b r) vl vp ls ps tw lo ld sd) := Hid.mk (D3.woken b r (H.out.rf r.g hrw) (Nat.le_trans H.out.bl.size hrw) (HR.out.1.below b3) (by rw [hrx]; exact H.out.wf b) (fun g q => HR.out.2.1 g (by
      rcases q with q | q
      · have := (H.out.old q).2; omega
      · omega)) (fun c => (H.out.se c).fresh hrw))
  have HI : Hid (DI (updS S b r) ls ps tw lo (n + 1)) := Hid.mk ((hi.mono (Nat.le_succ _)).same (fun c => by
      by_cases e : c = b
      · rw [e, updS_same]; exact hrx
      · rw [updS_ne S _ e]))
  have z0 := dp_z D3.row 0 (by omega)
  have z1 := dp_z D3.row 1 (by omega)
  have k0 := dp_c0 D3.row
  have k1 := dp_c1 D3.row
  have hlt := D3.lt
  clear D3
  cases b
  · go_wp2_with fail
    go_ret
    obtain ⟨ρ', hd⟩ := HD.out
    exact ⟨rfl, ρ', _, _, _, _, _, _, _, _, _, hd, HI.out⟩
  · go_wp2_with fail
    go_ret
    obtain ⟨ρ', hd⟩ := HD.out
    exact ⟨rfl, ρ', _, _, _, _, _, _, _, _, _, hd, HI.out⟩
end
end Go.Proofs.YteghoooelgcpkaaGreatDoor
namespace Go.Proofs.YteghoooelgcpkaaGreatDoor
open Go.RowKit Go.Msg
def lmC (c : Lm) : List Value := [.bool c.odd, .string c.bytes, .string c.text, .string c.data, .bool c.read, .string c.before]
theorem lmCells_cons (c : Lm) (ls : List Lm) : lmCells (c :: ls) = lmC c ++ lmCells ls := rfl
theorem lmCells_append (a b : List Lm) : lmCells (a ++ b) = lmCells a ++ lmCells b := List.flatMap_append
theorem lmCells_at {ls : List Lm} {k : Nat} {c : Lm} (h : ls[k]? = some c) (j : Nat) (hj : j < 6) : (lmCells ls)[k * 6 + j]? = (lmC c)[j]? := by
  induction ls generalizing k with
  | nil => simp at h
  | cons d ls ih =>
    rw [lmCells_cons]
    cases k with
    | zero =>
      simp only [List.getElem?_cons_zero, Option.some.injEq] at h
      subst h
      rw [List.getElem?_append_left (by simp [lmC]; omega)]
      simp
    | succ k =>
      rw [List.getElem?_cons_succ] at h
      rw [List.getElem?_append_right (by simp [lmC]; omega), show (k + 1) * 6 + j - (lmC d).length = k * 6 + j from by simp [lmC]; omega]
      exact ih h
structure LmAt (w : World) (g k : Nat) (c : Lm) : Prop where
  c0 : w.cell? ⟨g, k * 6, none⟩ = some (.bool c.odd)
  c1 : w.cell? ⟨g, k * 6 + 1, none⟩ = some (.string c.bytes)
  c2 : w.cell? ⟨g, k * 6 + 2, none⟩ = some (.string c.text)
  c3 : w.cell? ⟨g, k * 6 + 3, none⟩ = some (.string c.data)
  c4 : w.cell? ⟨g, k * 6 + 4, none⟩ = some (.bool c.read)
  c5 : w.cell? ⟨g, k * 6 + 5, none⟩ = some (.string c.before)
theorem own_lms {B : Nat} {w : World} {v : Value} {ls : List Lm} (h0 : w.ownsRow B 176 6 v ls.length (lmCells ls)) : ∃ ao cap g, v = .slice ao ls.length cap ∧ (0 < ls.length → ao = some ⟨g, 0, none⟩ ∧ v.ownBlock = some g) ∧ ∀ k c, ls[k]? = some c → LmAt w g k c := by
  rcases h0.2 with ⟨e, hn⟩ | ⟨g, cap, cur, e, hg, hh, rest⟩
  · have hL : ls = [] := List.eq_nil_of_length_eq_zero hn
    subst hL
    exact ⟨none, 0, 0, e, fun q => absurd q (by simp), fun k r hk => by simp at hk⟩
  · subst e
    refine ⟨some ⟨g, 0, none⟩, cap, g, rfl, fun _ => ⟨rfl, rfl⟩, fun k c hk => ?_⟩
    have hlt := (List.getElem?_eq_some_iff.1 hk).1
    have F : ∀ j, j < 6 → w.cell? ⟨g, k * 6 + j, none⟩ = (lmC c)[j]? := fun j hj => by
      rw [h0.cellAt (k * 6 + j) (by omega)]; exact lmCells_at hk j hj
    exact ⟨F 0 (by omega), F 1 (by omega), F 2 (by omega), F 3 (by omega), F 4 (by omega), F 5 (by omega)⟩
section
variable {w0 w w' : World} {gd n : Nat} {ρ : Nat → Nat} {S : Bool → SR} {vl vp : Value} {ls : List Lm} {ps : List ByteArray} {tw lo : Bool} {ld sd : Int}
theorem cell_below {a b : World} {p : Addr} {v : Value} (h : Below a.heap.size a b) (hc : a.cell? p = some v) : b.cell? p = some v := by rw [h.cell (World.block_lt_of_cell? a _ hc)]; exact hc
theorem beq_of {a b : ByteArray} (h : a = b) : (a.toList == b.toList) = true := by rw [h]; exact beq_self_eq_true _
theorem bne_of {a b : ByteArray} (h : a ≠ b) : (a.toList == b.toList) = false := beq_eq_false_iff_ne.2 (fun q => h (toList_inj.1 q))
set_option maxRecDepth 4000 in
set_option maxHeartbeats 4000000 in
theorem fresh_f (h : DW w0 gd ρ w S vl vp ls ps tw lo ld sd) (hn : ls.length ≤ 4000000) (m : ByteArray) (hm : 38 ≤ m.size) (hb : ∀ c ∈ ls, 38 ≤ c.bytes.size) (hf : tw = false → ∀ c ∈ ls, ¬ (c.bytes.extract 2 34 = m.extract 2 34 ∧ c.bytes.extract 36 38 = m.extract 36 38)) :
    Calls Tryz.prog 146 #[.pointer (some ⟨gd, 0, none⟩), .string m] w fun e w' => e = .returned (.bool true) ∧ Below w.heap.size w w' := by
  obtain ⟨ao, cap, gL, rfl, hao, hcell⟩ := own_lms h.ol
  have k2 := dp_c2 h.row
  have k4 := dp_c4 h.row
  have hlt := h.lt
  have HA := Hid.mk hao
  have HC := Hid.mk hcell
  have HB := Hid.mk hb
  have HF := Hid.mk hf
  have c0 : ¬ (m.size : Int) < 38 := by omega
  clear h hao hcell hb hf
  generalize hnL : ls.length = nL at *
  go_enter Tryz.func146, Tryz.ntmps146
  go_wp2_with fail
  go_loopw [5] (fun i wq => ∃ k : Nat, i = .int .i64 k ∧ k ≤ nL ∧ Below w.heap.size w wq) (fun i _ => nL - (intOf i).toNat)
  case atStart => exact ⟨0, rfl, by omega, Below.refl _ _⟩
  case round =>
    obtain ⟨k, rfl, hk, hq⟩ := hrel
    have k2 := cell_below hq k2
    have k4 := cell_below hq k4
    have hltr : gd < wr.heap.size := Nat.lt_of_lt_of_le hlt hq.size
    by_cases hlt2 : k < nL
    · have cc : (k : Int) < nL := by omega
      cases tw
      · obtain ⟨c, hc⟩ : ∃ c, ls[k]? = some c := ⟨ls[k]'(by omega), List.getElem?_eq_getElem _⟩
        obtain ⟨rfl, hob⟩ := HA.out (by omega)
        have L := HC.out k c hc
        have y1 := cell_below hq L.c1
        have hcm := List.mem_of_getElem? hc
        have hsz := HB.out c hcm
        have hfr := HF.out rfl c hcm
        generalize c.bytes = bb at *
        clear L hc hcm
        go_upto_region 7 with fail
        by_cases e1 : bb.extract 2 34 = m.extract 2 34
        · have f1 := beq_of e1
          have f2 := bne_of (fun q => hfr ⟨e1, q⟩)
          go_quiet (fail)
          go_wp2_with fail
          go_roundw
          case rel => exact ⟨k + 1, by go_num, by omega, below_drewN hq _⟩
          case measure => simp [intOf]; omega
        · have f1 := bne_of e1
          go_quiet (fail)
          go_wp2_with fail
          go_roundw
          case rel => exact ⟨k + 1, by go_num, by omega, below_drewN hq _⟩
          case measure => simp [intOf]; omega
      · go_wp2_with fail
        go_ret
        exact ⟨rfl, hq⟩
    · have cc : ¬ (k : Int) < nL := by omega
      go_wp2_with fail
      go_ret
      exact ⟨rfl, hq⟩
end
end Go.Proofs.YteghoooelgcpkaaGreatDoor
