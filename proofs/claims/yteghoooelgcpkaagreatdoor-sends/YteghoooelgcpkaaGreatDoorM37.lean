import Derived.Test.YteghoooelgcpkaaGreatDoorM36
namespace Go.Proofs.YteghoooelgcpkaaGreatDoor
open Go.RowKit Go.Msg
section
variable {w0 w : World} {gw : Nat} {pv : Value} {ρ : Nat → Nat} {n : Nat}
set_option maxRecDepth 4000 in
set_option maxHeartbeats 8000000 in
theorem owner10 (hs : LWs w0 gw pv n ρ w) (hn : n ≤ 3000000) (A B C : Int) (hA1 : -9223372036854775808 ≤ A) (hA2 : A ≤ 9223372036854775807) (hB1 : -9223372036854775808 ≤ B) (hB2 : B ≤ 9223372036854775807) (S T : ByteArray) :
    Calls Tryz.prog 38 #[.pointer (some ⟨gw, 0, none⟩), .agg #[.int .i64 10, .int .i64 A, .int .i64 B, .int .i64 C, .string S, .string T]] w fun e w' => e = .returned (.bool true) ∧ Nxt w0 gw pv (n + 1) ρ w w' := by
  have HLS := Hid.mk hs
  obtain ⟨vp, vm, L, M, a, b, h, h1, h2⟩ := hs
  obtain ⟨W1, hW1, B1, r1, s1⟩ := op_box w 10 A B C S T
  have H1 := Hid.mk (h.below B1)
  obtain ⟨ao, cap, gM, rfl, hao, hcell⟩ := H1.out.msg
  have HC := Hid.mk hcell
  have HA := Hid.mk hao
  have hlt := h.lt
  have k2 := H1.out.c2
  have R1 := Hid.mk r1
  obtain ⟨u0, u1, u2, u3, u4, u5⟩ := op_cells r1
  have hl1 := H1.out.lt
  have hwl : w.heap.size < W1.heap.size := by omega
  have HMS := Hid.mk h.ms
  clear h r1 u3 u4 u5 s1 hcell hao
  generalize hM : M.length = nM at *
  by_cases h0 : nM = 0
  · subst h0
    go_enter Tryz.func38, Tryz.ntmps38
    go_upto_region 1 with fail
    rw [← hW1]
    clear hW1
    go_wp2_with fail
    go_ret
    exact ⟨rfl, Nxt.of_below (HLS.out.mono (Nat.le_succ _)) B1⟩
  · have hpos : 0 < nM := by omega
    have c0 : (nM : Int) > 0 := by omega
    have e1 := HA.out hpos
    subst e1
    go_enter Tryz.func38, Tryz.ntmps38
    go_upto_region 1 with fail
    rw [← hW1]
    clear hW1
    go_upto_region 15 with fail
    go_cut [8] from 78 (fun v wx => ∃ t : ByteArray, v = .string t ∧ t.size ≤ 1000 ∧ Hid (Below W1.heap.size W1 wx))
    case first =>
      go_region_with (go_at_call 43; refine (pick_any A nM hpos hA1 hA2 (by omega) _).mono ?_; rintro e W2 ⟨k, rfl, hk, rfl⟩; (have y3 : (k : Int) < nM := (by omega)); obtain ⟨t, ht⟩ : ∃ t, M[k]? = some t := ⟨M[k]'(by omega), List.getElem?_eq_getElem _⟩; have y1 := HC.out k t ht; have HTS := Hid.mk (HMS.out t (List.mem_of_getElem? ht)); clear ht)
      all_goals go_wp2_with fail
      all_goals go_meet
      all_goals exact ⟨_, rfl, HTS.out, Hid.mk (Below.refl _ _).drew⟩
    case rest =>
      obtain ⟨t, rfl, hts, hb⟩ := hcut
      have HX := Hid.mk (H1.out.below hb.out)
      have HBX := Hid.mk (below_lift B1 B1.size hb.out)
      obtain ⟨f0, f1, f2, f3, f4, f5⟩ := op_cells (op_below R1.out hb.out)
      clear f0 f1 f3 f4 f5 u0 u1 u2 k2
      go_upto_region 17 with (first | (go_at_call 43; have M := pick_more B t.size hB1 hB2 (by omega) wc; with_reducible refine M.mono ?_; clear M; rintro e W2 ⟨k, rfl, hk, rfl⟩) | fail)
      obtain ⟨j, hj⟩ : ∃ j : Nat, j = t.size - k := ⟨_, rfl⟩
      have hjz : (t.size : Int) - (k : Int) = (j : Int) := by omega
      have hjl : j ≤ t.size := by omega
      have HSD : Hid (∀ s : ByteArray, s.size ≤ 1000 → Calls Tryz.prog 36 #[.pointer (some ⟨gw, 0, none⟩), .string s] W2 fun e w' => e = .returned (.tuple #[]) ∧ ∃ ρ' v, LW w0 gw pv ρ' w' vp v L (M ++ [s]) a b ∧ TchS (fun g => ρ g ≠ 0) W2 w') := Hid.mk (fun s hz => said_f HX.out s hz (by omega))
      clear hj hk
      go_wp2_with (first
        | (go_at_call 36; with_reducible refine (HSD.out _ (by rw [ByteArray.size_extract]; omega)).mono ?_; rintro e w4 ⟨rfl, ρ4, v4, l4, t4⟩)
        | fail)
      go_ret
      exact ⟨rfl, (Nxt.of t4 l4 (by omega) (by rw [List.length_append, hM]; simp; omega)).pre HBX.out⟩
set_option maxRecDepth 4000 in
set_option maxHeartbeats 8000000 in
theorem owner9 (hs : LWs w0 gw pv n ρ w) (hn : n ≤ 3000000) (A B C : Int) (hA1 : -9223372036854775808 ≤ A) (hA2 : A ≤ 9223372036854775807) (hB1 : -9223372036854775808 ≤ B) (hB2 : B ≤ 9223372036854775807) (S T : ByteArray) :
    Calls Tryz.prog 38 #[.pointer (some ⟨gw, 0, none⟩), .agg #[.int .i64 9, .int .i64 A, .int .i64 B, .int .i64 C, .string S, .string T]] w fun e w' => e = .returned (.bool true) ∧ Nxt w0 gw pv (n + 1) ρ w w' := by
  have HLS := Hid.mk hs
  obtain ⟨vp, vm, L, M, a, b, h, h1, h2⟩ := hs
  obtain ⟨W1, hW1, B1, r1, s1⟩ := op_box w 9 A B C S T
  have H1 := Hid.mk (h.below B1)
  obtain ⟨ao, cap, gM, rfl, hao, hcell⟩ := H1.out.msg
  have HC := Hid.mk hcell
  have HA := Hid.mk hao
  have hlt := h.lt
  have k2 := H1.out.c2
  have R1 := Hid.mk r1
  obtain ⟨u0, u1, u2, u3, u4, u5⟩ := op_cells r1
  have hl1 := H1.out.lt
  have hwl : w.heap.size < W1.heap.size := by omega
  have HMS := Hid.mk h.ms
  clear h r1 u2 u3 u4 u5 s1 hcell hao
  generalize hM : M.length = nM at *
  by_cases h0 : nM = 0
  · subst h0
    go_enter Tryz.func38, Tryz.ntmps38
    go_upto_region 1 with fail
    rw [← hW1]
    clear hW1
    go_wp2_with fail
    go_ret
    exact ⟨rfl, Nxt.of_below (HLS.out.mono (Nat.le_succ _)) B1⟩
  · have hpos : 0 < nM := by omega
    have c0 : (nM : Int) > 0 := by omega
    have e1 := HA.out hpos
    subst e1
    go_enter Tryz.func38, Tryz.ntmps38
    go_upto_region 1 with fail
    rw [← hW1]
    clear hW1
    go_upto_region 7 with fail
    go_cut [5] from 31 (fun v wx => ∃ k : Nat, v = .int .i64 k ∧ k < nM ∧ Hid (Below W1.heap.size W1 wx))
    case first =>
      go_region_with (go_at_call 43; refine (pick_any A nM hpos hA1 hA2 (by omega) _).mono ?_; rintro e W2 ⟨k, rfl, hk, rfl⟩)
      all_goals go_wp2_with fail
      all_goals go_meet
      all_goals exact ⟨_, rfl, hk, Hid.mk (Below.refl _ _).drew⟩
    case rest =>
      obtain ⟨k, rfl, hk, hb⟩ := hcut
      obtain ⟨t, ht⟩ : ∃ t, M[k]? = some t := ⟨M[k]'(by omega), List.getElem?_eq_getElem _⟩
      have hts := HMS.out t (List.mem_of_getElem? ht)
      have y1 := HC.out k t ht
      have y2 : wc.cell? ⟨gM, k, none⟩ = some (.string t) := by rw [hb.out.cell (World.block_lt_of_cell? _ _ y1)]; exact y1
      have y3 : (k : Int) < nM := by omega
      have HX := Hid.mk (H1.out.below hb.out)
      have kx := HX.out.c2
      have HBX := Hid.mk (below_lift B1 B1.size hb.out)
      have RX := Hid.mk (op_below R1.out hb.out)
      have sx := hb.out.size
      clear u0 u1 k2 y1 ht
      go_upto_region 9 with (first | (refine wpl_bytes rfl 9 112 5 _ rfl Tryz.underlying9 Tryz.underlying112 Tryz.underlying5 t rfl ?_; intro cap2 W hcap hcell hfz hbW hszW) | fail)
      have HCB := Hid.mk hcell
      have HFB := Hid.mk hfz
      have HXW := Hid.mk (HX.out.below hbW)
      have HBW := Hid.mk (below_lift HBX.out HBX.out.size hbW)
      obtain ⟨f0, f1, f2, f3, f4, f5⟩ := op_cells (op_below RX.out hbW)
      have hszl : wc.heap.size < W.heap.size := by omega
      clear hcell hfz hbW hcap f0 f1 f4 f5 kx y2 hszW y3
      generalize hgB : wc.heap.size = gB at *
      by_cases hz : t.size = 0
      · have d0 : ¬ (t.size : Int) > 0 := by omega
        have HSD : Hid (∀ s : ByteArray, s.size ≤ 1000 → Calls Tryz.prog 36 #[.pointer (some ⟨gw, 0, none⟩), .string s] W fun e w' => e = .returned (.tuple #[]) ∧ ∃ ρ' v, LW w0 gw pv ρ' w' vp v L (M ++ [s]) a b ∧ TchS (fun g => ρ g ≠ 0) W w') := Hid.mk (fun s hz => said_f HXW.out s hz (by omega))
        clear hz
        go_wp2_with (first
          | (refine wpl_string rfl 112 9 5 _ rfl Tryz.underlying112 Tryz.underlying5 Tryz.underlying9 gB t.size cap2 rfl (sb t) HCB.out ?_)
          | (go_at_call 36; with_reducible refine (HSD.out _ (by rw [bstr_size]; omega)).mono ?_; rintro e w4 ⟨rfl, ρ4, v4, l4, t4⟩)
          | fail)
        go_ret
        exact ⟨rfl, (Nxt.of t4 l4 (by omega) (by rw [List.length_append, hM]; simp; omega)).pre HBW.out⟩
      · have d0 : (t.size : Int) > 0 := by omega
        have hp2 : 0 < t.size := by omega
        clear hz
        go_upto_region 11 with (first | (go_at_call 43; have M := pick_any B t.size hp2 hB1 hB2 (by omega) W; with_reducible refine M.mono ?_; clear M; rintro e W2 ⟨q, rfl, hq, rfl⟩; have y1 := HCB.out q hq; have y2 := HFB.out q hq; have y3 : (q : Int) < t.size := (by omega)) | fail)
        go_cut [6] from 55 (fun v wx => v = .slice (some ⟨gB, 0, none⟩) t.size cap2 ∧ ∃ F : Nat → Int, Hid (∀ i, i < t.size → wx.cell? ⟨gB, i, none⟩ = some (.int .u8 (F i))) ∧ Hid (Below w.heap.size w wx))
        case first =>
          go_region
          all_goals go_wp2_with fail
          all_goals go_meet
          all_goals exact ⟨rfl, _, turned HCB.out hq, Hid.mk (HBW.out.setCell (p := ⟨gB, _, none⟩) (by show w.heap.size ≤ gB; omega) _).drew⟩
        case rest =>
          obtain ⟨rfl, F, hc, hb3⟩ := hcut
          have HL := Hid.mk ((HLS.out).below hb3.out)
          obtain ⟨vp', vm', L', M', a', b', hx, hx1, hx2⟩ := HL.out
          have HX3 := Hid.mk hx
          have HSD : Hid (∀ s : ByteArray, s.size ≤ 1000 → Calls Tryz.prog 36 #[.pointer (some ⟨gw, 0, none⟩), .string s] wc fun e w' => e = .returned (.tuple #[]) ∧ ∃ ρ' v, LW w0 gw pv ρ' w' vp' v L' (M' ++ [s]) a' b' ∧ TchS (fun g => ρ g ≠ 0) wc w') := Hid.mk (fun s hz => said_f hx s hz (by omega))
          clear hx
          go_wp2_with (first
            | (refine wpl_string rfl 112 9 5 _ rfl Tryz.underlying112 Tryz.underlying5 Tryz.underlying9 gB t.size cap2 rfl F hc.out ?_)
            | (go_at_call 36; with_reducible refine (HSD.out _ (by rw [bstr_size]; omega)).mono ?_; rintro e w4 ⟨rfl, ρ4, v4, l4, t4⟩)
            | fail)
          go_ret
          exact ⟨rfl, (Nxt.of t4 l4 (by omega) (by rw [List.length_append]; simp; omega)).pre hb3.out⟩
end
end Go.Proofs.YteghoooelgcpkaaGreatDoor
