import Derived.Test.YteghoooelgcpkaaGreatDoorM34
namespace Go.Proofs.YteghoooelgcpkaaGreatDoor
open Go.RowKit Go.Msg
theorem isEmpty_of_size {b : ByteArray} (h : b.size = 0) : b.toList.isEmpty = true := by rw [toList_nil.2 (size_zero.1 h)]; rfl
theorem turned {W : World} {g n k : Nat} {f : Nat → Int} {z : Int} (hc : ∀ i, i < n → W.cell? ⟨g, i, none⟩ = some (.int .u8 (f i))) (hk : k < n) : Hid (∀ i, i < n → (W.setCell ⟨g, k, none⟩ (.int .u8 z)).drew.cell? ⟨g, i, none⟩ = some (.int .u8 (upd f k z i))) := by
  intro i hi
  show (W.setCell ⟨g, k, none⟩ (.int .u8 z)).cell? ⟨g, i, none⟩ = _
  by_cases e : i = k
  · subst e
    rw [upd_same]
    exact World.cell?_setCell_same _ _ _ (hc i hk)
  · rw [World.cell?_setCell_other _ _ _ _ (by simp <;> omega), hc i hi, upd_ne _ _ _ _ e]
abbrev opC (K A B C : Int) (S T : ByteArray) : Array Value := #[.int .i64 K, .int .i64 A, .int .i64 B, .int .i64 C, .string S, .string T]
section
variable {w0 w : World} {gw : Nat} {pv : Value} {ρ : Nat → Nat} {n : Nat}
set_option maxRecDepth 4000 in
set_option maxHeartbeats 4000000 in
theorem owner4 (hs : LWs w0 gw pv n ρ w) (A B C : Int) (S T : ByteArray) :
    Calls Tryz.prog 38 #[.pointer (some ⟨gw, 0, none⟩), .agg #[.int .i64 4, .int .i64 A, .int .i64 B, .int .i64 C, .string S, .string T]] w fun e w' => e = .returned (.bool true) ∧ Nxt w0 gw pv n ρ w w' := by
  obtain ⟨vp, vm, L, M, a, b, h, h1, h2⟩ := hs
  have H := Hid.mk h
  have hlt := h.lt
  clear h
  go_enter Tryz.func38, Tryz.ntmps38
  go_wp2_with (first | (go_at_call 39; refine (full_any _ _ _).mono ?_; rintro e W1 ⟨t, rfl, hb⟩; (have b1 := below_lift (by_alloc _ _) (by simp) hb); (have H1 := Hid.mk (H.out.below b1)); (have k3' := H1.out.c3); (have z3' := H1.out.z 3 (by omega)); clear hb) | fail)
  go_ret
  obtain ⟨g1, g2⟩ := H1.out.point t
  exact ⟨rfl, (Nxt.of g2 g1 h1 h2).pre b1⟩
set_option maxRecDepth 4000 in
set_option maxHeartbeats 4000000 in
theorem owner14 (hs : LWs w0 gw pv n ρ w) (A B C : Int) (S T : ByteArray) (hS : S.size ≤ 9223372036854775807) :
    Calls Tryz.prog 38 #[.pointer (some ⟨gw, 0, none⟩), .agg #[.int .i64 14, .int .i64 A, .int .i64 B, .int .i64 C, .string S, .string T]] w fun e w' => e = .returned (.bool true) ∧ Nxt w0 gw pv n ρ w w' := by
  obtain ⟨vp, vm, L, M, a, b, h, h1, h2⟩ := hs
  obtain ⟨W1, hW1⟩ : ∃ W, W = w.alloc (.cells #[.int .i64 14, .int .i64 A, .int .i64 B, .int .i64 C, .string S, .string T] 25) := ⟨_, rfl⟩
  have B1 : Below w.heap.size w W1 := by rw [hW1]; exact by_alloc _ _
  have r1 : W1.rowOf w.heap.size = opC 14 A B C S T := by rw [hW1]; exact rowOf_new2 _ _ _ _ rfl
  have H1 := Hid.mk (h.below B1)
  have hlt := h.lt
  have k4 := H1.out.c4
  have z4 := H1.out.z 4 (by omega)
  have u0 : W1.cell? ⟨w.heap.size, 0, none⟩ = some (.int .i64 14) := rowcell r1 0 _ rfl
  have u4 : W1.cell? ⟨w.heap.size, 4, none⟩ = some (.string S) := rowcell r1 4 _ rfl
  clear h r1
  go_enter Tryz.func38, Tryz.ntmps38
  go_upto_region 1 with fail
  rw [← hW1]
  clear hW1
  go_wp2_with fail
  go_ret
  obtain ⟨g1, g2⟩ := H1.out.state S hS
  exact ⟨rfl, (Nxt.of g2 g1 h1 h2).pre B1⟩
set_option maxRecDepth 4000 in
set_option maxHeartbeats 4000000 in
theorem ownerN (hs : LWs w0 gw pv n ρ w) (K A B C : Int) (S T : ByteArray) (hK : K ≠ 4 ∧ K ≠ 9 ∧ K ≠ 10 ∧ K ≠ 13 ∧ K ≠ 14) :
    Calls Tryz.prog 38 #[.pointer (some ⟨gw, 0, none⟩), .agg #[.int .i64 K, .int .i64 A, .int .i64 B, .int .i64 C, .string S, .string T]] w fun e w' => e = .returned (.bool false) ∧ Nxt w0 gw pv n ρ w w' := by
  obtain ⟨a4, a9, a10, a13, a14⟩ := hK
  have HL := Hid.mk hs
  clear hs
  have b4 : (K == 4) = false := by simpa using a4
  have b9 : (K == 9) = false := by simpa using a9
  have b10 : (K == 10) = false := by simpa using a10
  have b13 : (K == 13) = false := by simpa using a13
  have b14 : (K == 14) = false := by simpa using a14
  go_enter Tryz.func38, Tryz.ntmps38
  go_wp2_with fail
  go_ret
  exact ⟨rfl, Nxt.of_below HL.out (by_alloc _ _)⟩
end
end Go.Proofs.YteghoooelgcpkaaGreatDoor
namespace Go.Proofs.YteghoooelgcpkaaGreatDoor
open Go.RowKit Go.Msg
section
variable {w0 w : World} {gw : Nat} {pv : Value} {ρ : Nat → Nat} {n : Nat}
theorem pick_more (c : Int) (m : Nat) (h1 : -9223372036854775808 ≤ c) (h2 : c ≤ 9223372036854775807) (hm : m ≤ 1000000) (w : World) :
    Calls Tryz.prog 43 #[.int .i64 c, .int .i64 ((m : Int) + 1)] w fun e w' => ∃ k : Nat, e = .returned (.int .i64 (k : Int)) ∧ k < m + 1 ∧ w' = w := by
  have := pick_any c (m + 1) (by omega) h1 h2 (by omega) w
  rwa [show (((m + 1 : Nat) : Int)) = (m : Int) + 1 by omega] at this
theorem op_box (w : World) (K A B C : Int) (S T : ByteArray) : ∃ W, W = w.alloc (.cells #[.int .i64 K, .int .i64 A, .int .i64 B, .int .i64 C, .string S, .string T] 25) ∧ Below w.heap.size w W ∧ W.rowOf w.heap.size = opC K A B C S T ∧ W.heap.size = w.heap.size + 1 :=
  ⟨_, rfl, by_alloc _ _, rowOf_new2 _ _ _ _ rfl, by simp⟩
theorem op_cells {W : World} {g : Nat} {K A B C : Int} {S T : ByteArray} (r : W.rowOf g = opC K A B C S T) : W.cell? ⟨g, 0, none⟩ = some (.int .i64 K) ∧ W.cell? ⟨g, 1, none⟩ = some (.int .i64 A) ∧ W.cell? ⟨g, 2, none⟩ = some (.int .i64 B) ∧ W.cell? ⟨g, 3, none⟩ = some (.int .i64 C) ∧ W.cell? ⟨g, 4, none⟩ = some (.string S) ∧ W.cell? ⟨g, 5, none⟩ = some (.string T) :=
  ⟨rowcell r 0 _ rfl, rowcell r 1 _ rfl, rowcell r 2 _ rfl, rowcell r 3 _ rfl, rowcell r 4 _ rfl, rowcell r 5 _ rfl⟩
theorem op_below {W W' : World} {g : Nat} {K A B C : Int} {S T : ByteArray} (r : W.rowOf g = opC K A B C S T) (b : Below W.heap.size W W') : W'.rowOf g = opC K A B C S T := (below_row b (by rw [r]; exact Nat.succ_pos 5)).trans r
set_option maxRecDepth 4000 in
set_option maxHeartbeats 4000000 in
theorem owner13 (hs : LWs w0 gw pv n ρ w) (A B C : Int) (hA1 : -9223372036854775808 ≤ A) (hA2 : A ≤ 9223372036854775807) (S T : ByteArray) :
    Calls Tryz.prog 38 #[.pointer (some ⟨gw, 0, none⟩), .agg #[.int .i64 13, .int .i64 A, .int .i64 B, .int .i64 C, .string S, .string T]] w fun e w' => e = .returned (.bool true) ∧ Nxt w0 gw pv n ρ w w' := by
  have HLS := Hid.mk hs
  obtain ⟨vp, vm, L, M, a, b, h, h1, h2⟩ := hs
  have hsz := h.sz
  obtain ⟨W1, hW1, B1, r1, s1⟩ := op_box w 13 A B C S T
  have H1 := Hid.mk (h.below B1)
  have hlt := h.lt
  have k4 := H1.out.c4
  have R1 := Hid.mk r1
  obtain ⟨u0, u1, u2, u3, u4, u5⟩ := op_cells r1
  have hl1 := H1.out.lt
  have HS1 := Hid.mk s1
  have hwl : w.heap.size < W1.heap.size := by omega
  clear h r1 u2 u4 u5 s1
  by_cases hbe : b.toList.isEmpty = true
  · go_enter Tryz.func38, Tryz.ntmps38
    go_upto_region 1 with fail
    rw [← hW1]
    clear hW1
    go_wp2_with fail
    go_ret
    exact ⟨rfl, Nxt.of_below HLS.out B1⟩
  · have hbe' : b.toList.isEmpty = false := by simpa using hbe
    have hpos : 0 < b.size := by
      cases hq : b.size with
      | zero => exact absurd (isEmpty_of_size hq) hbe
      | succ n => omega
    clear hbe
    have hsz' : (b.size : Int) ≤ 9223372036854775807 := by omega
    go_enter Tryz.func38, Tryz.ntmps38
    go_upto_region 1 with fail
    rw [← hW1]
    clear hW1
    go_upto_region 21 with (first | (refine wpl_bytes rfl 9 112 5 _ rfl Tryz.underlying9 Tryz.underlying112 Tryz.underlying5 b rfl ?_; intro cap W hcap hcell hfz hbW hszW) | fail)
    have HC := Hid.mk hcell
    have HF := Hid.mk hfz
    have HB := Hid.mk (below_lift B1 B1.size hbW)
    obtain ⟨f0, f1, f2, f3, f4, f5⟩ := op_cells (op_below R1.out hbW)
    have hszl : W1.heap.size < W.heap.size := by omega
    clear hcell hfz hbW hcap f0 f2 f4 f5 u0 u1 u3 k4 hszW
    generalize hgB : W1.heap.size = gB at *
    go_cut [10] from 118 (fun v wx => v = .slice (some ⟨gB, 0, none⟩) b.size cap ∧ ∃ F : Nat → Int, Hid (∀ i, i < b.size → wx.cell? ⟨gB, i, none⟩ = some (.int .u8 (F i))) ∧ Hid (Below w.heap.size w wx))
    case first =>
      go_region_with (go_at_call 43; refine (pick_any A b.size hpos hA1 hA2 hsz _).mono ?_; rintro e W2 ⟨k, rfl, hk, rfl⟩; (have y1 := HC.out k hk); (have y2 := HF.out k hk); (have y3 : (k : Int) < b.size := (by omega)))
      all_goals go_wp2_with fail
      all_goals go_meet
      all_goals exact ⟨rfl, _, turned HC.out hk, Hid.mk (HB.out.setCell (p := ⟨gB, _, none⟩) (by show w.heap.size ≤ gB; omega) _).drew⟩
    case rest =>
      obtain ⟨rfl, F, hc, hb⟩ := hcut
      have HL := Hid.mk ((HLS.out).below hb.out)
      obtain ⟨vp', vm', L', M', a', b', hx, hx1, hx2⟩ := HL.out
      have HX := Hid.mk hx
      have k4c := HX.out.c4
      have z4c := HX.out.z 4 (by omega)
      clear hx
      go_wp2_with (first | (refine wpl_string rfl 112 9 5 _ rfl Tryz.underlying112 Tryz.underlying5 Tryz.underlying9 gB b.size cap rfl F hc.out ?_) | fail)
      go_ret
      obtain ⟨g1, g2⟩ := HX.out.state (bstr b.size F) (by rw [bstr_size]; exact hsz)
      exact ⟨rfl, (Nxt.of g2 g1 hx1 hx2).pre hb.out⟩
end
end Go.Proofs.YteghoooelgcpkaaGreatDoor
