import Derived.Test.YteghoooelgcpkabGreatDoorM13
import Derived.Test.YteghoooelgcpkabGreatDoorM14
namespace Go.Msg
open Go.RowKit Go.Proofs.YteghoooelgcpkabGreatDoor
structure Pt where
  point : ByteArray
  head : ByteArray
  turned : ByteArray
  tag : ByteArray
  ahead : Nat
  n : Nat
def u16F (m : ByteArray) (i : Nat) : Nat := (numF (sb (m.extract i (i + 2))) 2).toNat
theorem u16F_int (m : ByteArray) (i : Nat) : numF (sb (m.extract i (i + 2))) 2 = (u16F m i : Int) ∧ u16F m i < 65536 := by
  have := numF_bd (b := sb (m.extract i (i + 2))) (sb_B8 _) 2
  simp at this
  unfold u16F; omega
def ptF (m : ByteArray) : Pt := ⟨m.extract 2 34, m.extract 0 38, m.extract 40 (40 + u16F m 38), m.extract (40 + u16F m 38) m.size, u16F m 34, u16F m 36⟩
def IsMsg (m : ByteArray) : Prop := 72 ≤ m.size ∧ m.extract 0 2 = sRM ∧ u16F m 38 ≤ 200 ∧ m.size = 72 + u16F m 38 ∧ u16F m 34 ≤ 300 ∧ u16F m 36 < 300
instance (m : ByteArray) : Decidable (IsMsg m) := by unfold IsMsg; infer_instance
end Go.Msg
namespace Go.Proofs.YteghoooelgcpkabGreatDoor
open Go.RowKit Go.Msg
def partsC (p : Pt) : Array Value := #[.string p.point, .string p.head, .string p.turned, .string p.tag, .int .i64 (p.ahead : Int), .int .i64 (p.n : Int)]
theorem rtParts : RowTy Tryz.prog 137 6 := ⟨by decide, by kernel_rfl, _, Tryz.underlying137, rfl⟩
theorem sRM_list : sRM.toList = [82, 77] := by rw [ByteArray.toList_eq]; rfl
theorem parts_six {w W : World} {z0 z1 z2 z3 z4 z5 : Value} (h : W.rowOf w.heap.size = #[z0, z1, z2, z3, z4, z5]) (hB : Below w.heap.size w W) (hs : w.heap.size < W.heap.size) (v0 v1 v2 v3 v4 v5 : Value) (o : Obj) (q : Nat) :
    ((((((((W.setCell ⟨w.heap.size, 0, none⟩ v0).setCell ⟨w.heap.size, 1, none⟩ v1).setCell ⟨w.heap.size, 2, none⟩ v2).setCell ⟨w.heap.size, 3, none⟩ v3).setCell ⟨w.heap.size, 4, none⟩ v4).setCell ⟨w.heap.size, 5, none⟩ v5).alloc o).drewN q).rowOf w.heap.size = #[v0, v1, v2, v3, v4, v5] ∧
    Below w.heap.size w ((((((((W.setCell ⟨w.heap.size, 0, none⟩ v0).setCell ⟨w.heap.size, 1, none⟩ v1).setCell ⟨w.heap.size, 2, none⟩ v2).setCell ⟨w.heap.size, 3, none⟩ v3).setCell ⟨w.heap.size, 4, none⟩ v4).setCell ⟨w.heap.size, 5, none⟩ v5).alloc o).drewN q) := by
  have r0 := row_set2 h (by show 0 < 6; decide) 0 v0
  have r1 := row_set2 r0 (by show 0 < 6; decide) 1 v1
  have r2 := row_set2 r1 (by show 0 < 6; decide) 2 v2
  have r3 := row_set2 r2 (by show 0 < 6; decide) 3 v3
  have r4 := row_set2 r3 (by show 0 < 6; decide) 4 v4
  have r5 := row_set2 r4 (by show 0 < 6; decide) 5 v5
  have b5 := sayB (sayB (sayB (sayB (sayB (sayB hB 0 v0) 1 v1) 2 v2) 3 v3) 4 v4) 5 v5
  generalize hV : (((((W.setCell ⟨w.heap.size, 0, none⟩ v0).setCell ⟨w.heap.size, 1, none⟩ v1).setCell ⟨w.heap.size, 2, none⟩ v2).setCell ⟨w.heap.size, 3, none⟩ v3).setCell ⟨w.heap.size, 4, none⟩ v4).setCell ⟨w.heap.size, 5, none⟩ v5 = V at r5 b5 ⊢
  have hsz : w.heap.size < V.heap.size := by rw [← hV]; simpa using hs
  refine ⟨?_, below_drewN (b5.alloc (by omega) _) q⟩
  show (V.alloc o).rowOf w.heap.size = _
  rw [below_row_lt (by_alloc V o) hsz, r5]; rfl
set_option maxRecDepth 4000 in
set_option maxHeartbeats 4000000 in
theorem split_main (m : ByteArray) (n a k : Nat) (hm : m.size = 72 + n) (hn : n ≤ 200) (hr : m.extract 0 2 = sRM) (hN : n = u16F m 38) (hA : a = u16F m 34) (hK : k = u16F m 36) (w : World) :
    Calls Tryz.prog 90 #[.string m] w fun e w' => e = .returned (.tuple #[.agg #[.string (m.extract 2 34), .string (m.extract 0 38), .string (m.extract 40 (40 + n)), .string (m.extract (40 + n) m.size), .int .i64 (a : Int), .int .i64 (k : Int)], .bool (decide (a ≤ 300) && decide (k < 300))]) ∧ Below w.heap.size w w' := by
  have ce : (m.extract 0 2).toList = [82, 77] := by rw [hr, sRM_list]
  have cb : ((m.extract 0 2).toList == [82, 77]) = true := by rw [ce]; rfl
  have HNV : Hid (numF (sb (m.extract 38 40)) 2 = (n : Int)) := Hid.mk (by rw [hN]; exact (u16F_int m 38).1)
  have HAV : Hid (numF (sb (m.extract 34 36)) 2 = (a : Int)) := Hid.mk (by rw [hA]; exact (u16F_int m 34).1)
  have HKV : Hid (numF (sb (m.extract 36 38)) 2 = (k : Int)) := Hid.mk (by rw [hK]; exact (u16F_int m 36).1)
  have la : a < 65536 := by rw [hA]; exact (u16F_int m 34).2
  have lk : k < 65536 := by rw [hK]; exact (u16F_int m 36).2
  clear hN hA hK hr
  have x38 : (m.extract 38 40).size = 2 := ext_size (by omega)
  have x34 : (m.extract 34 36).size = 2 := ext_size (by omega)
  have x36 : (m.extract 36 38).size = 2 := ext_size (by omega)
  have c1 : ¬ (m.size : Int) < 72 := by omega
  have c2 : (2 : Int) ≤ m.size := by omega
  have c40 : (40 : Int) ≤ m.size := by omega
  have d1 : ¬ (n : Int) > 200 := by omega
  have d3 : ((m.size : Int) != 40 + (n : Int) + 32) = false := by simp; omega
  have HM := Hid.mk hm
  have hms : (m.size : Int) ≤ 300 := by omega
  have dn : (n : Int) ≤ 200 := by omega
  have dI : (40 + (n : Int)).toNat = 40 + n := by omega
  have dW : IntKind.i64.wrap (40 + (n : Int)) = 40 + (n : Int) := by rw [IntKind.wrap_i64]; omega
  have dL : 40 + (n : Int) ≤ m.size := by omega
  have d0 : (0 : Int) ≤ 40 + (n : Int) := by omega
  have d4 : (40 : Int) ≤ 40 + (n : Int) := by omega
  have d34 : (34 : Int) ≤ m.size := by omega
  have d38 : (38 : Int) ≤ m.size := by omega
  clear hm
  go_enter Tryz.func90, Tryz.ntmps90
  go_wp2_with (first | (go_at_call 120; refine (value_any (m.extract 38 40) x38 _).mono ?_; rintro e w1 ⟨rfl, q, rfl⟩; rw [HNV.out]) | fail)
  refine wp_region_pure 13 (by decide) mixed_any (by kernel_rfl) (by kernel_rfl) (fun c a a' W h hq => ?hQ) ?_
  case hQ => exact And.intro (h.symm.trans hq.1) hq.2
  simp only [List.take_succ_cons, List.take_zero, List.drop_succ_cons, List.drop_zero]
  refine pure_move rfl _ rfl (.string m) rfl ?_
  simp only [Act.put, List.setIfInBounds_toArray, List.set_cons_succ, List.set_cons_zero]
  refine pure_slice_lh rfl 9 _ _ _ rfl Tryz.underlying9 m (2) (34) rfl rfl rfl (by omega) (by omega) (by omega) ?_
  rw [show m.extract (2 : Int).toNat (34 : Int).toNat = m.extract 2 34 from by first | rfl | rw [dI]; rfl]
  simp only [Act.put, List.setIfInBounds_toArray, List.set_cons_succ, List.set_cons_zero]
  refine pure_move rfl _ rfl (.string m) rfl ?_
  simp only [Act.put, List.setIfInBounds_toArray, List.set_cons_succ, List.set_cons_zero]
  refine pure_slice_h rfl 9 _ _ rfl Tryz.underlying9 m 38 rfl rfl (by omega) (by omega) ?_
  rw [show m.extract 0 (38 : Int).toNat = m.extract 0 38 from rfl]
  simp only [Act.put, List.setIfInBounds_toArray, List.set_cons_succ, List.set_cons_zero]
  refine pure_move rfl _ rfl (.string m) rfl ?_
  simp only [Act.put, List.setIfInBounds_toArray, List.set_cons_succ, List.set_cons_zero]
  refine pure_move rfl _ rfl (.int .i64 (n : Int)) rfl ?_
  simp only [Act.put, List.setIfInBounds_toArray, List.set_cons_succ, List.set_cons_zero]
  refine pure_add rfl _ _ _ _ rfl 40 (n : Int) rfl rfl dW ?_
  simp only [Act.put, List.setIfInBounds_toArray, List.set_cons_succ, List.set_cons_zero]
  refine pure_slice_lh rfl 9 _ _ _ rfl Tryz.underlying9 m (40) (40 + (n : Int)) rfl rfl rfl (by omega) (by omega) (by omega) ?_
  rw [show m.extract (40 : Int).toNat (40 + (n : Int) : Int).toNat = m.extract 40 (40 + n) from by first | rfl | rw [dI]; rfl]
  simp only [Act.put, List.setIfInBounds_toArray, List.set_cons_succ, List.set_cons_zero]
  refine pure_move rfl _ rfl (.string m) rfl ?_
  simp only [Act.put, List.setIfInBounds_toArray, List.set_cons_succ, List.set_cons_zero]
  refine pure_move rfl _ rfl (.int .i64 (n : Int)) rfl ?_
  simp only [Act.put, List.setIfInBounds_toArray, List.set_cons_succ, List.set_cons_zero]
  refine pure_add rfl _ _ _ _ rfl 40 (n : Int) rfl rfl dW ?_
  simp only [Act.put, List.setIfInBounds_toArray, List.set_cons_succ, List.set_cons_zero]
  refine pure_slice_l rfl 9 _ _ rfl Tryz.underlying9 m (40 + (n : Int)) rfl rfl (by omega) (by omega) ?_
  rw [dI]
  simp only [Act.put, List.setIfInBounds_toArray, List.set_cons_succ, List.set_cons_zero]
  refine pure_build rfl _ _ rfl #[(0, .string (m.extract 2 34)), (1, .string (m.extract 0 38)), (2, .string (m.extract 40 (40 + n))), (3, .string (m.extract (40 + n) m.size))] (by simp only [List.map_toArray, List.map_cons, List.map_nil]; rfl) (.agg #[.string (m.extract 2 34), .string (m.extract 0 38), .string (m.extract 40 (40 + n)), .string (m.extract (40 + n) m.size), .int .i64 0, .int .i64 0]) (fun W => by simp [go_sem]) ?_
  simp only [Act.put, List.setIfInBounds_toArray, List.set_cons_succ, List.set_cons_zero]
  simp only [wpPure]
  have R1 : (((w.alloc (.cells #[.string ⟨#[]⟩, .string ⟨#[]⟩, .string ⟨#[]⟩, .string ⟨#[]⟩, .int .i64 0, .int .i64 0] 137)).drewN q).drew).rowOf w.heap.size = #[.string ⟨#[]⟩, .string ⟨#[]⟩, .string ⟨#[]⟩, .string ⟨#[]⟩, .int .i64 0, .int .i64 0] := by simp [go_sem]
  have B1 : Below w.heap.size w (((w.alloc (.cells #[.string ⟨#[]⟩, .string ⟨#[]⟩, .string ⟨#[]⟩, .string ⟨#[]⟩, .int .i64 0, .int .i64 0] 137)).drewN q).drew) := (below_drewN (by_alloc w _) q).drew
  have s1 : w.heap.size < (((w.alloc (.cells #[.string ⟨#[]⟩, .string ⟨#[]⟩, .string ⟨#[]⟩, .string ⟨#[]⟩, .int .i64 0, .int .i64 0] 137)).drewN q).drew).heap.size := by show w.heap.size < (w.heap.push _).size; simp
  generalize ((w.alloc (.cells #[.string ⟨#[]⟩, .string ⟨#[]⟩, .string ⟨#[]⟩, .string ⟨#[]⟩, .int .i64 0, .int .i64 0] 137)).drewN q).drew = W1 at R1 B1 s1 ⊢
  have HR1 := Hid.mk R1
  clear R1
  have x2 : ∃ s, s = m.extract 2 34 := ⟨_, rfl⟩
  have x0 : ∃ s, s = m.extract 0 38 := ⟨_, rfl⟩
  have x4 : ∃ s, s = m.extract 40 (40 + n) := ⟨_, rfl⟩
  have x5 : ∃ s, s = m.extract (40 + n) m.size := ⟨_, rfl⟩
  obtain ⟨t2, ht2⟩ := x2
  obtain ⟨t0, ht0⟩ := x0
  obtain ⟨t4, ht4⟩ := x4
  obtain ⟨t5, ht5⟩ := x5
  rw [← ht2, ← ht0, ← ht4, ← ht5]
  have HT2 := Hid.mk ht2
  have HT0 := Hid.mk ht0
  have HT4 := Hid.mk ht4
  have HT5 := Hid.mk ht5
  clear ht2 ht0 ht4 ht5
  go_wp2_with (first
    | (go_at_call 120; have M := value_any (m.extract 34 36) x34 (W1.alloc (.cells #[.string t2, .string t0, .string t4, .string t5, .int .i64 0, .int .i64 0] 137)); with_reducible refine M.mono ?_; clear M; rintro e w1 ⟨rfl, q1, rfl⟩; rw [HAV.out])
    | (go_at_call 120; have M := value_any (m.extract 36 38) x36 ((W1.alloc (.cells #[.string t2, .string t0, .string t4, .string t5, .int .i64 (a : Int), .int .i64 0] 137)).drewN q1); with_reducible refine M.mono ?_; clear M; rintro e w1 ⟨rfl, q2, rfl⟩; rw [HKV.out]) | fail)
  have y0 := rowcell HR1.out 0 (.string ⟨#[]⟩) rfl
  have y1 := rowcell HR1.out 1 (.string ⟨#[]⟩) rfl
  have y2 := rowcell HR1.out 2 (.string ⟨#[]⟩) rfl
  have y3 := rowcell HR1.out 3 (.string ⟨#[]⟩) rfl
  have y4 := rowcell HR1.out 4 (.int .i64 0) rfl
  have y5 := rowcell HR1.out 5 (.int .i64 0) rfl
  have z0 := rowfz2 HR1.out 0 (by decide)
  have z1 := rowfz2 HR1.out 1 (by decide)
  have z2 := rowfz2 HR1.out 2 (by decide)
  have z3 := rowfz2 HR1.out 3 (by decide)
  have z4 := rowfz2 HR1.out 4 (by decide)
  have z5 := rowfz2 HR1.out 5 (by decide)
  by_cases ha3 : a ≤ 300
  · have ca : (a : Int) ≤ 300 := by omega
    by_cases hk3 : k < 300
    · have ck : (k : Int) < 300 := by omega
      have HD : Hid ((decide (a ≤ 300) && decide (k < 300)) = true) := Hid.mk (by simp [ha3, hk3])
      clear ha3 hk3
      go_region
      obtain ⟨R3, B3⟩ := parts_six HR1.out B1 s1 (.string t2) (.string t0) (.string t4) (.string t5) (.int .i64 (a : Int)) (.int .i64 (k : Int)) (.cells #[.string t2, .string t0, .string t4, .string t5, .int .i64 (a : Int), .int .i64 (k : Int)] 137) (q1 + q2 + 1)
      go_wp2
      refine bodyPost_ret (results_row_tmp rtParts Tryz.results90 _ _ w.heap.size rfl ?_) rfl ?_
      · rw [R3]; rfl
      · rw [R3]; exact ⟨by rw [HD.out, HT2.out, HT0.out, HT4.out, HT5.out]; rfl, B3⟩
    · have ck : ¬ (k : Int) < 300 := by omega
      have HD : Hid ((decide (a ≤ 300) && decide (k < 300)) = false) := Hid.mk (by simp [hk3])
      clear ha3 hk3
      go_region
      obtain ⟨R3, B3⟩ := parts_six HR1.out B1 s1 (.string t2) (.string t0) (.string t4) (.string t5) (.int .i64 (a : Int)) (.int .i64 (k : Int)) (.cells #[.string t2, .string t0, .string t4, .string t5, .int .i64 (a : Int), .int .i64 (k : Int)] 137) (q1 + q2 + 1)
      go_wp2
      refine bodyPost_ret (results_row_tmp rtParts Tryz.results90 _ _ w.heap.size rfl ?_) rfl ?_
      · rw [R3]; rfl
      · rw [R3]; exact ⟨by rw [HD.out, HT2.out, HT0.out, HT4.out, HT5.out]; rfl, B3⟩
  · have ca : ¬ (a : Int) ≤ 300 := by omega
    have HD : Hid ((decide (a ≤ 300) && decide (k < 300)) = false) := Hid.mk (by simp [ha3])
    clear ha3
    go_region
    obtain ⟨R3, B3⟩ := parts_six HR1.out B1 s1 (.string t2) (.string t0) (.string t4) (.string t5) (.int .i64 (a : Int)) (.int .i64 (k : Int)) (.cells #[.string t2, .string t0, .string t4, .string t5, .int .i64 (a : Int), .int .i64 (k : Int)] 137) (q1 + q2 + 1)
    go_wp2
    refine bodyPost_ret (results_row_tmp rtParts Tryz.results90 _ _ w.heap.size rfl ?_) rfl ?_
    · rw [R3]; rfl
    · rw [R3]; exact ⟨by rw [HD.out, HT2.out, HT0.out, HT4.out, HT5.out]; rfl, B3⟩
set_option maxRecDepth 4000 in
set_option maxHeartbeats 4000000 in
theorem split_f (m : ByteArray) (hm : m.size ≤ 9223372036854775807) (w : World) :
    Calls Tryz.prog 90 #[.string m] w fun e w' => ((IsMsg m ∧ e = .returned (.tuple #[.agg (partsC (ptF m)), .bool true])) ∨ (¬ IsMsg m ∧ ∃ c, e = .returned (.tuple #[.agg c, .bool false]) ∧ c.size = 6)) ∧ Below w.heap.size w w' := by
  by_cases h72 : m.size < 72
  · have c1 : (m.size : Int) < 72 := by omega
    have HN : Hid (¬ IsMsg m) := Hid.mk (fun h => by have := h.1; omega)
    clear h72
    go_enter Tryz.func90, Tryz.ntmps90
    go_wp2
    refine bodyPost_ret (results_row_tmp rtParts Tryz.results90 _ _ w.heap.size rfl ?_) rfl ?_
    · simp [go_sem]
    · exact ⟨Or.inr ⟨HN.out, _, rfl, by simp [go_sem]⟩, by_alloc w _⟩
  · have c1 : ¬ (m.size : Int) < 72 := by omega
    have c2 : (2 : Int) ≤ m.size := by omega
    by_cases hrm : m.extract 0 2 = sRM
    · have ce : (m.extract 0 2).toList = [82, 77] := by rw [hrm, sRM_list]
      have cb : ((m.extract 0 2).toList == [82, 77]) = true := by rw [ce]; rfl
      have HRM := Hid.mk hrm
      obtain ⟨n, hn⟩ : ∃ n, n = u16F m 38 := ⟨_, rfl⟩
      have HNV : Hid (numF (sb (m.extract 38 40)) 2 = (n : Int)) := Hid.mk (by rw [hn]; exact (u16F_int m 38).1)
      have hnl : n < 65536 := by rw [hn]; exact (u16F_int m 38).2
      have c40 : (40 : Int) ≤ m.size := by omega
      have x38 : (m.extract 38 40).size = 2 := ext_size (by omega)
      have HNN := Hid.mk hn
      clear hrm hn
      by_cases hbad : n > 200 ∨ m.size ≠ 72 + n
      · have HN : Hid (¬ IsMsg m) := Hid.mk (fun h => by have h3 := h.2.2.1; have h4 := h.2.2.2.1; rw [← HNN.out] at h3 h4; omega)
        by_cases h200 : n > 200
        · have d1 : (n : Int) > 200 := by omega
          go_enter Tryz.func90, Tryz.ntmps90
          go_wp2_with (first | (go_at_call 120; refine (value_any (m.extract 38 40) x38 _).mono ?_; rintro e w1 ⟨rfl, q, rfl⟩; rw [HNV.out]) | fail)
          refine bodyPost_ret (results_row_tmp rtParts Tryz.results90 _ _ w.heap.size rfl ?_) rfl ?_
          · simp [go_sem]
          · exact ⟨Or.inr ⟨HN.out, _, rfl, by simp [go_sem]⟩, below_drewN (by_alloc w _) _⟩
        · have d1 : ¬ (n : Int) > 200 := by omega
          have d2 : ((m.size : Int) != 40 + (n : Int) + 32) = true := by simp; omega
          have d3 : ¬ (m.size : Int) = 40 + (n : Int) + 32 := by omega
          have dn : (n : Int) ≤ 200 := by omega
          go_enter Tryz.func90, Tryz.ntmps90
          go_wp2_with (first | (go_at_call 120; refine (value_any (m.extract 38 40) x38 _).mono ?_; rintro e w1 ⟨rfl, q, rfl⟩; rw [HNV.out]) | fail)
          refine bodyPost_ret (results_row_tmp rtParts Tryz.results90 _ _ w.heap.size rfl ?_) rfl ?_
          · simp [go_sem]
          · exact ⟨Or.inr ⟨HN.out, _, rfl, by simp [go_sem]⟩, below_drewN (by_alloc w _) _⟩
      · have hm2 : m.size = 72 + n := by omega
        refine (split_main m n (u16F m 34) (u16F m 36) hm2 (by omega) HRM.out HNN.out rfl rfl w).mono fun e w' h => ⟨?_, h.2⟩
        obtain ⟨he, _⟩ := h
        have HP : partsC (ptF m) = #[.string (m.extract 2 34), .string (m.extract 0 38), .string (m.extract 40 (40 + n)), .string (m.extract (40 + n) m.size), .int .i64 (u16F m 34 : Int), .int .i64 (u16F m 36 : Int)] := by rw [HNN.out]; rfl
        by_cases hok : u16F m 34 ≤ 300 ∧ u16F m 36 < 300
        · left
          refine ⟨⟨by omega, HRM.out, by rw [← HNN.out]; omega, by rw [← HNN.out]; exact hm2, hok.1, hok.2⟩, ?_⟩
          rw [he, HP]; simp [hok.1, hok.2]
        · right
          have : (decide (u16F m 34 ≤ 300) && decide (u16F m 36 < 300)) = false := by
            by_cases h1 : u16F m 34 ≤ 300
            · have h2 : ¬ u16F m 36 < 300 := fun h => hok ⟨h1, h⟩
              simp [h2]
            · simp [h1]
          rw [this] at he
          exact ⟨fun h => hok ⟨h.2.2.2.2.1, h.2.2.2.2.2⟩, _, he, rfl⟩
    · have ce : ¬ (m.extract 0 2).toList = [82, 77] := fun e => hrm (toList_inj.1 (by rw [e, sRM_list]))
      have cb : ((m.extract 0 2).toList == [82, 77]) = false := by simpa using ce
      have HN : Hid (¬ IsMsg m) := Hid.mk (fun h => hrm h.2.1)
      clear hrm
      go_enter Tryz.func90, Tryz.ntmps90
      go_wp2
      refine bodyPost_ret (results_row_tmp rtParts Tryz.results90 _ _ w.heap.size rfl ?_) rfl ?_
      · simp [go_sem]
      · exact ⟨Or.inr ⟨HN.out, _, rfl, by simp [go_sem]⟩, by_alloc w _⟩
end Go.Proofs.YteghoooelgcpkabGreatDoor
