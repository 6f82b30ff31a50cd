/- The walks of the statement's own world: Wait and Start on both sides. -/
import Derived.Test.YtogkchcclcbobaaLw1
import Derived.Deep.RegionWith
import Derived.Deep.Cut
namespace Go.Proofs.Ytogkchcclcbobaa
open Go.RowKit Go.Msg
set_option maxHeartbeats 2000000 in
theorem waited_any (g : Nat) (s t : ByteArray) (w : World) :
    Calls Try.prog 13 #[.pointer (some ⟨g, 0, none⟩), .string s, .string t] w fun e w' => e = .returned (.bool false) ∧ Below w.heap.size w w' := by
  by_cases hs : s.size = 32
  · have hs1 : (s.size : Int) = 32 := by omega
    by_cases ht : t.size = 32
    · have ht1 : (t.size : Int) = 32 := by omega
      go_enter Try.func13, Try.ntmps13
      go_wp2_with (first
        | (go_at_call 29; refine (swait_any s t _).mono ?_; rintro e W1 ⟨rfl, rfl⟩)
        | (go_at_call 30; refine (rwait_any s t ht _).mono ?_; rintro e W2 ⟨c, rfl, hc1, hc2, hb⟩)
        | (refine wpl_store rtSide rfl _ _ rfl W2.heap.size rfl c rfl ?_ hc1 hc2 _ rfl ?_; (focus (rw [rowOf_new _ _ _ _ rfl]; rfl)))
        | fail)
      go_ret
      exact ⟨rfl, hb.alloc hb.size _⟩
    · have ht1 : ((t.size : Int) != 32) = true := by simp; omega
      go_enter Try.func13, Try.ntmps13
      go_wp2_with (go_at_call 29; refine (swait_any s t _).mono ?_; rintro e W1 ⟨rfl, rfl⟩)
      go_ret
      exact ⟨rfl, Below.refl _ _⟩
  · have hs1 : ((s.size : Int) != 32) = true := by simp; omega
    go_enter Try.func13, Try.ntmps13
    go_wp2_with (go_at_call 29; refine (swait_any s t _).mono ?_; rintro e W1 ⟨rfl, rfl⟩)
    go_ret
    exact ⟨rfl, Below.refl _ _⟩
theorem below_sets {B : Nat} {a w : World} {g : Nat} (h : Below B a w) (hg : B ≤ g) (v0 v1 v2 v3 v4 v5 v6 v7 v8 v9 vA vB : Value) :
    Below B a ((((((((((((w.setCell ⟨g, 0, none⟩ v0).setCell ⟨g, 1, none⟩ v1).setCell ⟨g, 2, none⟩ v2).setCell ⟨g, 3, none⟩ v3).setCell ⟨g, 4, none⟩ v4).setCell ⟨g, 5, none⟩ v5).setCell ⟨g, 6, none⟩ v6).setCell ⟨g, 7, none⟩ v7).setCell ⟨g, 8, none⟩ v8).setCell ⟨g, 9, none⟩ v9).setCell ⟨g, 10, none⟩ vA).setCell ⟨g, 11, none⟩ vB) :=
  (((((((((((h.setCell (p := ⟨g, 0, none⟩) hg v0).setCell (p := ⟨g, 1, none⟩) hg v1).setCell (p := ⟨g, 2, none⟩) hg v2).setCell (p := ⟨g, 3, none⟩) hg v3).setCell (p := ⟨g, 4, none⟩) hg v4).setCell (p := ⟨g, 5, none⟩) hg v5).setCell (p := ⟨g, 6, none⟩) hg v6).setCell (p := ⟨g, 7, none⟩) hg v7).setCell (p := ⟨g, 8, none⟩) hg v8).setCell (p := ⟨g, 9, none⟩) hg v9).setCell (p := ⟨g, 10, none⟩) hg vA).setCell (p := ⟨g, 11, none⟩) hg vB
theorem side_cells {W : World} {g : Nat} (r : W.rowOf g = side0) :
    (W.cell? ⟨g, 0, none⟩ = some (.string ⟨#[]⟩) ∧ W.cell? ⟨g, 1, none⟩ = some (.string ⟨#[]⟩) ∧ W.cell? ⟨g, 2, none⟩ = some (.string ⟨#[]⟩) ∧ W.cell? ⟨g, 3, none⟩ = some (.string ⟨#[]⟩) ∧ W.cell? ⟨g, 4, none⟩ = some (.string ⟨#[]⟩) ∧ W.cell? ⟨g, 5, none⟩ = some (.string ⟨#[]⟩) ∧ W.cell? ⟨g, 6, none⟩ = some (.int .i64 0) ∧ W.cell? ⟨g, 7, none⟩ = some (.int .i64 0) ∧ W.cell? ⟨g, 8, none⟩ = some (.int .i64 0) ∧ W.cell? ⟨g, 9, none⟩ = some (.slice none 0 0) ∧ W.cell? ⟨g, 10, none⟩ = some (.slice none 0 0) ∧ W.cell? ⟨g, 11, none⟩ = some (.slice none 0 0)) ∧
    (W.frozen? ⟨g, 0, none⟩ = false ∧ W.frozen? ⟨g, 1, none⟩ = false ∧ W.frozen? ⟨g, 2, none⟩ = false ∧ W.frozen? ⟨g, 3, none⟩ = false ∧ W.frozen? ⟨g, 4, none⟩ = false ∧ W.frozen? ⟨g, 5, none⟩ = false ∧ W.frozen? ⟨g, 6, none⟩ = false ∧ W.frozen? ⟨g, 7, none⟩ = false ∧ W.frozen? ⟨g, 8, none⟩ = false ∧ W.frozen? ⟨g, 9, none⟩ = false ∧ W.frozen? ⟨g, 10, none⟩ = false ∧ W.frozen? ⟨g, 11, none⟩ = false) :=
  ⟨⟨rowcell r 0 _ rfl, rowcell r 1 _ rfl, rowcell r 2 _ rfl, rowcell r 3 _ rfl, rowcell r 4 _ rfl, rowcell r 5 _ rfl, rowcell r 6 _ rfl, rowcell r 7 _ rfl, rowcell r 8 _ rfl, rowcell r 9 _ rfl, rowcell r 10 _ rfl, rowcell r 11 _ rfl⟩,
   ⟨rowfz r 0 (by decide), rowfz r 1 (by decide), rowfz r 2 (by decide), rowfz r 3 (by decide), rowfz r 4 (by decide), rowfz r 5 (by decide), rowfz r 6 (by decide), rowfz r 7 (by decide), rowfz r 8 (by decide), rowfz r 9 (by decide), rowfz r 10 (by decide), rowfz r 11 (by decide)⟩⟩
set_option maxHeartbeats 4000000 in
theorem started_any {w0 w : World} {g : Nat} {p : Value} {a b : ByteArray} (h : LW w0 g p w a b) (s t : ByteArray) :
    Calls Try.prog 12 #[.pointer (some ⟨g, 0, none⟩), .string s, .string t] w fun e w' => e = .returned (.bool false) ∧ Below w.heap.size w w' := by
  have k0 := h.c0
  have k3 := h.c3
  have hlt := h.lt
  by_cases hs : s.size = 32
  · have hs1 : (s.size : Int) = 32 := by omega
    by_cases ha : a.size = 32
    · have ha1 : (a.size : Int) = 32 := by omega
      by_cases ht : t.size = 32
      · have ht1 : (t.size : Int) = 32 := by omega
        have hp : PrimAt w p := h.prim
        have HP : Hid (PrimAt w p) := hp
        clear hp
        go_enter Try.func12, Try.ntmps12
        go_upto_region 4 with (go_at_call 26; refine (sstart_any _ _ _ _).mono ?_; rintro e W1 ⟨rfl, rfl⟩)
        go_cut [9, 10] from 43 (fun _ v wx => (∃ q, v = .bool q) ∧ Below W1.heap.size W1 wx)
        case first =>
          go_region_with (go_at_call 27; refine (pstart_any _ s a t hs ha ht _ (by first | exact HP.out.below (Below.refl _ _).drew | exact HP.out.below (by_alloc _ _).drew)).mono ?_; rintro e W2 ⟨c0, c1, c2, c3, c4, c5, n0, n1, n2, q, rfl, hb⟩; (first | (have B : Below W1.heap.size W1 W2 := below_lift (Below.refl _ _).drew (Nat.le_refl _) hb) | (have B : Below W1.heap.size W1 W2 := below_lift (by_alloc _ _).drew (by simp) hb)); (try ((have r1 : ((W1.alloc (.cells side0 50)).drew).rowOf W1.heap.size = side0 := rowOf_new W1 side0 _ _ rfl); (have r2 : W2.rowOf W1.heap.size = side0 := (by rw [below_row hb (by (show 0 < (((W1.alloc (.cells side0 50)).drew).rowOf W1.heap.size).size); rw [r1]; exact Nat.succ_pos 11)]; exact r1)); obtain ⟨⟨k0', k1', k2', k3', k4', k5', k6', k7', k8', k9', kA', kB'⟩, ⟨z0', z1', z2', z3', z4', z5', z6', z7', z8', z9', zA', zB'⟩⟩ := side_cells r2)))
          all_goals go_wp2_with fail
          all_goals go_meet
          all_goals refine ⟨⟨q, rfl⟩, ?_⟩
          all_goals first
            | with_reducible exact below_sets B (Nat.le_refl _) _ _ _ _ _ _ _ _ _ _ _ _
            | with_reducible exact Below.alloc B B.size _
        case rest =>
          obtain ⟨⟨q, rfl⟩, B⟩ := hcut
          cases q with
          | true =>
            go_wp2
            go_ret
            exact ⟨rfl, B⟩
          | false =>
            go_wp2
            go_ret
            exact ⟨rfl, B⟩
      · have ht1 : ((t.size : Int) != 32) = true := by simp; omega
        go_enter Try.func12, Try.ntmps12
        go_wp2_with (go_at_call 26; refine (sstart_any _ _ _ _).mono ?_; rintro e W1 ⟨rfl, rfl⟩)
        go_ret
        exact ⟨rfl, Below.refl _ _⟩
    · have ha1 : ((a.size : Int) != 32) = true := by simp; omega
      go_enter Try.func12, Try.ntmps12
      go_wp2_with (go_at_call 26; refine (sstart_any _ _ _ _).mono ?_; rintro e W1 ⟨rfl, rfl⟩)
      go_ret
      exact ⟨rfl, Below.refl _ _⟩
  · have hs1 : ((s.size : Int) != 32) = true := by simp; omega
    go_enter Try.func12, Try.ntmps12
    go_wp2_with (go_at_call 26; refine (sstart_any _ _ _ _).mono ?_; rintro e W1 ⟨rfl, rfl⟩)
    go_ret
    exact ⟨rfl, Below.refl _ _⟩
end Go.Proofs.Ytogkchcclcbobaa
