import Derived.Test.YteghoooelgcpkaaGreatDoorM34
namespace Go.Proofs.YteghoooelgcpkaaGreatDoor
open Go.RowKit Go.Msg
def CutS (w : World) (q : Bool) (c : Array Value) (v9 v10 : Value) (wx : World) : Prop := v10 = .bool q ∧ ∃ g, v9 = .pointer (some ⟨g, 0, none⟩) ∧ w.heap.size ≤ g ∧ wx.rowOf g = c ∧ Below w.heap.size w wx
theorem start_boxB {w ω w' : World} (b1 : Below w.heap.size w ω) (b2 : Below ω.heap.size ω w') (q : Bool) (v0 v1 v2 v3 v4 v5 v6 v7 v8 v9 vA vB : Value) : CutS w q #[v0, v1, v2, v3, v4, v5, v6, v7, v8, v9, vA, vB] (.pointer (some ⟨w'.heap.size, 0, none⟩)) (.bool q) (w'.alloc (.cells #[v0, v1, v2, v3, v4, v5, v6, v7, v8, v9, vA, vB] 55)) := by
  have b := below_lift b1 b1.size b2
  exact ⟨rfl, w'.heap.size, rfl, b.size, rowOf_new2 _ _ _ _ rfl, b.alloc b.size _⟩
theorem start_boxA {w ω w' : World} (b1 : Below w.heap.size w ω) (b2 : Below ω.heap.size ω w') (hω : ω.rowOf w.heap.size = side0) (q : Bool) (v0 v1 v2 v3 v4 v5 v6 v7 v8 v9 vA vB : Value) : CutS w q #[v0, v1, v2, v3, v4, v5, v6, v7, v8, v9, vA, vB] (.pointer (some ⟨w.heap.size, 0, none⟩)) (.bool q) (sets12 w' w.heap.size v0 v1 v2 v3 v4 v5 v6 v7 v8 v9 vA vB) := by
  have b := below_lift b1 b1.size b2
  have hr : w'.rowOf w.heap.size = side0 := (below_row b2 (by rw [hω]; exact side0_pos)).trans hω
  exact ⟨rfl, w.heap.size, rfl, Nat.le_refl _, sets12_row hr side0_size _ _ _ _ _ _ _ _ _ _ _ _, tch_below (sets12_tch w' w.heap.size v0 v1 v2 v3 v4 v5 v6 v7 v8 v9 vA vB) b b.size (Nat.le_refl _)⟩
theorem start_row {w ω w' : World} (b2 : Below ω.heap.size ω w') (hω : ω.rowOf w.heap.size = side0) : w'.rowOf w.heap.size = side0 := (below_row b2 (by rw [hω]; exact side0_pos)).trans hω
set_option maxRecDepth 4000 in
set_option maxHeartbeats 8000000 in
theorem startedL_f {w0 w : World} {gw : Nat} {pv : Value} {ρ : Nat → Nat} {n : Nat} (hs : LWs w0 gw pv n ρ w) (hn : n ≤ 3000000) (s t : ByteArray) :
    Calls Tryz.prog 40 #[.pointer (some ⟨gw, 0, none⟩), .string s, .string t] w fun e w' => e = .returned (.bool true) ∧ Nxt w0 gw pv (n + 1) ρ w w' := by
  have HLS := Hid.mk hs
  obtain ⟨vp, vm, L, M, a, b, h, h1, h2⟩ := hs
  have H := Hid.mk h
  have hlt := h.lt
  have hbl := h.bl.size
  have k3 := h.c3
  have hT := h.tbl
  clear h
  by_cases hg : s.size = 32 ∧ a.size = 32 ∧ t.size = 32
  · obtain ⟨g1, g2, g3⟩ := hg
    have c1 : (s.size : Int) = 32 := by omega
    have c2 : (a.size : Int) = 32 := by omega
    have c3 : (t.size : Int) = 32 := by omega
    have HG := Hid.mk (And.intro g1 (And.intro g2 g3))
    by_cases hz : dhF t a = zeros 32
    · have HM : Hid (Calls Tryz.prog 73 #[.string s, .string a, .string t] w fun e w' => e = .returned (.tuple #[.pointer none, .int .i64 9]) ∧ Below w.heap.size w w') := Hid.mk ((sstart_f s a t g1 g2 g3 w hT).mono (fun e w' q => by
        rcases q.1 with ⟨_, q1⟩ | ⟨q1, _⟩
        · exact ⟨q1, q.2⟩
        · exact absurd hz q1))
      have HHE : Hid (∀ ω : World, PrimAt ω pv → Calls Tryz.prog 74 #[pv, .string s, .string a, .string t] ω fun e w' => e = .returned (.tuple #[.agg #[.string ⟨#[]⟩, .string ⟨#[]⟩, .string ⟨#[]⟩, .string ⟨#[]⟩, .string ⟨#[]⟩, .string ⟨#[]⟩, .int .i64 0, .int .i64 0, .int .i64 0, .slice none 0 0, .slice none 0 0, .slice none 0 0], .bool false]) ∧ Below ω.heap.size ω w') := Hid.mk (fun ω hp => (pstart_f pv s a t g1 g2 g3 ω hp).mono (fun e w' q => by
        rcases q.1 with ⟨_, q1⟩ | ⟨q1, _⟩
        · exact ⟨q1, q.2⟩
        · exact absurd hz q1))
      clear hz hT g1 g2 g3
      go_enter Tryz.func40, Tryz.ntmps40
      go_upto_region 4 with (first
        | (go_at_call 73; with_reducible refine HM.out.mono ?_; rintro e w1 ⟨rfl, b1⟩; have HL1 := Hid.mk (H.out.below b1); have k3' := HL1.out.c3; have k0' := HL1.out.c0; have hl1 := HL1.out.lt; clear k3)
        | fail)
      have HH : Hid (∀ ω : World, Below w1.heap.size w1 ω → Calls Tryz.prog 74 #[pv, .string s, .string a, .string t] ω fun e w' => e = .returned (.tuple #[.agg #[.string ⟨#[]⟩, .string ⟨#[]⟩, .string ⟨#[]⟩, .string ⟨#[]⟩, .string ⟨#[]⟩, .string ⟨#[]⟩, .int .i64 0, .int .i64 0, .int .i64 0, .slice none 0 0, .slice none 0 0, .slice none 0 0], .bool false]) ∧ Below ω.heap.size ω w') := Hid.mk (fun ω bω => HHE.out ω (HL1.out.prim.below bω))
      clear HHE
      go_cut [9, 10] from 43 (fun v9 v10 wx => CutS w1 false #[.string ⟨#[]⟩, .string ⟨#[]⟩, .string ⟨#[]⟩, .string ⟨#[]⟩, .string ⟨#[]⟩, .string ⟨#[]⟩, .int .i64 0, .int .i64 0, .int .i64 0, .slice none 0 0, .slice none 0 0, .slice none 0 0] v9 v10 wx)
      case first =>
        go_region_with (go_at_call 74; first | (have bω := (Below.refl w1.heap.size w1).drew; with_reducible refine (HH.out _ bω).mono ?_; rintro e w2 ⟨rfl, b2⟩) | (have bω := (by_alloc w1 (.cells #[.string ⟨#[]⟩, .string ⟨#[]⟩, .string ⟨#[]⟩, .string ⟨#[]⟩, .string ⟨#[]⟩, .string ⟨#[]⟩, .int .i64 0, .int .i64 0, .int .i64 0, .slice none 0 0, .slice none 0 0, .slice none 0 0] 55)).drew; have hω := side_new w1; with_reducible refine (HH.out _ bω).mono ?_; rintro e w2 ⟨rfl, b2⟩; obtain ⟨⟨k0', k1', k2', k3', k4', k5', k6', k7', k8', k9', kA', kB'⟩, ⟨z0', z1', z2', z3', z4', z5', z6', z7', z8', z9', zA', zB'⟩⟩ := side_cells (start_row b2 hω); have HHW := Hid.mk hω; clear hω))
        all_goals go_wp2_with fail
        all_goals go_meet
        all_goals first
          | with_reducible exact start_boxB bω b2 _ _ _ _ _ _ _ _ _ _ _ _ _
          | with_reducible exact start_boxA bω b2 HHW.out _ _ _ _ _ _ _ _ _ _ _ _ _
      case rest =>
        obtain ⟨rfl, g, rfl, hg, hrow, hb⟩ := hcut
        clear hrow
        go_wp2_with fail
        go_ret
        exact ⟨rfl, Nxt.of_below (HLS.out.mono (Nat.le_succ _)) (below_lift b1 b1.size hb)⟩
    · obtain ⟨y, hy⟩ : ∃ y, y = startS s a t := ⟨_, rfl⟩
      have HM : Hid (Calls Tryz.prog 73 #[.string s, .string a, .string t] w fun e w' => ∃ g, e = .returned (.tuple #[.pointer (some ⟨g, 0, none⟩), .int .i64 0]) ∧ w.heap.size ≤ g ∧ SesAt w' g y nilS nilS nilS ∧ Below w.heap.size w w') := Hid.mk ((sstart_f s a t g1 g2 g3 w hT).mono (fun e w' q => by
        rcases q.1 with ⟨q1, _⟩ | ⟨_, g, q1, q2, q3⟩
        · exact absurd q1 hz
        · exact ⟨g, q2, q1, by rw [hy]; exact q3, q.2⟩))
      have HHE : Hid (∀ ω : World, PrimAt ω pv → Calls Tryz.prog 74 #[pv, .string s, .string a, .string t] ω fun e w' => e = .returned (.tuple #[.agg #[.string y.root, .string y.self, .string (pubF y.self), .string y.theirs, .string y.send, .string y.read, .int .i64 (y.ns : Int), .int .i64 (y.nr : Int), .int .i64 (y.pn : Int), .slice none 0 0, .slice none 0 0, .slice none 0 0], .bool true]) ∧ Below ω.heap.size ω w') := Hid.mk (fun ω hp => (pstart_f pv s a t g1 g2 g3 ω hp).mono (fun e w' q => by
        rcases q.1 with ⟨q1, _⟩ | ⟨_, q1⟩
        · exact absurd q1 hz
        · exact ⟨by rw [q1, hy]; rfl, q.2⟩))
      have HWF : Hid y.Wf := Hid.mk (by rw [hy]; exact startS_wf g2 g3)
      have HNIL : Hid (y.saved = [] ∧ y.past = [] ∧ y.draws = []) := Hid.mk (by rw [hy]; exact ⟨rfl, rfl, rfl⟩)
      clear hz hT g1 g2 g3 hy
      go_enter Tryz.func40, Tryz.ntmps40
      go_upto_region 4 with (first
        | (go_at_call 73; with_reducible refine HM.out.mono ?_; rintro e w1 ⟨gs, rfl, hgs, hs1, b1⟩; have HS1 := Hid.mk hs1; have HL1 := Hid.mk (H.out.below b1); have k3' := HL1.out.c3; have k0' := HL1.out.c0; have hl1 := HL1.out.lt; clear k3 hs1)
        | fail)
      have HH : Hid (∀ ω : World, Below w1.heap.size w1 ω → Calls Tryz.prog 74 #[pv, .string s, .string a, .string t] ω fun e w' => e = .returned (.tuple #[.agg #[.string y.root, .string y.self, .string (pubF y.self), .string y.theirs, .string y.send, .string y.read, .int .i64 (y.ns : Int), .int .i64 (y.nr : Int), .int .i64 (y.pn : Int), .slice none 0 0, .slice none 0 0, .slice none 0 0], .bool true]) ∧ Below ω.heap.size ω w') := Hid.mk (fun ω bω => HHE.out ω (HL1.out.prim.below bω))
      clear HHE
      go_cut [9, 10] from 43 (fun v9 v10 wx => CutS w1 true #[.string y.root, .string y.self, .string (pubF y.self), .string y.theirs, .string y.send, .string y.read, .int .i64 (y.ns : Int), .int .i64 (y.nr : Int), .int .i64 (y.pn : Int), .slice none 0 0, .slice none 0 0, .slice none 0 0] v9 v10 wx)
      case first =>
        go_region_with (go_at_call 74; first | (have bω := (Below.refl w1.heap.size w1).drew; with_reducible refine (HH.out _ bω).mono ?_; rintro e w2 ⟨rfl, b2⟩) | (have bω := (by_alloc w1 (.cells #[.string ⟨#[]⟩, .string ⟨#[]⟩, .string ⟨#[]⟩, .string ⟨#[]⟩, .string ⟨#[]⟩, .string ⟨#[]⟩, .int .i64 0, .int .i64 0, .int .i64 0, .slice none 0 0, .slice none 0 0, .slice none 0 0] 55)).drew; have hω := side_new w1; with_reducible refine (HH.out _ bω).mono ?_; rintro e w2 ⟨rfl, b2⟩; obtain ⟨⟨k0', k1', k2', k3', k4', k5', k6', k7', k8', k9', kA', kB'⟩, ⟨z0', z1', z2', z3', z4', z5', z6', z7', z8', z9', zA', zB'⟩⟩ := side_cells (start_row b2 hω); have HHW := Hid.mk hω; clear hω))
        all_goals go_wp2_with fail
        all_goals go_meet
        all_goals first
          | with_reducible exact start_boxB bω b2 _ _ _ _ _ _ _ _ _ _ _ _ _
          | with_reducible exact start_boxA bω b2 HHW.out _ _ _ _ _ _ _ _ _ _ _ _ _
      case rest =>
        obtain ⟨rfl, g, rfl, hg, hrow, hb⟩ := hcut
        have HROW : Hid (wc.rowOf g = sideC y nilS nilS nilS) := Hid.mk hrow
        have HB := Hid.mk hb
        have HBX := Hid.mk (below_lift b1 b1.size hb)
        clear hrow hb
        go_wp2_with (first
          | (refine at_load 55 rfl ?_; refine wpl_loadG rtSide rfl _ rfl g rfl (sideC y nilS nilS nilS) HROW.out (sideC_size _ _ _ _) ?_)
          | (go_at_call 29; have M := keep_f (H.out.below HBX.out) y HWF.out gs nilS nilS nilS nilS nilS nilS (by rw [HNIL.out.1]; exact KpsAt.nil _) (by rw [HNIL.out.2.1]; exact StrsAt.nil _) (by rw [HNIL.out.2.2]; exact StrsAt.nil _) (HS1.out.below HB.out) (H.out.rf _ hgs) (by omega) (H.out.fresh hgs) (fun g _ => ⟨offs_nil g, offs_nil g⟩) (by omega); with_reducible refine M.mono ?_; clear M; rintro e w4 ⟨rfl, ρ4, v4, r4, l4, t4⟩)
          | fail)
        go_ret
        exact ⟨rfl, (Nxt.of t4 l4 (by rw [List.length_append]; simp; omega) (by omega)).pre HBX.out⟩
  · have HM := Hid.mk (start_bad (s := s) (t := a) (k := t) w hg)
    by_cases g1 : s.size = 32
    · have c1 : (s.size : Int) = 32 := by omega
      by_cases g2 : a.size = 32
      · have c2 : (a.size : Int) = 32 := by omega
        have g3 : ¬ t.size = 32 := fun q => hg ⟨g1, g2, q⟩
        have c3 : ((t.size : Int) != 32) = true := by simp; omega
        have c4 : ¬ (t.size : Int) = 32 := by omega
        clear hg
        go_enter Tryz.func40, Tryz.ntmps40
        go_wp2_with (first | (go_at_call 73; with_reducible refine HM.out.mono ?_; rintro e w1 ⟨rfl, b1⟩; have k3' := (H.out.below b1).c3; clear k3) | fail)
        go_ret
        exact ⟨rfl, Nxt.of_below (HLS.out.mono (Nat.le_succ _)) b1⟩
      · have c2 : ((a.size : Int) != 32) = true := by simp; omega
        have c3 : ¬ (a.size : Int) = 32 := by omega
        clear hg
        go_enter Tryz.func40, Tryz.ntmps40
        go_wp2_with (first | (go_at_call 73; with_reducible refine HM.out.mono ?_; rintro e w1 ⟨rfl, b1⟩; have k3' := (H.out.below b1).c3; clear k3) | fail)
        go_ret
        exact ⟨rfl, Nxt.of_below (HLS.out.mono (Nat.le_succ _)) b1⟩
    · have c2 : ((s.size : Int) != 32) = true := by simp; omega
      have c3 : ¬ (s.size : Int) = 32 := by omega
      clear hg
      go_enter Tryz.func40, Tryz.ntmps40
      go_wp2_with (first | (go_at_call 73; with_reducible refine HM.out.mono ?_; rintro e w1 ⟨rfl, b1⟩; have k3' := (H.out.below b1).c3; clear k3) | fail)
      go_ret
      exact ⟨rfl, Nxt.of_below (HLS.out.mono (Nat.le_succ _)) b1⟩
end Go.Proofs.YteghoooelgcpkaaGreatDoor
