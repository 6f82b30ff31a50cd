import Derived.Test.YteghoooelgcpkabGreatDoorM17
namespace Go.Proofs.YteghoooelgcpkabGreatDoor
open Go.RowKit Go.Msg
section
variable {w0 w w' : World} {gd n : Nat} {ρ : Nat → Nat} {S : Bool → SR} {vl vp : Value} {ls : List Lm} {ps : List ByteArray} {tw lo : Bool} {ld sd : Int}
theorem DW.lays (h : DW w0 gd ρ w S vl vp ls ps tw lo ld sd) (hn : ps.length ≤ 4000000) (b : Bool) :
    Calls Tryz.prog 47 #[.pointer (some ⟨gd, 0, none⟩), .pointer (some ⟨(S b).g, 0, none⟩)] w fun e w' => e = .returned (.tuple #[]) ∧ Hid (LaidP w0.heap.size gd w (.pointer (some ⟨(S false).g, 0, none⟩)) (.pointer (some ⟨(S true).g, 0, none⟩)) vl vp ps tw (.bool lo) sd (S b).g (S b).x (S b).vK (S b).vP (S b).vD w') := by
  have hb := role_b b
  refine (lays_f h.dp h.bl.size hn (h.wf b) (h.se b) (h.off b) (fun e => ?_) (fun e => ?_) (h.os b gd (by rw [h.rd]; decide)) (fun g e => h.os b g (by rw [h.rp g e]; decide))).mono (fun e w' q => ⟨q.1, Hid.mk q.2⟩)
  · have := h.rs b; rw [e, h.rd] at this; omega
  · have := h.rp _ e; rw [h.rs b] at this; omega
theorem DW.asked (h : DW w0 gd ρ w S vl vp ls ps tw lo ld sd) (b : Bool) (m data : ByteArray) :
    ∀ ω, Below w.heap.size w ω → Calls Tryz.prog 44 #[.pointer (some ⟨(S b).g, 0, none⟩), .string m, .string data] ω fun e w' => e = .returned (.tuple #[.string (heardS (S b).x m data).2.1, .int .i64 (heardS (S b).x m data).2.2, .bool true]) ∧ Hid (∃ r : SR, r.g = (S b).g ∧ r.x = (heardS (S b).x m data).1 ∧ DW w0 gd ρ w' (updS S b r) vl vp ls ps tw lo ld sd) := fun ω hω =>
  (asked_f (S b).x (h.wf b) (S b).g (S b).vK (S b).vP (S b).vD m data ω ((h.se b).below hω) (h.off b) (h.tbl.below hω)).mono (fun _ _ q => ⟨q.1, Hid.mk (h.ses b (heardS_wf (h.wf b) m data) (q.2.pre hω))⟩)
theorem DW.lmz (h : DW w0 gd ρ w S vl vp ls ps tw lo ld sd) {k g : Nat} {c : Lm} (hc : ls[k]? = some c) (hv : vl.ownBlock = some g) : w.frozen? ⟨g, k * 6 + 4, none⟩ = false := by
  have hlt := (List.getElem?_eq_some_iff.1 hc).1
  rcases h.ol.2 with ⟨q, _⟩ | ⟨g', cap, cur, e1, e2, e3, e4, e5, e6, e7⟩
  · rw [q] at hv; cases hv
  · subst e1
    have hg : g' = g := by simpa [Value.ownBlock] using hv
    subst hg
    exact rowfz2 (rowOf_block e3) _ (by rw [e6]; omega)
set_option maxRecDepth 4000 in
set_option maxHeartbeats 4000000 in
theorem deliver_f (h : DW w0 gd ρ w S vl vp ls ps tw false ld sd) (hi : DI S ls ps tw false n) (hN : n ≤ 1500000) {k : Nat} {c : Lm} (hc : ls[k]? = some c) :
    Calls Tryz.prog 19 #[.pointer (some ⟨gd, 0, none⟩), .int .i64 (k : Int)] w fun e w' => e = .returned (.bool true) ∧ Live w0 gd (n + 1) w' := by
  obtain ⟨ao, cap, gL, rfl, hao, _⟩ := own_lms h.ol
  have hkl := (List.getElem?_eq_some_iff.1 hc).1
  obtain ⟨rfl, hob⟩ := hao (Nat.lt_of_le_of_lt (Nat.zero_le _) hkl)
  have hnl := hi.nl
  have hnp := hi.np
  have H := Hid.mk h
  have HI := Hid.mk hi
  have HC := Hid.mk hc
  have HS := Hid.mk (side_f h (!c.odd))
  have HLY := Hid.mk (h.lays (by omega) (!c.odd))
  have L := h.lm hc hob
  have y0 := L.c0
  have k2 := dp_c2 h.row
  have hlt := h.lt
  clear h hi hc L hao
  have hkl2 := hkl
  generalize hnL : ls.length = nL at *
  rw [← hnL] at hkl2
  have ck : (k : Int) < nL := by omega
  go_enter Tryz.func19, Tryz.ntmps19
  go_upto_region 4 with (first
    | (go_at_call 41; with_reducible refine HS.out.mono ?_; rintro e w1 ⟨rfl, rfl⟩)
    | (go_at_call 47; with_reducible refine HLY.out.mono ?_; rintro e w2 ⟨rfl, HQ⟩)
    | fail)
  obtain ⟨ρ2, r, vp2, ps2, tw2, ld2, r1, D2, l2, alt⟩ := H.out.laid (!c.odd) HQ.out
  obtain ⟨I2, dr⟩ := HI.out.laid l2 alt
  have HDL : Hid (tw2 = false → _) := Hid.mk (fun z => I2.deliver z rfl HC.out (by rw [updS_same]; exact dr))
  have HOU := Hid.mk (heardS_out (x := r.x) c.bytes c.data)
  have HAS := Hid.mk (D2.asked (!c.odd) c.bytes c.data)
  rw [updS_same] at HDL HAS
  rw [r1] at HAS
  have L2 := D2.lm HC.out hob
  have y1 := L2.c1
  have y3 := L2.c3
  have HI2 := Hid.mk I2
  have hlt2 := D2.lt
  clear L2 I2 D2 alt dr k2 y0 HLY HS HQ
  generalize heardS r.x c.bytes c.data = R at *
  obtain ⟨y, t, e⟩ := R
  simp only at HDL HAS HOU
  go_cut [7, 8, 9] from 40 (fun v7 v8 v9 wx => v7 = .string t ∧ v8 = .int .i64 e ∧ v9 = .bool true ∧ Hid (∃ r4 : SR, r4.g = (S (!c.odd)).g ∧ r4.x = y ∧ DW w0 gd ρ2 wx (updS (updS S (!c.odd) r) (!c.odd) r4) (.slice (some ⟨gL, 0, none⟩) nL cap) vp2 ls ps2 tw2 false ld2 sd))
  case first =>
    go_region_with (go_at_call 44; with_reducible refine (HAS.out _ (Below.refl _ _).drew).mono ?_; rintro e w3 ⟨rfl, HZ⟩)
    all_goals go_wp2_with fail
    all_goals go_meet
    all_goals exact ⟨rfl, rfl, rfl, HZ⟩
  case rest =>
  obtain ⟨rfl, rfl, rfl, HZ⟩ := hcut
  obtain ⟨r4, s1, s2, D4⟩ := HZ.out
  have k2 := dp_c2 D4.row
  have k4 := dp_c4 D4.row
  have hlt4 := D4.lt
  have L4 := D4.lm HC.out hob
  have y4 := L4.c4
  have y2 := L4.c2
  have z4 := D4.lmz HC.out hob
  have y2' : (wc.setCell ⟨gL, k * 6 + 4, none⟩ (.bool true)).cell? ⟨gL, k * 6 + 2, none⟩ = some (.string c.text) := (D4.mark HC.out hob).lm (k := k) (c := { c with read := true }) (by rw [List.getElem?_set]; simp [hkl2]) hob |>.c2
  have HD4 := Hid.mk D4
  clear D4 L4 HZ y1 y3
  cases tw2
  · have HSAME : Hid (y = r.x → DI (updS (updS S (!c.odd) r) (!c.odd) r4) ls ps2 false false (n + 1)) := Hid.mk (fun q => HI2.out.same (fun b => by
      by_cases z : b = !c.odd
      · rw [z, updS_same, updS_same, s2]; exact q
      · rw [updS_ne _ _ z]))
    rcases HDL.out rfl with ⟨a1, a2, a3⟩ | ⟨a1, a2, a3, a4⟩
    · have hy : y = r.x := by
        rcases HOU.out with q | q
        · exact q.2.1
        · exact absurd q.1 a1
      cases hrd : c.read
      · rw [hrd] at y4
        have cz : (nL : Int) > 20 := by have := a3 hrd; omega
        have ce : ¬ e = 0 := a1
        go_wp2_with fail
        go_ret
        exact ⟨rfl, _, _, _, _, _, _, _, _, _, _, HD4.out, HSAME.out hy⟩
      · rw [hrd] at y4
        obtain rfl : e = 6 := a2 hrd
        go_wp2_with fail
        go_ret
        exact ⟨rfl, _, _, _, _, _, _, _, _, _, _, HD4.out, HSAME.out hy⟩
    · have HT := Hid.mk (a4 r4 s2)
      rw [a2] at y4
      subst a1 a3
      generalize hct : c.text = ct at *
      go_wp2_with fail
      go_ret
      subst hct
      refine ⟨rfl, _, _, _, _, _, _, _, _, _, _, HD4.out.mark HC.out hob, ⟨fun c' hc' => ?_, fun _ _ => HT.out, by rw [List.length_set]; exact HI2.out.nl, HI2.out.np⟩⟩
      obtain ⟨j, hj⟩ := List.getElem?_of_mem hc'
      rw [List.getElem?_set] at hj
      by_cases q : k = j
      · rw [if_pos q] at hj
        split at hj
        · obtain ⟨x0, s, sd⟩ := HI2.out.sn c (List.mem_of_getElem? HC.out)
          rw [← Option.some.inj hj]
          exact ⟨x0, ⟨s.wf, s.ns, s.bytes, s.before, s.tx, s.dt⟩, sd⟩
        · next q2 => exact absurd (by first | exact hkl2 | (rw [← q]; exact hkl2)) q2
      · rw [if_neg q] at hj
        exact HI2.out.sn c' (List.mem_of_getElem? hj)
  · go_wp2_with fail
    go_ret
    exact ⟨rfl, _, _, _, _, _, _, _, _, _, _, HD4.out, ⟨HI2.out.sn, fun q => (by cases q), HI2.out.nl, HI2.out.np⟩⟩
end
end Go.Proofs.YteghoooelgcpkabGreatDoor
