import Derived.Test.YteghoooelgcpkaaGreatDoorM17
namespace Go.Proofs.YteghoooelgcpkaaGreatDoor
open Go.RowKit Go.Msg
section
variable {w0 w w' : World} {gd n : Nat} {ρ : Nat → Nat} {S : Bool → SR} {vl vp : Value} {ls : List Lm} {ps : List ByteArray} {tw lo : Bool} {ld sd : Int}
section
variable {a b : SR}
theorem Cps.read (h : Cps w0 gd ρ w S vl vp ls ps tw lo ld sd a b) (m data : ByteArray) : ∀ ω, Below w.heap.size w ω → Calls Tryz.prog 30 #[.pointer (some ⟨a.g, 0, none⟩), .string m, .string data] ω fun e w' => e = .returned (.tuple #[.string (heardS a.x m data).2.1, .int .i64 (heardS a.x m data).2.2]) ∧ Hid (∃ a' : SR, a'.g = a.g ∧ a'.x = (heardS a.x m data).1 ∧ Cps w0 gd ρ w' S vl vp ls ps tw lo ld sd a' b) := fun ω hω =>
  (readA_f a.x h.wa a.g a.vK a.vP a.vD m data ω (h.sa.below hω) h.aa (h.dw.tbl.below hω)).mono (fun _ _ q => ⟨q.1, Hid.mk ((h.below hω).go (heardS_wf h.wa m data) q.2)⟩)
theorem Cps.send (h : Cps w0 gd ρ w S vl vp ls ps tw lo ld sd a b) (text data : ByteArray) : Calls Tryz.prog 34 #[.pointer (some ⟨a.g, 0, none⟩), .string text, .string data] w fun e w' => e = .returned (.tuple #[.string (saysS a.x text data).2.1, .int .i64 (saysS a.x text data).2.2]) ∧ Hid (∃ a' : SR, a'.g = a.g ∧ a'.x = (saysS a.x text data).1 ∧ Cps w0 gd ρ w' S vl vp ls ps tw lo ld sd a' b) :=
  (sendA_f a.x h.wa a.g a.vK a.vP a.vD text data w h.sa h.aa h.dw.tbl).mono (fun _ _ q => ⟨q.1, Hid.mk (h.go (saysS_wf h.wa text data) q.2)⟩)
theorem Cps.export (h : Cps w0 gd ρ w S vl vp ls ps tw lo ld sd a b) : Calls Tryz.prog 32 #[.pointer (some ⟨a.g, 0, none⟩)] w fun e w' => e = .returned (.string (keptB a.x)) ∧ Hid (Cps w0 gd ρ w' S vl vp ls ps tw lo ld sd a b) :=
  (export_f a.x h.wa a.g a.vK a.vP a.vD w h.sa).mono (fun _ _ q => ⟨q.1, Hid.mk (h.below q.2)⟩)
end
set_option maxRecDepth 4000 in
set_option maxHeartbeats 4000000 in
theorem twin_f (h : DW w0 gd ρ w S vl vp ls ps tw lo ld sd) (hi : DI S ls ps tw lo n) (hN : n ≤ 1500000) (b : Bool) (kk : Int) (hk1 : -9223372036854775808 ≤ kk) (hk2 : kk ≤ 9223372036854775807) (text : ByteArray) :
    Calls Tryz.prog 110 #[.pointer (some ⟨gd, 0, none⟩), .bool b, .int .i64 kk, .string text] w fun e w' => e = .returned (.bool true) ∧ Live w0 gd (n + 1) w' := by
  obtain ⟨ao, cap, gL, rfl, hao, _⟩ := own_lms h.ol
  have hnl := hi.nl
  have H := Hid.mk h
  have HI := Hid.mk hi
  have HAO := Hid.mk hao
  have HS := Hid.mk (side_f h b)
  have HX := Hid.mk (export_f (S b).x (h.wf b) (S b).g (S b).vK (S b).vP (S b).vD w (h.se b))
  have HIM : Hid (∀ w1, Calls Tryz.prog 27 #[.string (keptB (S b).x)] w1 fun e w' => ∃ r : SR, e = .returned (.tuple #[.pointer (some ⟨r.g, 0, none⟩), .int .i64 0]) ∧ r.x = (S b).x ∧ w1.heap.size ≤ r.g ∧ Hid (SesAt w' r.g r.x r.vK r.vP r.vD ∧ (∀ g, g ≤ r.g → Offs g r.vK r.vP r.vD) ∧ Below w1.heap.size w1 w')) := Hid.mk (fun w1 => copy_f h b w1)
  have HXS : Hid (∀ ω, DW w0 gd ρ ω S (.slice ao ls.length cap) vp ls ps tw lo ld sd → Calls Tryz.prog 32 #[.pointer (some ⟨(S b).g, 0, none⟩)] ω fun e w' => e = .returned (.string (keptB (S b).x)) ∧ Below ω.heap.size ω w') := Hid.mk (fun ω q => export_f (S b).x (q.wf b) (S b).g (S b).vK (S b).vP (S b).vD ω (q.se b))
  clear h hi hao
  generalize hnL : ls.length = nL at *
  generalize hK : keptB (S b).x = K at *
  go_enter Tryz.func110, Tryz.ntmps110
  go_upto_region 7 with (first
    | (go_at_call 145; with_reducible refine HS.out.mono ?_; rintro e w1 ⟨rfl, rfl⟩)
    | (go_at_call 32; with_reducible refine HX.out.mono ?_; rintro e w1 ⟨rfl, b1⟩)
    | (go_at_call 27; with_reducible refine (HIM.out w1).mono ?_; rintro e w2 ⟨ra, rfl, ax, ag, HRA⟩)
    | (go_at_call 27; with_reducible refine (HIM.out w2).mono ?_; rintro e w3 ⟨rb, rfl, bx, bg, HRB⟩)
    | fail)
  have B3 : Below w.heap.size w w3 := below_lift (below_lift b1 b1.size HRA.out.2.2) (Nat.le_trans b1.size HRA.out.2.2.size) HRB.out.2.2
  have z1 := b1.size
  have z2 := HRA.out.2.2.size
  have lta := HRA.out.1.lt
  have HC3 : Hid (Cps w0 gd ρ w3 S (.slice ao nL cap) vp ls ps tw lo ld sd ra rb) := Hid.mk ⟨H.out.below B3, by rw [ax]; exact H.out.wf b, by rw [bx]; exact H.out.wf b, HRA.out.1.below HRB.out.2.2, HRB.out.1, by omega, H.out.rf _ (by omega), H.out.rf _ (by omega), by have := H.out.bl.size; omega, by have := H.out.bl.size; omega, HRA.out.2.1 _ (Nat.le_refl _), HRB.out.2.1 _ (by omega), HRA.out.1.fresh bg, HRB.out.2.1 _ (Nat.le_refl _), fun q => (H.out.se q).fresh (by omega), fun q => (H.out.se q).fresh (by omega)⟩
  have k2 := dp_c2 HC3.out.dw.row
  have hlt := HC3.out.dw.lt
  have hab : ra.x = rb.x := by rw [ax, bx]
  clear HS HX HIM
  go_upto_if 51 with fail
  go_cut [15, 16, 17, 18, 19] from 25 (fun _ _ _ _ _ wx => Hid (∃ (a b' : SR), a.g = ra.g ∧ b'.g = rb.g ∧ a.x = b'.x ∧ Cps w0 gd ρ wx S (.slice ao nL cap) vp ls ps tw lo ld sd a b'))
  case first =>
    by_cases h0 : nL = 0
    · have c0 : ¬ (nL : Int) > 0 := by omega
      go_wp2_with fail
      go_meet
      exact Hid.mk ⟨ra, rb, rfl, rfl, hab, HC3.out⟩
    · have c0 : (nL : Int) > 0 := by omega
      obtain ⟨rfl, hob⟩ := HAO.out (by omega)
      have HPK := Hid.mk (fun W => spick_any kk nL (by omega) hk1 hk2 (by omega) W)
      go_upto_region 8 with fail
      go_cut [15] from 25 (fun v wx => ∃ j : Nat, v = .pointer (some ⟨gL, j * 6, none⟩) ∧ j < nL ∧ Hid (Below w3.heap.size w3 wx))
      case first =>
        go_region_with (go_at_call 111; with_reducible refine (HPK.out _).mono ?_; rintro e w4 ⟨j, rfl, hj, rfl⟩; have cj : (j : Int) < nL := (by omega))
        all_goals go_wp2_with fail
        all_goals go_meet
        all_goals exact ⟨j, rfl, hj, Hid.mk (Below.refl _ _).drew⟩
      case rest =>
      obtain ⟨j, rfl, hj, hb4⟩ := hcut
      have C4 := HC3.out.below hb4.out
      obtain ⟨cm, hcm⟩ : ∃ cm, ls[j]? = some cm := ⟨ls[j]'(by omega), List.getElem?_eq_getElem _⟩
      have L4 := C4.dw.lm hcm hob
      have y1 := L4.c1
      have y3 := L4.c3
      have hg4 : gL < wc.heap.size := World.block_lt_of_cell? _ _ y1
      have HR4 := Hid.mk (C4.read cm.bytes cm.data)
      clear L4 C4 k2
      generalize hR : heardS ra.x cm.bytes cm.data = R at *
      go_upto_region 9 with fail
      go_cut [16, 17] from 25 (fun v16 v17 wx => v16 = .string R.2.1 ∧ v17 = .int .i64 R.2.2 ∧ Hid (∃ a' : SR, a'.g = ra.g ∧ a'.x = R.1 ∧ Cps w0 gd ρ wx S (.slice (some ⟨gL, 0, none⟩) nL cap) vp ls ps tw lo ld sd a' rb))
      case first =>
        go_region_with (go_at_call 30; with_reducible refine (HR4.out _ (Below.refl _ _).drew).mono ?_; rintro e w5 ⟨rfl, HZ⟩)
        all_goals go_wp2_with fail
        all_goals go_meet
        all_goals exact ⟨rfl, rfl, HZ⟩
      case rest =>
      obtain ⟨rfl, rfl, HZ⟩ := hcut
      rename_i W5
      obtain ⟨a5, ag5, ax5, C5⟩ := HZ.out
      have L5 := C5.dw.lm hcm hob
      have y1 := L5.c1
      have y3 := L5.c3
      have HR5 := Hid.mk (C5.swap.read cm.bytes cm.data)
      rw [← hab, hR] at HR5
      clear L5 C5 HZ
      go_upto_region 10 with fail
      go_cut [18, 19] from 25 (fun v18 v19 wx => v18 = .string R.2.1 ∧ v19 = .int .i64 R.2.2 ∧ Hid (∃ b' : SR, b'.g = rb.g ∧ b'.x = R.1 ∧ Cps w0 gd ρ wx S (.slice (some ⟨gL, 0, none⟩) nL cap) vp ls ps tw lo ld sd b' a5))
      case first =>
        go_region_with (go_at_call 30; with_reducible refine (HR5.out _ (Below.refl _ _).drew).mono ?_; rintro e w6 ⟨rfl, HZ⟩)
        all_goals go_wp2_with fail
        all_goals go_meet
        all_goals exact ⟨rfl, rfl, HZ⟩
      case rest =>
      obtain ⟨rfl, rfl, HZ⟩ := hcut
      go_wp2_with fail
      go_meet
      obtain ⟨b6, bg6, bx6, C6⟩ := HZ.out
      exact Hid.mk ⟨a5, b6, ag5, bg6, by rw [ax5, bx6], C6.swap⟩
  case rest =>
  obtain ⟨a, b', ga, gb, hx, C⟩ := hcut.out
  have HSA := Hid.mk (C.send text ⟨#[]⟩)
  rw [ga] at HSA
  generalize hQ : saysS a.x text ⟨#[]⟩ = Q at *
  go_upto_region 14 with (first | (go_at_call 34; with_reducible refine HSA.out.mono ?_; rintro e w7 ⟨rfl, HZ⟩) | fail)
  obtain ⟨a7, g7, x7, C7⟩ := HZ.out
  have HSB := Hid.mk (C7.swap.send text ⟨#[]⟩)
  rw [gb, ← hx, hQ] at HSB
  clear C C7 HSA
  go_upto_region 15 with (first | (go_at_call 34; with_reducible refine HSB.out.mono ?_; rintro e w8 ⟨rfl, HZ2⟩) | fail)
  obtain ⟨b8, g8, x8, C8⟩ := HZ2.out
  have HEA := Hid.mk C8.swap.export
  rw [g7, x7] at HEA
  go_upto_region 16 with (first | (go_at_call 32; with_reducible refine HEA.out.mono ?_; rintro e w9 ⟨rfl, HC9⟩) | fail)
  have HEB := Hid.mk HC9.out.swap.export
  rw [g8, x8] at HEB
  clear C8 HEA
  generalize hKQ : keptB Q.1 = KQ at *
  go_upto_region 17 with (first | (go_at_call 32; with_reducible refine HEB.out.mono ?_; rintro e w10 ⟨rfl, HC10⟩) | fail)
  have HES := Hid.mk (HXS.out _ HC10.out.dw)
  go_wp2_with (first | (go_at_call 32; with_reducible refine HES.out.mono ?_; rintro e w11 ⟨rfl, b11⟩) | fail)
  go_ret
  exact ⟨rfl, _, _, _, _, _, _, _, _, _, _, HC10.out.dw.below b11, HI.out.mono (Nat.le_succ _)⟩
end
end Go.Proofs.YteghoooelgcpkaaGreatDoor
