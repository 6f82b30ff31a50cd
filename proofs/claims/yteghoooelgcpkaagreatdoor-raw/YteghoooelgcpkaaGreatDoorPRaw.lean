import Derived.Test.YteghoooelgcpkaaGreatDoorLxr
import Derived.Test.YteghoooelgcpkaaGreatDoorLxfr
import Derived.Deep.CutRange
namespace Go.Proofs.YteghoooelgcpkaaGreatDoor
open Go.ChangeShapes Go.WideShapes Go.ChangeAt Go.RowKit Go.Deep Go.Msg
theorem LW.initR {w : World} {pv : Value} (hp : PrimAt w pv) (ht : Tbl w) : ∃ ρ, LWs w w.heap.size pv 0 ρ (w.alloc (.cells #[pv, .slice none 0 0, .slice none 0 0, .string ⟨#[]⟩, .string ⟨#[]⟩] 34)) := by
  refine ⟨fun g => if g = w.heap.size then 1 else 0, .slice none 0 0, .slice none 0 0, [], [], ⟨#[]⟩, ⟨#[]⟩, ⟨rowOf_new2 _ _ _ _ rfl, by_alloc _ _, hp, ht, fun g hg => if_neg (by omega), fun g hg => if_neg (by simp at hg; omega), if_pos rfl, World.ownsRow_nil _ _ _ _, fun g q => (by cases q), World.ownsRow_nil _ _ _ _, fun g q => (by cases q), fun i r hi => (by simp at hi), fun m hm => (by cases hm), by decide⟩, Nat.le_refl _, Nat.le_refl _⟩
set_option maxRecDepth 20000 in
set_option maxHeartbeats 4000000 in
theorem raw_f (s m data text : ByteArray) (hm : m.size ≤ 9223372036854775807) (w : World) (hT : Tbl w) :
    Calls Tryz.prog 9 #[.string s, .string m, .string data, .string text] w fun e w' => e = .returned (.bool true) ∧ Below w.heap.size w w' := by
  have HT := Hid.mk hT
  clear hT
  go_enter Tryz.func9, Tryz.ntmps9
  go_upto_region 3 with (first | (go_at_call 17; refine (constants_any _).mono ?_; rintro e W1 ⟨v, rfl, hP, hb1⟩; obtain ⟨gp, rfl⟩ : ∃ gp, v = .pointer (some ⟨gp, 0, none⟩) := (let ⟨g', _, _, h1, _⟩ := hP; ⟨g', h1⟩); (have HP := Hid.mk hP); clear hP) | fail)
  have L0 := Hid.mk (LW.initR HP.out (HT.out.below hb1))
  have Bs := hb1.size
  generalize W1.alloc (.cells #[.pointer (some ⟨gp, 0, none⟩), .slice none 0 0, .slice none 0 0, .string ⟨#[]⟩, .string ⟨#[]⟩] 34) = Wa at *
  generalize hg : W1.heap.size = g at *
  obtain ⟨ρ, hl⟩ := L0.out
  have HL := Hid.mk (wokenL_f hl (by omega) s)
  clear hl L0
  go_upto_region 4 with (first | (go_at_call 18; with_reducible refine HL.out.mono ?_; rintro e W2 ⟨rfl, hN⟩; (have HN := Hid.mk hN); clear hN) | fail)
  obtain ⟨_, ρ2, vp, vm, L, M, a, b, h, h1, h2⟩ := HN.out
  obtain ⟨ao, cap, gV, rfl, hao, hcell⟩ := h.ptr
  have k1 := h.c1
  have H := Hid.mk h
  have HC := Hid.mk hcell
  have HA := Hid.mk hao
  have HBL2 := Hid.mk h.bl
  clear h hcell hao
  cases hL : L with
  | nil =>
    subst hL
    have c0 : (([] : List PR).length : Int) = 0 := rfl
    simp only [List.length_nil] at k1
    go_wp2_with fail
    go_ret
    exact ⟨rfl, below_lift hb1 hb1.size (by rw [hg]; exact hg ▸ HBL2.out)⟩
  | cons r rs =>
    have hi : L[0]? = some r := by rw [hL]; rfl
    have e1 := HA.out (by rw [hL]; exact Nat.succ_pos _)
    subst e1
    have hc := HC.out 0 r hi
    have hn0 : 0 < L.length := by rw [hL]; exact Nat.succ_pos _
    have HR := Hid.mk (readP_f H.out h1 h2 hi m data hm)
    generalize hnL : L.length = nL at *
    have c0 : ¬ (nL : Int) = 0 := by omega
    clear hL
    go_upto_region 8 with (first | (go_at_call 19; with_reducible refine HR.out.mono ?_; rintro e W3 ⟨rfl, hN3⟩; (have HN3 := Hid.mk hN3); clear hN3) | fail)
    obtain ⟨_, ρ3, vp3, vm3, L3, M3, a3, b3, h3, p1, p2, r3, q1, q2⟩ := HN3.out
    have HK := Hid.mk (plook_f W3 r3 (h3.pa 0 r3 q1).1)
    have H3 := Hid.mk h3
    rw [q2] at HK
    clear h3
    go_upto_region 9 with (first | (go_at_call 20; with_reducible refine HK.out.mono ?_; rintro e W4 ⟨rfl, B4⟩) | fail)
    have HS := Hid.mk (sentP_f (H3.out.below B4) p1 p2 (by omega) q1 text data)
    rw [q2] at HS
    go_upto_region 10 with (first | (go_at_call 21; with_reducible refine HS.out.mono ?_; rintro e W5 ⟨rfl, hN5⟩; (have HN5 := Hid.mk hN5); clear hN5) | fail)
    obtain ⟨_, ρ5, vp5, vm5, L5, M5, a5, b5, h5, s1, s2, r5, t1, t2⟩ := HN5.out
    have HK5 := Hid.mk (plook_f W5 r5 (h5.pa 0 r5 t1).1)
    have HBL5 := Hid.mk h5.bl
    rw [t2] at HK5
    clear h5
    go_wp2_with (first | (go_at_call 20; with_reducible refine HK5.out.mono ?_; rintro e W6 ⟨rfl, B6⟩) | fail)
    go_ret
    exact ⟨rfl, below_lift hb1 hb1.size (below_lift HBL5.out HBL5.out.size B6)⟩
theorem string_le {H : Type} {enc : TypeId × Value → H} {W : World} {m : ByteArray} {d : DataW H} {p : List MemPlace} (h : DataW.Trod enc Tryz.prog W 0 (fun _ => true) true 9 (.string m) d p) : m.size ≤ 9223372036854775807 := by
  obtain ⟨fuel, hf⟩ := h
  obtain ⟨s, e, _, z⟩ := DataW.trod_string Tryz.underlying9 hf
  simp [Value.cells] at e
  subst e
  exact z
set_option maxRecDepth 100000 in
theorem raw_lifted (os : Os) (started : os.Started) (H : Type) (enc : TypeId × Value → H) :
    ReturnsInHanded {} Tryz.checked os 9 .any (fun w args => (Rows.rawSpec.pre enc Tryz.prog Tryz.f9 [] false w args ∧ laidMetH Tryz.prog laidL w) ∧ sizedMet enc Tryz.prog Tryz.f9 (OpenSpec.ofChange Rows.rawSpec) false w args)
      (Rows.rawSpec.post enc Tryz.prog Tryz.f9 false true false false) := by
  refine returnsInHanded_of_change_and (C := Tryz.checked) (X := fun w _ => laidMetH Tryz.prog laidL w) (fun _ _ _ hh h => h.of_heap hh) own0 started (by kernel_rfl) Tryz.func9
    (ChangeSpec.witness_shaped (enc := enc) (C := Tryz.checked) (os := os) (X := fun w _ => laidMetH Tryz.prog laidL w) false (World.doorLaid Tryz.prog 4000 os) #[.string ⟨#[]⟩, .string ⟨#[]⟩, .string ⟨#[]⟩, .string ⟨#[]⟩] 8 rfl (World.shaped_of_RefB (by kernel_rfl) (by kernel_rfl)) (by kernel_rfl) (by kernel_rfl) (by kernel_rfl) (door_met os _)) ?_
  intro W base args ds gs before hval0 hW _ _ hL _
  have hval : ∀ (j : Nat) t v, Tryz.f9.params[j]? = some t → args[j]? = some v → Value.okWide Tryz.prog W .any base t v := hval0
  have hW' := hW
  obtain ⟨p, q, hA0, hV, rfl, hfz, hnd⟩ := hW
  have hA : DataW.TrodAll enc Tryz.prog W 0 (fun _ => true) true Tryz.f9.params.toList args.toList ds p := hA0
  rw [Tryz.params9] at hA hval
  obtain ⟨v0, vs0, d0, ds0, p0, q0, hargs, rfl, rfl, h0, r0⟩ := trodAll_cons hA
  obtain ⟨v1, vs1, d1, ds1, p1, q1, rfl, rfl, rfl, h1, r1⟩ := trodAll_cons r0
  obtain ⟨v2, vs2, d2, ds2, p2, q2, rfl, rfl, rfl, h2, r2⟩ := trodAll_cons r1
  obtain ⟨v3, vs3, d3, ds3, p3, q3, rfl, rfl, rfl, h3, r3⟩ := trodAll_cons r2
  obtain ⟨rfl, rfl, rfl⟩ := trodAll_nil r3
  obtain rfl : args = #[v0, v1, v2, v3] := by cases args; simp_all
  obtain ⟨rfl, rfl⟩ := trodVars_none hV
  obtain ⟨s0, rfl⟩ := okWide_string Tryz.underlying9 (hval 0 9 v0 rfl rfl)
  obtain ⟨s1, rfl⟩ := okWide_string Tryz.underlying9 (hval 1 9 v1 rfl rfl)
  obtain ⟨s2, rfl⟩ := okWide_string Tryz.underlying9 (hval 2 9 v2 rfl rfl)
  obtain ⟨s3, rfl⟩ := okWide_string Tryz.underlying9 (hval 3 9 v3 rfl rfl)
  have lt0 : ∀ x ∈ p0, x.block < W.heap.size := by obtain ⟨m, hm⟩ := h0; exact DataW.trod_lt m _ _ _ hm
  have lt1 : ∀ x ∈ p1, x.block < W.heap.size := by obtain ⟨m, hm⟩ := h1; exact DataW.trod_lt m _ _ _ hm
  have lt2 : ∀ x ∈ p2, x.block < W.heap.size := by obtain ⟨m, hm⟩ := h2; exact DataW.trod_lt m _ _ _ hm
  have lt3 : ∀ x ∈ p3, x.block < W.heap.size := by obtain ⟨m, hm⟩ := h3; exact DataW.trod_lt m _ _ _ hm
  clear hA0 hval0
  refine (raw_f s0 s1 s2 s3 (string_le h1) W (tbl_of_laid hL)).mono fun e W' ⟨he, bel⟩ => ?_
  subst he
  exact ⟨_, rfl, _, _, _, [], _, [], hW', trodAll_mk1 (shut_bool Tryz.underlying4 _), (trodAll_cons_mk (Below.trod laidOut0 (by kernel_rfl) (of_decide_eq_true (by kernel_rfl)) h0 bel lt0) (trodAll_cons_mk (Below.trod laidOut0 (by kernel_rfl) (of_decide_eq_true (by kernel_rfl)) h1 bel lt1) (trodAll_cons_mk (Below.trod laidOut0 (by kernel_rfl) (of_decide_eq_true (by kernel_rfl)) h2 bel lt2) (trodAll_cons_mk (Below.trod laidOut0 (by kernel_rfl) (of_decide_eq_true (by kernel_rfl)) h3 bel lt3) trodAll_mk0)))), rfl, bel.frame _, fun h => by cases h⟩
theorem raw_holds : Rows.RawSaid :=
  OpenClaim.holds_of_wide 9 Tryz.f9 rfl rfl rfl rfl rfl rfl rfl ⟨rfl, rfl, rfl, rfl, rfl⟩ rfl rfl rfl rfl rfl (by kernel_rfl) Tryz.func9 (by kernel_rfl)
    (of_decide_eq_true (by kernel_rfl)) (by unfold Func.isWrapper; first | (rw [if_pos (by decide +kernel)]; kernel_rfl) | (rw [if_neg (by decide +kernel)]; exact ⟨rfl, rfl⟩))
    (fun os started H enc _ => raw_lifted os started H enc)
theorem raw_card : Rows.RawCardSaid :=
  Claim7.holds_tied_plain_at .later [] [.data, .data] true (true, "3f0549dac65ff85d88c64794a818bae070f6654f30126a0df290d4fdb44b3d03") false
    raw_holds (fun _ h => by cases h) (by kernel_rfl) (fun _ h => by cases h) raw_row_tie rfl ⟨rfl, rfl⟩ (by kernel_rfl) rfl
    (fun f fn hf hfn => by
      obtain rfl : f = 9 := Option.some.inj ((show Tryz.prog.funcNamed "messenger/messengerlaw.Raw" = some 9 by kernel_rfl).symm.trans hf) |>.symm
      obtain rfl : fn = Tryz.f9 := (Option.some.inj (Tryz.func9.symm.trans hfn)).symm
      exact ⟨by kernel_rfl, fun j t ht => by
        rw [Tryz.params9] at ht
        have hm : t ∈ [9, 9, 9, 9] := by simpa using Array.mem_of_getElem? ht
        have hall : ([9, 9, 9, 9].all fun u => !Tryz.prog.wantsStandIn u) = true := by kernel_rfl
        exact (show Tryz.prog.wantsStandIn t = false by simpa using List.all_eq_true.1 hall t hm)⟩)
    (by kernel_rfl)
#print axioms raw_card
end Go.Proofs.YteghoooelgcpkaaGreatDoor
