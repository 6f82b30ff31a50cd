import Derived.Test.YteghoooelgcpkabGreatDoorM16
namespace Go.Proofs.YteghoooelgcpkabGreatDoor
open Go.RowKit Go.Msg
theorem iSent : (Tryz.prog.info? 81).map (fun i => (i.zero.map (fun z => z.cells.size), i.size, i.bytes)) = some (some 6, 6, 80) := by kernel_rfl
section
variable {w0 w w' : World} {gd n : Nat} {ρ : Nat → Nat} {S : Bool → SR} {vl vp : Value} {ls : List Lm} {ps : List ByteArray} {tw lo : Bool} {ld sd : Int}
theorem DW.grown (h : DW w0 gd ρ w S vl vp ls ps tw lo ld sd) {w3 w4 : World} (B3 : Below w.heap.size w w3) (hg : w3.grownBy w4 vl.ownBlock) : w4.rowOf gd = #[.pointer (some ⟨(S false).g, 0, none⟩), .pointer (some ⟨(S true).g, 0, none⟩), vl, vp, .bool tw, .bool lo, .int .i64 ld, .int .i64 sd] := by
  have h3 := h.below B3
  have t4 : TchS (fun g => vl.ownBlock = some g) w3 w4 := TchS.of_grown hg (fun g e => e)
  exact (t4.row (by rw [h3.row]; exact Nat.succ_pos 7) (fun e => by have := h.rl gd e; rw [h.rd] at this; omega)).trans h3.row
theorem DW.said (h : DW w0 gd ρ w S vl vp ls ps tw lo ld sd) (c : Lm) {w3 w4 : World} {v : Value} (B3 : Below w.heap.size w w3) (hg : w3.grownBy w4 vl.ownBlock) (ho : w4.ownsRow w0.heap.size 81 6 v (ls.length + 1) (lmCells ls ++ lmC c)) (hv : v.ownBlock = vl.ownBlock ∨ v.ownBlock = some w3.heap.size) :
    ∃ ρ', DW w0 gd ρ' (w4.setCell ⟨gd, 2, none⟩ v) S v vp (ls ++ [c]) ps tw lo ld sd := by
  have h3 := h.below B3
  have t4 : TchS (fun g => vl.ownBlock = some g) w3 w4 := TchS.of_grown hg (fun g e => e)
  have r4 := h.grown B3 hg
  obtain ⟨W, hW⟩ : ∃ W, W = w4.setCell ⟨gd, 2, none⟩ v := ⟨_, rfl⟩
  have t5 : TchS (fun g => g = gd) w4 W := by rw [hW]; exact TchS.of_tch (tch_own gd 2 w4 v) (fun _ => rfl)
  have T : TchS (fun g => g = gd ∨ vl.ownBlock = some g) w3 W := (t4.mono (fun g _ e => Or.inr e)).trans (t5.mono (fun g _ e => Or.inl e))
  obtain ⟨ρ', hρ⟩ : ∃ ρ' : Nat → Nat, ρ' = fun g => if v.ownBlock = some g then 2 else ρ g := ⟨_, rfl⟩
  have hsame : ∀ g, ρ g ≠ 0 → ρ' g = ρ g := fun g hg' => by
    rw [hρ]
    show (if v.ownBlock = some g then 2 else ρ g) = ρ g
    split
    · next e =>
      rcases hv with e2 | e2
      · rw [h.rl g (by rw [← e2]; exact e)]
      · rw [e2] at e; cases e; exact absurd (h3.rf _ (Nat.le_refl _)) hg'
    · rfl
  have hcase : ∀ g, ρ' g ≠ 0 → ρ g ≠ 0 ∨ (g = w3.heap.size ∧ v.ownBlock = some g) := fun g hg' => by
    by_cases e : v.ownBlock = some g
    · rcases hv with e2 | e2
      · left; rw [h.rl g (by rw [← e2]; exact e)]; decide
      · right; refine ⟨?_, e⟩; rw [e2] at e; exact (Option.some.inj e).symm
    · left; intro q; apply hg'; rw [hρ]; show (if v.ownBlock = some g then 2 else ρ g) = 0; rw [if_neg e]; exact q
  have n1 : ∀ g, ρ g ≠ 1 → ρ g ≠ 2 → ¬ (g = gd ∨ vl.ownBlock = some g) := fun g a1 a2 e => by
    rcases e with e | e
    · exact a1 (by rw [e]; exact h.rd)
    · exact a2 (h.rl g e)
  have nS : ∀ g, g = gd ∨ vl.ownBlock = some g → ρ g ≠ 0 := fun g e => by
    rcases e with e | e
    · rw [e, h.rd]; decide
    · rw [h.rl g e]; decide
  have ngv : ∀ g, v.ownBlock = some g → ¬ g = gd := fun g e q => by
    rcases hv with e2 | e2
    · have := h.rl g (by rw [← e2]; exact e); rw [q, h.rd] at this; omega
    · rw [e2] at e; have := Option.some.inj e; have := h3.lt; omega
  have hsz := T.size
  rw [← hW]
  refine ⟨ρ', ?_, T.below h3.bl h3.bl.size (fun g e => (h.old (nS g e)).1), h.tb, ?_, ?_, ?_, ?_, ?_, ?_, ?_, fun b => ?_, h.wf, fun b => ?_, fun b g hg' => ?_⟩
  · rw [hW]; exact row_setD r4 (Nat.succ_pos 7) 2 _ rfl
  · intro g hg'
    by_cases q : ρ' g = 0
    · exact q
    · rcases hcase g q with e | ⟨e, _⟩
      · exact absurd (h.rb g hg') e
      · have := h3.bl.size; omega
  · intro g hg'
    by_cases q : ρ' g = 0
    · exact q
    · rcases hcase g q with e | ⟨_, e⟩
      · have := (h3.old e).2; omega
      · have := (ho.lt g e).2; have := t5.size; omega
  · rw [hsame gd (by rw [h.rd]; decide)]; exact h.rd
  · rw [List.length_append, lmCells_append, show lmCells [c] = lmC c from List.append_nil _]
    exact t5.owns ho ngv
  · intro g e; rw [hρ]; show (if v.ownBlock = some g then 2 else ρ g) = 2; rw [if_pos e]
  · exact T.owns h3.op (fun g e => n1 g (by rw [h.rp g e]; decide) (by rw [h.rp g e]; decide))
  · intro g e; rw [hsame g (by rw [h.rp g e]; decide)]; exact h.rp g e
  · have hb := role_b b
    exact (h3.se b).tchS T (n1 _ (by rw [h.rs b]; omega) (by rw [h.rs b]; omega)) (fun g q => h.os b g (nS g q))
  · rw [hsame _ (h.rs0 b)]; exact h.rs b
  · rcases hcase g hg' with q | ⟨q, _⟩
    · exact h.os b g q
    · exact (h3.se b).fresh (by omega)
end
end Go.Proofs.YteghoooelgcpkabGreatDoor
namespace Go.Proofs.YteghoooelgcpkabGreatDoor
open Go.RowKit Go.Msg
theorem cells_six (w : World) (t : TypeId) (c : Lm) : ∀ j u, (lmC c)[j]? = some u → (w.alloc (.cells #[.bool c.odd, .string c.bytes, .string c.text, .string c.data, .bool c.read, .string c.before] t)).cell? ((⟨w.heap.size, 0, none⟩ : Addr).add j) = some u := fun j u hj => by
  have r : (w.alloc (.cells #[.bool c.odd, .string c.bytes, .string c.text, .string c.data, .bool c.read, .string c.before] t)).rowOf w.heap.size = #[.bool c.odd, .string c.bytes, .string c.text, .string c.data, .bool c.read, .string c.before] := rowOf_new2 _ _ _ _ rfl
  rw [Addr.add_mid, Nat.zero_add]
  exact rowcell r j u (by simpa [lmC] using hj)
theorem lmC_one (c : Lm) : ∀ u ∈ lmC c, u.oneCell' = true := fun u hu => by
  simp only [lmC, List.mem_cons, List.not_mem_nil, or_false] at hu
  rcases hu with rfl | rfl | rfl | rfl | rfl | rfl <;> rfl
theorem sent_size {c : Lm} {x0 : Sd} (h : Sent c x0) : 72 ≤ c.bytes.size := by
  rw [h.bytes]; exact (msgF_read h.wf h.ns c.text c.data h.tx).1.1
def LiveF (w0 : World) (gd n : Nat) (w : World) : Prop := ∃ ρ S vl vp ls ps tw ld sd, DW w0 gd ρ w S vl vp ls ps tw false ld sd ∧ DI S ls ps tw false n
def lmSaid (b : Bool) (x : Sd) (text data : ByteArray) : Lm := ⟨b, msgF x text data, text, data, false, keptB x⟩
theorem DI.say {S : Bool → SR} {ls : List Lm} {ps : List ByteArray} {tw : Bool} {n : Nat} (hi : DI S ls ps tw false n) (b : Bool) (hw : (S b).x.Wf) {r : SR} (hr : r.x = saidS (S b).x) (text data : ByteArray) (ht : text.size ≤ 200) (hd : data.size ≤ 100) (h0 : (S b).x.send ≠ ⟨#[]⟩) (hn : (S b).x.ns ≠ 300) :
    DI (updS S b r) (ls ++ [lmSaid b (S b).x text data]) ps tw false (n + 1) ∧ (tw = false → ∀ c ∈ ls, ¬ (c.bytes.extract 2 34 = (msgF (S b).x text data).extract 2 34 ∧ c.bytes.extract 36 38 = (msgF (S b).x text data).extract 36 38)) := by
  have sn : ∀ c ∈ ls ++ [lmSaid b (S b).x text data], ∃ x0, Sent c x0 ∧ x0.send.size = 32 := fun c hc => by
    rcases List.mem_append.1 hc with q | q
    · exact hi.sn c q
    · rw [List.mem_singleton.1 q]
      exact ⟨(S b).x, ⟨hw, by have := hw.ns; omega, rfl, rfl, ht, hd⟩, hw.send.resolve_left (fun z => h0 (by
        cases hq : (S b).x.send with
        | mk dd => rw [hq] at z; have : dd = #[] := Array.eq_empty_of_size_eq_zero z; rw [this]))⟩
  have nl : (ls ++ [lmSaid b (S b).x text data]).length ≤ n + 1 := by rw [List.length_append]; have := hi.nl; simp; omega
  have np : ps.length ≤ 2 * (n + 1) + 2 := by have := hi.np; omega
  cases b
  · refine ⟨⟨sn, fun a e => ?_, nl, np⟩, fun a => ((hi.tk a rfl).sayE text data ht hd h0 hn).2⟩
    rw [updS_same, updS_ne S _ (by decide), hr]
    exact ((hi.tk a rfl).sayE text data ht hd h0 hn).1
  · refine ⟨⟨sn, fun a e => ?_, nl, np⟩, fun a => ((hi.tk a rfl).sayO text data ht hd h0 hn).2⟩
    rw [updS_same, updS_ne S _ (by decide), hr]
    exact ((hi.tk a rfl).sayO text data ht hd h0 hn).1
set_option maxRecDepth 4000 in
set_option maxHeartbeats 4000000 in
theorem says_f {w0 w : World} {gd n : Nat} (hl : LiveF w0 gd n w) (hN : n ≤ 2000000) (b : Bool) (text data : ByteArray) :
    Calls Tryz.prog 14 #[.pointer (some ⟨gd, 0, none⟩), .bool b, .string text, .string data] w fun e w' => e = .returned (.bool true) ∧ Live w0 gd (n + 1) w' := by
  obtain ⟨ρ, S, vl, vp, ls, ps, tw, ld, sd, h, hi⟩ := hl
  have HS := Hid.mk (side_f h b)
  have H := Hid.mk h
  have HI := Hid.mk hi
  have HX := Hid.mk (export_f (S b).x (h.wf b) (S b).g (S b).vK (S b).vP (S b).vD w (h.se b))
  have HE : Hid (∀ w2, Below w.heap.size w w2 → Calls Tryz.prog 35 #[.pointer (some ⟨(S b).g, 0, none⟩)] w2 fun e w' => e = .returned (.string (keptB (S b).x)) ∧ Below w2.heap.size w2 w') := Hid.mk (fun w2 q => export_f (S b).x (h.wf b) (S b).g (S b).vK (S b).vP (S b).vD w2 ((h.se b).below q))
  by_cases hbad : 200 < text.size ∨ 100 < data.size
  · have HM : Hid (∀ w1, Calls Tryz.prog 42 #[.pointer (some ⟨(S b).g, 0, none⟩), .string text, .string data] w1 fun e w' => e = .returned (.tuple #[.string ⟨#[]⟩, .int .i64 2]) ∧ Below w1.heap.size w1 w') := Hid.mk (fun w1 => send_long _ text data hbad w1)
    clear h hi
    generalize hK : keptB (S b).x = K at *
    by_cases ht : 200 < text.size
    · have c1 : (text.size : Int) > 200 := by omega
      go_enter Tryz.func14, Tryz.ntmps14
      go_wp2_with (first
        | (go_at_call 41; with_reducible refine HS.out.mono ?_; rintro e w1 ⟨rfl, rfl⟩)
        | (go_at_call 42; with_reducible refine (HM.out _).mono ?_; rintro e w2 ⟨rfl, b2⟩; have B2 := below_lift b1 b1.size b2)
        | (go_at_call 35; with_reducible refine HX.out.mono ?_; rintro e w1 ⟨rfl, b1⟩)
        | (go_at_call 35; with_reducible refine (HE.out _ B2).mono ?_; rintro e w3 ⟨rfl, b3⟩)
        | fail)
      go_ret
      exact ⟨rfl, ρ, S, _, _, _, _, _, _, _, _, H.out.below (below_lift B2 B2.size b3), HI.out.mono (Nat.le_succ _)⟩
    · have c1 : ¬ (text.size : Int) > 200 := by omega
      have c2 : (data.size : Int) > 100 := by omega
      go_enter Tryz.func14, Tryz.ntmps14
      go_wp2_with (first
        | (go_at_call 41; with_reducible refine HS.out.mono ?_; rintro e w1 ⟨rfl, rfl⟩)
        | (go_at_call 42; with_reducible refine (HM.out _).mono ?_; rintro e w2 ⟨rfl, b2⟩; have B2 := below_lift b1 b1.size b2)
        | (go_at_call 35; with_reducible refine HX.out.mono ?_; rintro e w1 ⟨rfl, b1⟩)
        | (go_at_call 35; with_reducible refine (HE.out _ B2).mono ?_; rintro e w3 ⟨rfl, b3⟩)
        | fail)
      go_ret
      exact ⟨rfl, ρ, S, _, _, _, _, _, _, _, _, H.out.below (below_lift B2 B2.size b3), HI.out.mono (Nat.le_succ _)⟩
  · have ht : text.size ≤ 200 := by omega
    have hd : data.size ≤ 100 := by omega
    have c1 : ¬ (text.size : Int) > 200 := by omega
    have c2 : ¬ (data.size : Int) > 100 := by omega
    by_cases hno : (S b).x.send = ⟨#[]⟩ ∨ (S b).x.ns = 300
    · have HM : Hid (∀ w1, Below w.heap.size w w1 → Calls Tryz.prog 42 #[.pointer (some ⟨(S b).g, 0, none⟩), .string text, .string data] w1 fun e w' => ∃ z : Int, e = .returned (.tuple #[.string ⟨#[]⟩, .int .i64 z]) ∧ (z = 3 ∨ z = 4) ∧ Below w1.heap.size w1 w') := Hid.mk (fun w1 b1 => (send_f (S b).x (h.wf b) (S b).g (S b).vK (S b).vP (S b).vD text data ht hd w1 (h.tbl.below b1) ((h.se b).below b1) (h.off b)).mono (fun e w' q => by
        rcases q with ⟨_, q2, q3⟩ | ⟨_, _, q2, q3⟩ | ⟨q1, q2, _⟩
        · exact ⟨3, q2, Or.inl rfl, q3⟩
        · exact ⟨4, q2, Or.inr rfl, q3⟩
        · exact absurd hno (fun q => q.elim q1 q2)))
      clear h hi
      generalize hK : keptB (S b).x = K at *
      go_enter Tryz.func14, Tryz.ntmps14
      go_upto_region 4 with (first
        | (go_at_call 41; with_reducible refine HS.out.mono ?_; rintro e w1 ⟨rfl, rfl⟩)
        | (go_at_call 42; with_reducible refine (HM.out _ b1).mono ?_; rintro e w2 ⟨z, rfl, hz, b2⟩; have B2 := below_lift b1 b1.size b2)
        | (go_at_call 35; with_reducible refine HX.out.mono ?_; rintro e w1 ⟨rfl, b1⟩)
        | fail)
      rcases hz with rfl | rfl
      all_goals go_wp2_with (first
        | (go_at_call 35; with_reducible refine (HE.out _ B2).mono ?_; rintro e w3 ⟨rfl, b3⟩)
        | fail)
      all_goals go_ret
      all_goals exact ⟨rfl, ρ, S, _, _, _, _, _, _, _, _, H.out.below (below_lift B2 B2.size b3), HI.out.mono (Nat.le_succ _)⟩
    · have h0 : (S b).x.send ≠ ⟨#[]⟩ := fun q => hno (Or.inl q)
      have h3 : (S b).x.ns ≠ 300 := fun q => hno (Or.inr q)
      have HM : Hid (∀ w1, Below w.heap.size w w1 → Calls Tryz.prog 42 #[.pointer (some ⟨(S b).g, 0, none⟩), .string text, .string data] w1 fun e w' => e = .returned (.tuple #[.string (msgF (S b).x text data), .int .i64 0]) ∧ Hid (AskP (S b).g w (S b).vK (S b).vP (S b).vD (saidS (S b).x) w')) := Hid.mk (fun w1 b1 => (send_f (S b).x (h.wf b) (S b).g (S b).vK (S b).vP (S b).vD text data ht hd w1 (h.tbl.below b1) ((h.se b).below b1) (h.off b)).mono (fun e w' q => by
        rcases q with ⟨q1, _⟩ | ⟨_, q1, _⟩ | ⟨_, _, q1, q2, q3⟩
        · exact absurd q1 h0
        · exact absurd q1 h3
        · exact ⟨q1, Hid.mk (AskP.pre ⟨q3, _, _, _, q2, fun _ _ o => o⟩ b1)⟩))
      have HSY : Hid (∀ r : SR, r.x = saidS (S b).x → DI (updS S b r) (ls ++ [lmSaid b (S b).x text data]) ps tw false (n + 1) ∧ (tw = false → ∀ c ∈ ls, ¬ (c.bytes.extract 2 34 = (msgF (S b).x text data).extract 2 34 ∧ c.bytes.extract 36 38 = (msgF (S b).x text data).extract 36 38))) := Hid.mk (fun r hr => hi.say b (h.wf b) hr text data ht hd h0 h3)
      have HWF := Hid.mk (saidS_wf (h.wf b) h3)
      have HSZ : Hid (72 ≤ (msgF (S b).x text data).size) := Hid.mk (msgF_read (h.wf b) (by have := (h.wf b).ns; omega) text data ht).1.1
      have HLM : Hid (lmC (lmSaid b (S b).x text data) = [.bool b, .string (msgF (S b).x text data), .string text, .string data, .bool false, .string (keptB (S b).x)]) := Hid.mk rfl
      have hnl := hi.nl
      clear h hi
      go_enter Tryz.func14, Tryz.ntmps14
      go_upto_region 4 with (first
        | (go_at_call 41; with_reducible refine HS.out.mono ?_; rintro e w1 ⟨rfl, rfl⟩)
        | (go_at_call 42; with_reducible refine (HM.out _ b1).mono ?_; rintro e w2 ⟨rfl, HQ⟩)
        | (go_at_call 35; with_reducible refine HX.out.mono ?_; rintro e w1 ⟨rfl, b1⟩)
        | fail)
      obtain ⟨r, r1, r2, D2⟩ := H.out.ses b HWF.out HQ.out
      have HDI := HSY.out r r2
      have HF := Hid.mk (fresh_f D2 (by omega) (msgF (S b).x text data) (by have := HSZ.out; omega) (fun c hc => by obtain ⟨x0, q, _⟩ := HI.out.sn c hc; have := sent_size q; omega) HDI.2)
      have HD2 := Hid.mk D2
      have HDI2 := Hid.mk HDI.1
      clear D2 HDI
      go_upto_region 11 with (first
        | (go_at_call 43; with_reducible refine HF.out.mono ?_; rintro e w3 ⟨rfl, b3⟩)
        | fail)
      have D3 := HD2.out.below b3
      have k2 := dp_c2 D3.row
      have hlt := D3.lt
      have hbl := D3.bl.size
      have HD3 := Hid.mk D3
      clear D3
      generalize hM : msgF (S b).x text data = M at *
      generalize hK : keptB (S b).x = K at *
      generalize hnL : ls.length = nL at *
      have HO : Hid (w3.ownsRow w0.heap.size 81 6 vl nL (lmCells ls)) := Hid.mk (by rw [← hnL]; exact HD3.out.ol)
      go_wp2_with (first
        | (at_builtin; refine wpl_appendT Tryz.underlying33 iSent (by omega) (by omega) rfl _ _ rfl w0.heap.size vl nL (lmCells ls) rfl (HO.out.alloc _) ⟨w3.heap.size, 0, none⟩ 1 1 (lmC ⟨b, M, text, data, false, K⟩) rfl (by omega) rfl (cells_six _ _ _) (lmC_one _) (by omega) (by omega) ?_ ?_; (focus (simp; omega)); intro v w4 hown hg hat; obtain ⟨aV, cV, eV⟩ := own_sl hown; subst eV; (have G4 := DW.grown HD3.out (by_alloc _ _) hg); have k4 := dp_c2 G4; have z4 := dp_z G4 2 (by omega); have HG := Hid.mk hg; have HW := Hid.mk hown; have HA := Hid.mk hat; clear hg hown hat G4)
        | fail)
      go_ret
      subst hnL
      obtain ⟨ρ', hd'⟩ := HD3.out.said ⟨b, M, text, data, false, K⟩ (by_alloc _ _) HG.out HW.out HA.out
      refine ⟨rfl, ρ', _, _, _, _, _, _, _, _, _, hd', ?_⟩
      have q := HDI2.out
      unfold lmSaid at q
      rw [hM, hK] at q
      exact q
end Go.Proofs.YteghoooelgcpkabGreatDoor
namespace Go.Proofs.YteghoooelgcpkabGreatDoor
open Go.RowKit Go.Msg
theorem rtDesk : RowTy Tryz.prog 36 8 := ⟨by decide, by kernel_rfl, _, Tryz.underlying36, rfl⟩
theorem offs_nilS (g : Nat) : Offs g nilS nilS nilS := ⟨Off.nil g, Off.nil g, Off.nil g⟩
structure Shell (w0 : World) (gd : Nat) (w : World) : Prop where
  row : (w.rowOf gd).size = 8
  bl : Below w0.heap.size w0 w
  tb : Tbl w0
  old : w0.heap.size ≤ gd
theorem Live.shell {w0 w : World} {gd n : Nat} (h : Live w0 gd n w) : Shell w0 gd w := by
  obtain ⟨ρ, S, vl, vp, ls, ps, tw, lo, ld, sd, h, _⟩ := h
  exact ⟨by rw [h.row]; rfl, h.bl, h.tb, (h.old (by rw [h.rd]; decide)).1⟩
theorem DW.begun {w0 w4 w5 w6 : World} {gd ge go : Nat} {vp : Value} {ps : List ByteArray} {tw : Bool} {ld sd : Int} {x y : Sd} (hx : x.Wf) (hy : y.Wf) (bl : Below w0.heap.size w0 w4) (tb : Tbl w0) (old : w0.heap.size ≤ gd) (d : DP w0.heap.size gd w4 (.pointer none) (.pointer none) nilS vp ps tw (.bool false) ld sd)
    (h1 : w4.heap.size ≤ ge) (s1 : SesAt w5 ge x nilS nilS nilS) (b5 : Below w4.heap.size w4 w5) (h2 : w5.heap.size ≤ go) (s2 : SesAt w6 go y nilS nilS nilS) (b6 : Below w5.heap.size w5 w6) :
    ∃ ρ, DW w0 gd ρ ((w6.setCell ⟨gd, 0, none⟩ (.pointer (some ⟨ge, 0, none⟩))).setCell ⟨gd, 1, none⟩ (.pointer (some ⟨go, 0, none⟩))) (fun b => if b then ⟨go, y, nilS, nilS, nilS⟩ else ⟨ge, x, nilS, nilS, nilS⟩) nilS vp [] ps tw false ld sd := by
  have lt4 := dp_lt d.row
  have lt5 := s1.lt
  have lt6 := s2.lt
  have z5 := b5.size
  have z6 := b6.size
  have d6 := (d.below b5).below b6
  have hvp : ∀ g, vp.ownBlock = some g → g < w4.heap.size := fun g e => (d.op.lt g e).2
  have hvb : ∀ g, vp.ownBlock = some g → w0.heap.size ≤ g := fun g e => (d.op.lt g e).1
  obtain ⟨ρ, hρ⟩ : ∃ ρ : Nat → Nat, ρ = fun g => if g = gd then 1 else if vp.ownBlock = some g then 3 else if g = ge then 4 else if g = go then 5 else 0 := ⟨_, rfl⟩
  have r1 : ρ gd = 1 := by rw [hρ]; exact if_pos rfl
  have r3 : ∀ g, vp.ownBlock = some g → ρ g = 3 := fun g e => by
    rw [hρ]; show (if g = gd then 1 else if vp.ownBlock = some g then 3 else if g = ge then 4 else if g = go then 5 else 0) = 3
    rw [if_neg (d.ne g e), if_pos e]
  have r4 : ρ ge = 4 := by
    rw [hρ]; show (if ge = gd then 1 else if vp.ownBlock = some ge then 3 else if ge = ge then 4 else if ge = go then 5 else 0) = 4
    rw [if_neg (by omega), if_neg (fun e => by have := hvp ge e; omega), if_pos rfl]
  have r5 : ρ go = 5 := by
    rw [hρ]; show (if go = gd then 1 else if vp.ownBlock = some go then 3 else if go = ge then 4 else if go = go then 5 else 0) = 5
    rw [if_neg (by omega), if_neg (fun e => by have := hvp go e; omega), if_neg (by omega), if_pos rfl]
  have hcase : ∀ g, ρ g ≠ 0 → g = gd ∨ vp.ownBlock = some g ∨ g = ge ∨ g = go := fun g hg => by
    by_cases e1 : g = gd
    · exact Or.inl e1
    · by_cases e2 : vp.ownBlock = some g
      · exact Or.inr (Or.inl e2)
      · by_cases e3 : g = ge
        · exact Or.inr (Or.inr (Or.inl e3))
        · by_cases e4 : g = go
          · exact Or.inr (Or.inr (Or.inr e4))
          · exact absurd (by rw [hρ]; show (if g = gd then 1 else if vp.ownBlock = some g then 3 else if g = ge then 4 else if g = go then 5 else 0) = 0; rw [if_neg e1, if_neg e2, if_neg e3, if_neg e4]) hg
  obtain ⟨W, hW⟩ : ∃ W, W = (w6.setCell ⟨gd, 0, none⟩ (.pointer (some ⟨ge, 0, none⟩))).setCell ⟨gd, 1, none⟩ (.pointer (some ⟨go, 0, none⟩)) := ⟨_, rfl⟩
  have T : TchS (fun g => g = gd) w6 W := by rw [hW]; exact TchS.of_tch ((tch_own gd 0 w6 _).trans (tch_own gd 1 _ _)) (fun _ => rfl)
  have bl6 : Below w0.heap.size w0 w6 := below_lift (below_lift bl bl.size b5) (Nat.le_trans bl.size z5) b6
  have bz := bl.size
  have tz := T.size
  rw [← hW]
  refine ⟨ρ, ?_, T.below bl6 bl6.size (fun g e => by omega), tb, ?_, ?_, r1, World.ownsRow_nil _ _ _ _, fun g q => (by cases q), T.owns d6.op (fun g e => d.ne g e), r3, fun b => ?_, fun b => ?_, fun b => ?_, fun b g _ => ?_⟩
  · rw [hW]
    exact row_setD (row_setD d6.row (Nat.succ_pos 7) 0 _ rfl) (Nat.succ_pos 7) 1 _ rfl
  · intro g hg
    by_cases q : ρ g = 0
    · exact q
    · rcases hcase g q with e | e | e | e
      · omega
      · have := hvb g e; omega
      · omega
      · omega
  · intro g hg
    by_cases q : ρ g = 0
    · exact q
    · rcases hcase g q with e | e | e | e
      · omega
      · have := hvp g e; omega
      · omega
      · omega
  · cases b
    · exact (s1.below b6).tchS T (by omega) (fun g _ => offs_nilS g)
    · exact s2.tchS T (by omega) (fun g _ => offs_nilS g)
  · cases b
    · exact hx
    · exact hy
  · cases b
    · exact r4
    · exact r5
  · cases b
    · exact offs_nilS g
    · exact offs_nilS g
set_option maxRecDepth 4000 in
set_option maxHeartbeats 4000000 in
theorem talk_f {w0 w : World} {gd : Nat} (h : Shell w0 gd w) (a : Int) (m : Nat) :
    Calls Tryz.prog 13 #[.pointer (some ⟨gd, 0, none⟩), .int .i64 a] w fun e w' => e = .returned (.bool true) ∧ Live w0 gd m w' := by
  have H := Hid.mk h
  obtain ⟨W, hW⟩ : ∃ W, W = w.setRow gd #[.pointer none, .pointer none, .slice none 0 0, .slice none 0 0, .bool false, .bool false, .int .i64 0, .int .i64 a] := ⟨_, rfl⟩
  have HW : Hid (w.setRow gd #[.pointer none, .pointer none, .slice none 0 0, .slice none 0 0, .bool false, .bool false, .int .i64 0, .int .i64 a] = W) := Hid.mk hW.symm
  have BW : Below w0.heap.size w0 W := by rw [hW]; exact below_setRow h.bl h.old _
  have D0 : DP w0.heap.size gd W (.pointer none) (.pointer none) nilS nilS [] false (.bool false) 0 a := ⟨by rw [hW]; exact rowOf_setRow_same (by rw [h.row]; decide), World.ownsRow_nil _ _ _ _, fun g q => (by cases q)⟩
  have HD0 := Hid.mk D0
  have HBW := Hid.mk BW
  have hsz : (w.rowOf gd).size = 8 := h.row
  have HS8 : Hid (((#[.pointer none, .pointer none, .slice none 0 0, .slice none 0 0, .bool false, .bool false, .int .i64 0, .int .i64 a] : Array Value)).size = 8) := Hid.mk rfl
  have HAL : Hid (((#[.pointer none, .pointer none, .slice none 0 0, .slice none 0 0, .bool false, .bool false, .int .i64 0, .int .i64 a] : Array Value)).all (·.oneCell') = true) := Hid.mk (by simp [Value.oneCell'])
  have HSZ := Hid.mk hsz
  clear h hW D0 BW hsz
  go_enter Tryz.func13, Tryz.ntmps13
  go_upto_region 5 with (first
    | (refine at_store 36 rfl ?_; refine wpl_store rtDesk rfl _ _ rfl gd rfl #[.pointer none, .pointer none, .slice none 0 0, .slice none 0 0, .bool false, .bool false, .int .i64 0, .int .i64 a] rfl HSZ.out HS8.out HAL.out W HW.out ?_)
    | (go_at_call 37; refine (drawn_any _ _ W).mono ?_; rintro e w1 ⟨s, rfl, hs, b1⟩)
    | (go_at_call 37; refine (drawn_any _ _ w1).mono ?_; rintro e w2 ⟨k, rfl, hk, b2⟩)
    | (go_at_call 37; refine (drawn_any _ _ w2).mono ?_; rintro e w3 ⟨l, rfl, hl, b3⟩)
    | fail)
  have B3 : Below W.heap.size W w3 := below_lift (below_lift b1 b1.size b2) (Nat.le_trans b1.size b2.size) b3
  have BL3 : Below w0.heap.size w0 w3 := below_lift HBW.out HBW.out.size B3
  have HP1 := Hid.mk (point_f (HD0.out.below B3) BL3.size l hl (Nat.zero_le _))
  go_upto_region 6 with (first | (go_at_call 38; with_reducible refine HP1.out.mono ?_; rintro e w4 ⟨rfl, hq⟩; have HQ := Hid.mk hq; clear hq) | fail)
  obtain ⟨vp1, D1, T1, F1⟩ := HQ.out
  have BL4 : Below w0.heap.size w0 w4 := T1.below BL3 BL3.size (fun g e => by
    rcases e with e | e
    · rw [e]; exact H.out.old
    · cases e)
  have HP2 := Hid.mk (point_f D1 BL4.size k hk (show 1 ≤ 4000000 by decide))
  have HD1 := Hid.mk D1
  have HBL4 := Hid.mk BL4
  clear D1 T1 F1 BL4 BL3
  go_upto_region 7 with (first | (go_at_call 38; with_reducible refine HP2.out.mono ?_; rintro e w5 ⟨rfl, hq⟩; have HQ2 := Hid.mk hq; clear hq) | fail)
  obtain ⟨vp2, D2, T2, F2⟩ := HQ2.out
  have BL5 : Below w0.heap.size w0 w5 := T2.below HBL4.out HBL4.out.size (fun g e => by
    rcases e with e | e
    · rw [e]; exact H.out.old
    · exact (HD1.out.op.lt g e).1)
  have HD2 := Hid.mk D2
  have HBL5 := Hid.mk BL5
  have HT : Hid (Tbl w5) := Hid.mk (H.out.tb.below BL5)
  have HM1 : Hid (Calls Tryz.prog 39 #[.string s, .string (pubF l), .string k] w5 fun e w' => ∃ g, e = .returned (.tuple #[.pointer (some ⟨g, 0, none⟩), .int .i64 0]) ∧ Hid (w5.heap.size ≤ g ∧ SesAt w' g (startS s (pubF l) k) nilS nilS nilS ∧ Below w5.heap.size w5 w')) := Hid.mk ((sstart_f s (pubF l) k hs (pubF_size _) hk w5 HT.out).mono (fun e w' q => by
    rcases q.1 with ⟨q1, _⟩ | ⟨_, g, q1, q2, q3⟩
    · exact absurd q1 (dh_ne k l)
    · exact ⟨g, q2, Hid.mk ⟨q1, q3, q.2⟩⟩))
  have HM2 : Hid (∀ w6, Calls Tryz.prog 40 #[.string s, .string l] w6 fun e w' => e = .returned (.tuple #[.pointer (some ⟨w6.heap.size, 0, none⟩), .int .i64 0]) ∧ Hid (SesAt w' w6.heap.size (waitS s l) nilS nilS nilS ∧ Below w6.heap.size w6 w')) := Hid.mk (fun w6 => (swait_f s l w6).mono (fun e w' q => by
    rcases q.1 with ⟨q1, _⟩ | ⟨_, q1, q2⟩
    · exact absurd ⟨hs, hl⟩ q1
    · exact ⟨q1, Hid.mk ⟨q2, q.2⟩⟩))
  have hpz : ((pubF l).size : Int) = 32 := by rw [pubF_size]; rfl
  clear D2 T2 F2 BL5
  go_upto_region 9 with (first
    | (go_at_call 39; with_reducible refine HM1.out.mono ?_; rintro e w6 ⟨ge, rfl, HS1⟩)
    | (go_at_call 40; with_reducible refine (HM2.out _).mono ?_; rintro e w7 ⟨rfl, HS2⟩)
    | fail)
  have D7 := (HD2.out.below HS1.out.2.2).below HS2.out.2
  have hlt7 := dp_lt D7.row
  have k0 := dp_c0 D7.row
  have k1 := dp_c1 D7.row
  have z0 := dp_z D7.row 0 (by omega)
  have z1 := dp_z D7.row 1 (by omega)
  have HDW := Hid.mk (DW.begun (startS_wf (pubF_size _) hk) (waitS_wf hs hl) HBL5.out H.out.tb H.out.old HD2.out HS1.out.1 HS1.out.2.1 HS1.out.2.2 (Nat.le_refl _) HS2.out.1 HS2.out.2)
  generalize w6.heap.size = go at *
  clear D7
  go_wp2_with fail
  go_ret
  obtain ⟨ρ, hd⟩ := HDW.out
  refine ⟨rfl, ρ, _, _, _, _, _, _, _, _, _, hd, ⟨fun c hc => (by cases hc), fun e _ => ?_, Nat.zero_le _, by simp⟩⟩
  have hne : pubF l ≠ pubF k := fun q => by simp [q] at e
  exact Talk.init hs hk hl hne
end Go.Proofs.YteghoooelgcpkabGreatDoor
namespace Go.Proofs.YteghoooelgcpkabGreatDoor
open Go.RowKit Go.Msg
theorem own_setS {w : World} {B e s n g i : Nat} {v u : Value} {xs : List Value} (h : w.ownsRow B e s v n xs) (hv : v.ownBlock = some g) : (w.setCell ⟨g, i, none⟩ u).ownsRow B e s v n (xs.set i u) := by
  obtain ⟨h1, h2⟩ := h
  refine ⟨by rw [List.length_set]; exact h1, ?_⟩
  rcases h2 with ⟨q, _⟩ | ⟨g', cap, cur, e1, e2, e3, e4, e5, e6, e7⟩
  · rw [q] at hv; cases hv
  · subst e1
    have hg : g' = g := by simpa [Value.ownBlock] using hv
    subst hg
    refine Or.inr ⟨g', cap, cur.setIfInBounds i u, rfl, e2, heap_setCell_same w g' i _ e u e3, e4, e5, by simpa using e6, ?_⟩
    rw [Array.toList_setIfInBounds, List.take_set, e7]
theorem lmCells_set {ls : List Lm} {k : Nat} {c : Lm} (h : ls[k]? = some c) : lmCells (ls.set k { c with read := true }) = (lmCells ls).set (k * 6 + 4) (.bool true) := by
  induction ls generalizing k with
  | nil => simp at h
  | cons d ls ih =>
    cases k with
    | zero =>
      simp only [List.getElem?_cons_zero, Option.some.injEq] at h
      subst h
      rfl
    | succ k =>
      rw [List.getElem?_cons_succ] at h
      rw [List.set_cons_succ, lmCells_cons, lmCells_cons, ih h, List.set_append_right _ _ (by simp [lmC]; omega), show (k + 1) * 6 + 4 - (lmC d).length = k * 6 + 4 from by simp [lmC]; omega]
section
variable {w0 w w' : World} {gd n : Nat} {ρ : Nat → Nat} {S : Bool → SR} {vl vp : Value} {ls : List Lm} {ps : List ByteArray} {tw lo : Bool} {ld sd : Int}
theorem DW.mark (h : DW w0 gd ρ w S vl vp ls ps tw lo ld sd) {k g : Nat} {c : Lm} (hc : ls[k]? = some c) (hv : vl.ownBlock = some g) :
    DW w0 gd ρ (w.setCell ⟨g, k * 6 + 4, none⟩ (.bool true)) S vl vp (ls.set k { c with read := true }) ps tw lo ld sd := by
  have T : TchS (fun q => q = g) w (w.setCell ⟨g, k * 6 + 4, none⟩ (.bool true)) := TchS.of_tch (tch_own g _ w _) (fun _ => rfl)
  have hr := h.rl g hv
  have n1 : ∀ q, ρ q ≠ 2 → ¬ q = g := fun q hq e => hq (by rw [e]; exact hr)
  refine ⟨(T.row (by rw [h.row]; exact Nat.succ_pos 7) (n1 gd (by rw [h.rd]; decide))).trans h.row, T.below h.bl h.bl.size (fun q e => by rw [e]; exact (h.old (by rw [hr]; decide)).1), h.tb, h.rb, fun q hq => h.rf q (Nat.le_trans T.size hq), h.rd, ?_, h.rl, T.owns h.op (fun q e => n1 q (by rw [h.rp q e]; decide)), h.rp, fun b => ?_, h.wf, h.rs, h.os⟩
  · rw [List.length_set, lmCells_set hc]; exact own_setS h.ol hv
  · have hb := role_b b
    exact (h.se b).tchS T (n1 _ (by rw [h.rs b]; omega)) (fun q e => h.os b q (by rw [e, hr]; decide))
theorem DI.laid (hi : DI S ls ps tw false n) {b : Bool} {r : SR} {ps' : List ByteArray} {tw' : Bool} (hl : ps'.length ≤ ps.length + 1)
    (alt : (r.x = (S b).x ∧ ps' = ps ∧ tw' = tw ∧ ¬ (S b).x.draws.length < 8) ∨ ∃ k : ByteArray, k.size = 32 ∧ (S b).x.draws.length < 8 ∧ r.x = laidS (S b).x k ∧ ps' = ps ++ [pubF k] ∧ tw' = (tw || ps.any (fun t => decide (t = pubF k)))) :
    DI (updS S b r) ls ps' tw' false (n + 1) ∧ r.x.draws ≠ [] := by
  have nl := hi.nl
  have np := hi.np
  rcases alt with ⟨e, e1, e2, e3⟩ | ⟨k, k1, k2, e, e1, e2⟩
  · subst e1 e2
    refine ⟨(hi.mono (Nat.le_succ _)).same (fun c => ?_), fun q => e3 (by rw [← e, q]; decide)⟩
    by_cases q : c = b
    · rw [q, updS_same]; exact e
    · rw [updS_ne S _ q]
  · subst e1
    refine ⟨⟨hi.sn, fun a z => ?_, by omega, by omega⟩, fun q => ?_⟩
    · rw [e2, Bool.or_eq_false_iff] at a
      cases b
      · rw [updS_same, updS_ne S _ (by decide), e]
        exact (hi.tk a.1 rfl).layE k1 k2 a.2
      · rw [updS_same, updS_ne S _ (by decide), e]
        exact (hi.tk a.1 rfl).layO k1 k2 a.2
    · have q' : (S b).x.draws ++ [k] = [] := by rw [e] at q; exact q
      simp at q'
end
end Go.Proofs.YteghoooelgcpkabGreatDoor
namespace Go.Proofs.YteghoooelgcpkabGreatDoor
open Go.RowKit Go.Msg
section
variable {w0 w w' : World} {gd n : Nat} {ρ : Nat → Nat} {S : Bool → SR} {vl vp : Value} {ls : List Lm} {ps : List ByteArray} {tw lo : Bool} {ld sd : Int}
theorem DW.lm (h : DW w0 gd ρ w S vl vp ls ps tw lo ld sd) {k g : Nat} {c : Lm} (hc : ls[k]? = some c) (hv : vl.ownBlock = some g) : LmAt w g k c := by
  obtain ⟨ao, cap, g', e, ha, hl⟩ := own_lms h.ol
  have h2 := (ha (Nat.lt_of_le_of_lt (Nat.zero_le _) (List.getElem?_eq_some_iff.1 hc).1)).2
  have : g' = g := Option.some.inj (h2.symm.trans hv)
  subst this
  exact hl k c hc
theorem DI.hear (hi : DI S ls ps tw lo n) (h1 : tw = false) (h2 : lo = false) {k : Nat} {c : Lm} (hc : ls[k]? = some c) (hd : (S (!c.odd)).x.draws ≠ []) : ∃ x0, Sent c x0 ∧ ∀ b data, IsMsg b → (ptF b).point = (ptF c.bytes).point → (ptF b).n = (ptF c.bytes).n → (ptF b).ahead = (ptF c.bytes).ahead →
    Heard (S (!c.odd)).x c (keyF x0.send) b data ls.length (fun y => ∀ r : SR, r.x = y → Talk (updS S (!c.odd) r false).x (updS S (!c.odd) r true).x (ls.set k { c with read := true }) ps) := by
  obtain ⟨x0, s, f⟩ := (hi.tk h1 h2).hear hc
  refine ⟨x0, s, fun b data q1 q2 q3 q4 => ?_⟩
  obtain ⟨fE, fO⟩ := f b data q1 q2 q3 q4
  by_cases ho : c.odd = true
  · have hb : (!c.odd) = false := by rw [ho]; rfl
    rw [hb] at hd ⊢
    rcases fE ho hd with q | ⟨y, a1, a2, a3, a4⟩
    · exact Or.inl q
    · refine Or.inr ⟨y, a1, a2, a3, fun r hr => ?_⟩
      rw [updS_same, updS_ne S _ (by decide), hr]; exact a4
  · have ho' : c.odd = false := by simpa using ho
    have hb : (!c.odd) = true := by rw [ho']; rfl
    rw [hb] at hd ⊢
    rcases fO ho' hd with q | ⟨y, a1, a2, a3, a4⟩
    · exact Or.inl q
    · refine Or.inr ⟨y, a1, a2, a3, fun r hr => ?_⟩
      rw [updS_same, updS_ne S _ (by decide), hr]; exact a4
theorem DI.deliver (hi : DI S ls ps tw lo n) (h1 : tw = false) (h2 : lo = false) {k : Nat} {c : Lm} (hc : ls[k]? = some c) (hd : (S (!c.odd)).x.draws ≠ []) :
    ((heardS (S (!c.odd)).x c.bytes c.data).2.2 ≠ 0 ∧ (c.read = true → (heardS (S (!c.odd)).x c.bytes c.data).2.2 = 6) ∧ (c.read = false → 20 < ls.length)) ∨
    ((heardS (S (!c.odd)).x c.bytes c.data).2.2 = 0 ∧ c.read = false ∧ (heardS (S (!c.odd)).x c.bytes c.data).2.1 = c.text ∧ ∀ r : SR, r.x = (heardS (S (!c.odd)).x c.bytes c.data).1 → Talk (updS S (!c.odd) r false).x (updS S (!c.odd) r true).x (ls.set k { c with read := true }) ps) := by
  obtain ⟨x0, s, f⟩ := hi.hear h1 h2 hc hd
  obtain ⟨z1, z2⟩ := msgF_read s.wf s.ns c.text c.data s.tx
  rw [← s.bytes] at z1 z2
  have e0 : heardS (S (!c.odd)).x c.bytes c.data = hearS (S (!c.odd)).x c.bytes c.data := by unfold heardS; rw [if_pos s.dt]
  rw [e0]
  have F := f c.bytes c.data z1 rfl rfl rfl
  unfold Heard at F
  rw [z2] at F
  rcases F with ⟨e, a1, a2, a3⟩ | ⟨y, a1, a2, a3, a4⟩
  · left
    rw [a2]
    rcases a3 with a3 | ⟨a3, a4⟩
    · exact absurd rfl a3
    · refine ⟨a1, a3, fun q => ?_⟩
      by_cases z : ls.length ≤ 20
      · rw [a4 z] at q; cases q
      · omega
  · right
    rw [a1]
    exact ⟨rfl, a3, turnF_inv _ _, a4⟩
end
end Go.Proofs.YteghoooelgcpkabGreatDoor
namespace Go.Proofs.YteghoooelgcpkabGreatDoor
open Go.RowKit Go.Msg
section
variable {w0 w w' : World} {gd n : Nat} {ρ : Nat → Nat} {S : Bool → SR} {vl vp : Value} {ls : List Lm} {ps : List ByteArray} {tw lo : Bool} {ld sd : Int}
theorem DW.tchF (h : DW w0 gd ρ w S vl vp ls ps tw lo ld sd) {g : Nat} (T : TchS (fun q => q = g) w w') (h0 : ρ g = 0) (hg : w0.heap.size ≤ g) (ho : ∀ c, Offs g (S c).vK (S c).vP (S c).vD) : DW w0 gd ρ w' S vl vp ls ps tw lo ld sd := by
  have ng : ∀ q, ρ q ≠ 0 → ¬ q = g := fun q hq e => hq (by rw [e]; exact h0)
  exact ⟨(T.row (by rw [h.row]; exact Nat.succ_pos 7) (ng gd (by rw [h.rd]; decide))).trans h.row, T.below h.bl h.bl.size (fun q e => by rw [e]; exact hg), h.tb, h.rb, fun q hq => h.rf q (Nat.le_trans T.size hq), h.rd, T.owns h.ol (fun q e => ng q (by rw [h.rl q e]; decide)), h.rl, T.owns h.op (fun q e => ng q (by rw [h.rp q e]; decide)), h.rp, fun c => (h.se c).tchS T (ng _ (h.rs0 c)) (fun q e => by rw [e]; exact ho c), h.wf, h.rs, h.os⟩
theorem DW.laidC (h : DW w0 gd ρ w S vl vp ls ps tw lo ld sd) {g : Nat} {x : Sd} {vK vP vD : Value} (hx : x.Wf) (h0 : ρ g = 0) (hg : w0.heap.size ≤ g) (hl : g < w.heap.size) (hof : Offs g vK vP vD) (hot : ∀ c, Offs g (S c).vK (S c).vP (S c).vD) (q : LaidP w0.heap.size gd w (.pointer (some ⟨(S false).g, 0, none⟩)) (.pointer (some ⟨(S true).g, 0, none⟩)) vl vp ps tw (.bool lo) sd g x vK vP vD w') :
    ∃ (ρ' : Nat → Nat) (r : SR) (vp' : Value) (ps' : List ByteArray) (tw' : Bool) (ld' : Int), r.g = g ∧ r.x.Wf ∧ SesAt w' r.g r.x r.vK r.vP r.vD ∧ Offs r.g r.vK r.vP r.vD ∧ ρ' r.g = 0 ∧ DW w0 gd ρ' w' S vl vp' ls ps' tw' lo ld' sd ∧ ps'.length ≤ ps.length + 1 ∧
      ((ps' = ps ∧ tw' = tw) ∨ ∃ k : ByteArray, ps' = ps ++ [k] ∧ (tw' = false → tw = false)) := by
  obtain ⟨vp', ps', tw', ld', y, vD', d, hs, alt, T, hv, ho, hl', hnb⟩ := q.out
  obtain ⟨ρ', hρ⟩ : ∃ ρ' : Nat → Nat, ρ' = fun g => if vp'.ownBlock = some g then 3 else ρ g := ⟨_, rfl⟩
  have hsame : ∀ g, ρ g ≠ 0 → ρ' g = ρ g := fun g hg' => by
    rw [hρ]
    show (if vp'.ownBlock = some g then 3 else ρ g) = ρ g
    split
    · next e =>
      rcases hv with e2 | ⟨p, e2, hp⟩
      · rw [h.rp g (by rw [← e2]; exact e)]
      · rw [e2] at e; cases e; exact absurd (h.rf _ hp) hg'
    · rfl
  have hcase : ∀ g, ρ' g ≠ 0 → ρ g ≠ 0 ∨ (w.heap.size ≤ g ∧ vp'.ownBlock = some g) := fun g hg' => by
    by_cases e : vp'.ownBlock = some g
    · rcases hv with e2 | ⟨p, e2, hp⟩
      · left; rw [h.rp g (by rw [← e2]; exact e)]; decide
      · right; refine ⟨?_, e⟩; rw [e2] at e; cases e; exact hp
    · left; intro q; apply hg'; rw [hρ]; show (if vp'.ownBlock = some g then 3 else ρ g) = 0; rw [if_neg e]; exact q
  have n1 : ∀ q, ρ q ≠ 1 → ρ q ≠ 3 → ρ q ≠ 0 → ¬ (q = gd ∨ vp.ownBlock = some q ∨ q = g) := fun q a1 a2 a3 e => by
    rcases e with e | e | e
    · exact a1 (by rw [e]; exact h.rd)
    · exact a2 (h.rp q e)
    · exact a3 (by rw [e]; exact h0)
  have hwf : y.Wf := by
    rcases alt with ⟨e, _⟩ | ⟨k, k1, k2, e, _⟩
    · rw [e]; exact hx
    · rw [e]; exact laidS_wf hx k k1 k2
  have hbl : Below w0.heap.size w0 w' := T.below h.bl h.bl.size (fun q e => by
    rcases e with e | e | e
    · rw [e]; exact (h.old (by rw [h.rd]; decide)).1
    · exact (h.old (by rw [h.rp q e]; decide)).1
    · rw [e]; exact hg)
  refine ⟨ρ', ⟨g, y, vK, vP, vD'⟩, vp', ps', tw', ld', rfl, hwf, hs, ho g hl hof, ?_, ⟨?_, hbl, h.tb, ?_, ?_, ?_, ?_, ?_, d.op, ?_, fun c => ?_, h.wf, fun c => ?_, fun c q hq => ?_⟩, hl', ?_⟩
  · by_cases q : ρ' g = 0
    · exact q
    · rcases hcase g q with e | ⟨e, _⟩
      · exact absurd h0 e
      · omega
  · exact d.row
  · intro g hg'
    by_cases q : ρ' g = 0
    · exact q
    · rcases hcase g q with e | ⟨e, _⟩
      · exact absurd (h.rb g hg') e
      · have := h.bl.size; omega
  · intro g hg'
    by_cases q : ρ' g = 0
    · exact q
    · rcases hcase g q with e | ⟨_, e⟩
      · have := (h.old e).2; have := T.size; omega
      · have := (d.op.lt g e).2; omega
  · rw [hsame gd (by rw [h.rd]; decide)]; exact h.rd
  · exact T.owns h.ol (fun g e => n1 g (by rw [h.rl g e]; decide) (by rw [h.rl g e]; decide) (by rw [h.rl g e]; decide))
  · intro g e; rw [hsame g (by rw [h.rl g e]; decide)]; exact h.rl g e
  · intro g e; rw [hρ]; show (if vp'.ownBlock = some g then 3 else ρ g) = 3; rw [if_pos e]
  · have hc := role_b c
    exact (h.se c).tchS T (n1 _ (by rw [h.rs c]; omega) (by rw [h.rs c]; omega) (h.rs0 c)) (fun q e => by
      rcases e with e | e | e
      · exact h.os c q (by rw [e, h.rd]; decide)
      · exact h.os c q (by rw [h.rp q e]; decide)
      · rw [e]; exact hot c)
  · rw [hsame _ (h.rs0 c)]; exact h.rs c
  · rcases hcase q hq with e | ⟨e, _⟩
    · exact h.os c q e
    · exact (h.se c).fresh e
  · rcases alt with ⟨_, e1, e2, _⟩ | ⟨k, _, _, _, e1, e2⟩
    · exact Or.inl ⟨e1, e2⟩
    · exact Or.inr ⟨_, e1, fun z => by rw [e2, Bool.or_eq_false_iff] at z; exact z.1⟩
theorem DI.noted (hi : DI S ls ps tw false n) {ps' : List ByteArray} {tw' : Bool} (hl : ps'.length ≤ ps.length + 1) (alt : (ps' = ps ∧ tw' = tw) ∨ ∃ k : ByteArray, ps' = ps ++ [k] ∧ (tw' = false → tw = false)) : DI S ls ps' tw' false (n + 1) := by
  have nl := hi.nl
  have np := hi.np
  rcases alt with ⟨e1, e2⟩ | ⟨k, e1, e2⟩
  · subst e1 e2; exact hi.mono (Nat.le_succ _)
  · exact ⟨hi.sn, fun a _ => by rw [e1]; exact (hi.tk (e2 a) rfl).noted k, by omega, by omega⟩
structure Cps (w0 : World) (gd : Nat) (ρ : Nat → Nat) (w : World) (S : Bool → SR) (vl vp : Value) (ls : List Lm) (ps : List ByteArray) (tw lo : Bool) (ld sd : Int) (a b : SR) : Prop where
  dw : DW w0 gd ρ w S vl vp ls ps tw lo ld sd
  wa : a.x.Wf
  wb : b.x.Wf
  sa : SesAt w a.g a.x a.vK a.vP a.vD
  sb : SesAt w b.g b.x b.vK b.vP b.vD
  ne : a.g ≠ b.g
  ra : ρ a.g = 0
  rb : ρ b.g = 0
  la : w0.heap.size ≤ a.g
  lb : w0.heap.size ≤ b.g
  aa : Offs a.g a.vK a.vP a.vD
  ab : Offs a.g b.vK b.vP b.vD
  ba : Offs b.g a.vK a.vP a.vD
  bb : Offs b.g b.vK b.vP b.vD
  qa : ∀ c, Offs a.g (S c).vK (S c).vP (S c).vD
  qb : ∀ c, Offs b.g (S c).vK (S c).vP (S c).vD
theorem Cps.swap {a b : SR} (h : Cps w0 gd ρ w S vl vp ls ps tw lo ld sd a b) : Cps w0 gd ρ w S vl vp ls ps tw lo ld sd b a :=
  ⟨h.dw, h.wb, h.wa, h.sb, h.sa, fun e => h.ne e.symm, h.rb, h.ra, h.lb, h.la, h.bb, h.ba, h.ab, h.aa, h.qb, h.qa⟩
theorem Cps.below {a b : SR} (h : Cps w0 gd ρ w S vl vp ls ps tw lo ld sd a b) (q : Below w.heap.size w w') : Cps w0 gd ρ w' S vl vp ls ps tw lo ld sd a b :=
  ⟨h.dw.below q, h.wa, h.wb, h.sa.below q, h.sb.below q, h.ne, h.ra, h.rb, h.la, h.lb, h.aa, h.ab, h.ba, h.bb, h.qa, h.qb⟩
theorem Cps.go {a b : SR} (h : Cps w0 gd ρ w S vl vp ls ps tw lo ld sd a b) {y : Sd} (hy : y.Wf) (q : AskP a.g w a.vK a.vP a.vD y w') : ∃ a' : SR, a'.g = a.g ∧ a'.x = y ∧ Cps w0 gd ρ w' S vl vp ls ps tw lo ld sd a' b := by
  obtain ⟨t, vK', vP', vD', hs, ho⟩ := q
  have T : TchS (fun g => g = a.g) w w' := TchS.of_tch t (fun _ => rfl)
  exact ⟨⟨a.g, y, vK', vP', vD'⟩, rfl, rfl, ⟨h.dw.tchF T h.ra h.la h.qa, hy, h.wb, hs, h.sb.tchS T (fun e => h.ne e.symm) (fun q e => by rw [e]; exact h.ab), h.ne, h.ra, h.rb, h.la, h.lb, ho _ h.sa.lt h.aa, h.ab, ho _ h.sb.lt h.ba, h.bb, h.qa, h.qb⟩⟩
end
def saysS (x : Sd) (text data : ByteArray) : Sd × ByteArray × Int := if 200 < text.size ∨ 100 < data.size then (x, ⟨#[]⟩, 2) else if x.send = ⟨#[]⟩ then (x, ⟨#[]⟩, 3) else if x.ns = 300 then (x, ⟨#[]⟩, 4) else (saidS x, msgF x text data, 0)
theorem saysS_wf {x : Sd} (h : x.Wf) (text data : ByteArray) : (saysS x text data).1.Wf := by
  unfold saysS
  split
  · exact h
  · split
    · exact h
    · split
      · exact h
      · next q => exact saidS_wf h q
theorem sendA_f (x : Sd) (hx : x.Wf) (gs : Nat) (vK vP vD : Value) (text data : ByteArray) (w : World) (hs : SesAt w gs x vK vP vD) (ho : Offs gs vK vP vD) (hT : Tbl w) :
    Calls Tryz.prog 42 #[.pointer (some ⟨gs, 0, none⟩), .string text, .string data] w fun e w' => e = .returned (.tuple #[.string (saysS x text data).2.1, .int .i64 (saysS x text data).2.2]) ∧ AskP gs w vK vP vD (saysS x text data).1 w' := by
  unfold saysS
  by_cases hb : 200 < text.size ∨ 100 < data.size
  · rw [if_pos hb]
    exact (send_long _ text data hb w).mono (fun e w' q => ⟨q.1, AskP.of_below hs q.2⟩)
  · rw [if_neg hb]
    refine (send_f x hx gs vK vP vD text data (by omega) (by omega) w hT hs ho).mono (fun e w' q => ?_)
    rcases q with ⟨q1, q2, q3⟩ | ⟨q0, q1, q2, q3⟩ | ⟨q0, q1, q2, q3, q4⟩
    · rw [if_pos q1]; exact ⟨q2, AskP.of_below hs q3⟩
    · rw [if_neg q0, if_pos q1]; exact ⟨q2, AskP.of_below hs q3⟩
    · rw [if_neg q0, if_neg q1]; exact ⟨q2, q4, _, _, _, q3, fun _ _ o => o⟩
end Go.Proofs.YteghoooelgcpkabGreatDoor
