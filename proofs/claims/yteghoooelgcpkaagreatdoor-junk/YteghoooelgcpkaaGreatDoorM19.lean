import Derived.Test.YteghoooelgcpkaaGreatDoorM18
namespace Go.Proofs.YteghoooelgcpkaaGreatDoor
open Go.RowKit Go.Msg
set_option maxHeartbeats 1000000 in
theorem tagged_f (a t : ByteArray) (ha : a.size ≤ 200) (ht : t.size ≤ 200) (w : World) :
    Calls Tryz.prog 174 #[.string a, .string t] w fun e w' => e = .returned (.string (be 4 (a.size : Int) ++ a ++ t)) ∧ Below w.heap.size w w' := by
  have qD := cvD
  have ca : (a.size : Int) ≤ 200 := by omega
  have HBE : Hid (b4 ((a.size : Int) / 16777216) ((a.size : Int) / 65536) ((a.size : Int) / 256) (a.size : Int) = be 4 (a.size : Int)) := Hid.mk (by
    have h := b4_be (a.size : Int) ⟨by omega, by omega⟩
    rw [show (a.size : Int) / 65536 % 256 = (a.size : Int) / 65536 by omega, show (a.size : Int) / 256 % 256 = (a.size : Int) / 256 by omega, show (a.size : Int) % 256 = (a.size : Int) by omega] at h
    exact h)
  have zb : (b4 ((a.size : Int) / 16777216) ((a.size : Int) / 65536) ((a.size : Int) / 256) (a.size : Int)).size = 4 := rfl
  go_enter Tryz.func174, Tryz.ntmps174
  go_wp2_with fail
  go_ret
  exact ⟨by rw [← HBE.out]; rfl, by_alloc _ _⟩
end Go.Proofs.YteghoooelgcpkaaGreatDoor
namespace Go.Msg
open Go.RowKit Go.Proofs.YteghoooelgcpkaaGreatDoor
theorem kept_chain {x : Sd} (h : x.Wf) (hs : x.send.size = 32) :
    (sb (keptB x) 66 = 0 ∧ sb (keptB x) 67 = 1 ∧ (keptB x).extract 68 100 = x.send ∧ 100 ≤ (keptB x).size) ∨ (sb (keptB x) 66 = 1 ∧ sb (keptB x) 99 = 1 ∧ (keptB x).extract 100 132 = x.send ∧ 132 ≤ (keptB x).size) := by
  obtain ⟨P, hP⟩ : ∃ P, P = sRS ++ x.root ++ x.self := ⟨_, rfl⟩
  have zP : P.size = 66 := by rw [hP, ByteArray.size_append, ByteArray.size_append, h.root, h.self]; rfl
  obtain ⟨R, hR⟩ : ∃ R, keptB x = P ++ (optB x.theirs ++ (optB x.send ++ R)) := by
    rw [hP]; unfold keptB; simp only [ByteArray.append_assoc]; exact ⟨_, rfl⟩
  have oS : optB x.send = b1 1 ++ x.send := by unfold optB; rw [if_neg (by omega)]
  have z1 : ∀ v, (b1 v).size = 1 := fun v => bstr_size _ _
  rw [oS] at hR
  generalize keptB x = K at *
  rcases h.theirs with ht | ht
  · left
    have oT : optB x.theirs = b1 0 := by unfold optB; rw [if_pos ht]
    rw [oT] at hR
    have e : K = (P ++ (b1 0 ++ b1 1)) ++ (x.send ++ R) := by rw [hR]; simp only [ByteArray.append_assoc]
    have ze : (P ++ (b1 0 ++ b1 1)).size = 68 := by rw [ByteArray.size_append, ByteArray.size_append, z1, z1, zP]
    refine ⟨?_, ?_, ?_, ?_⟩
    · rw [hR, sb_append, if_neg (by omega), sb_append, if_pos (by rw [z1, zP]; decide), zP]; exact sb_b1 0 (by decide)
    · rw [e, sb_append, if_pos (by omega), sb_append, if_neg (by omega), sb_append, if_neg (by rw [z1, zP]; decide), zP, z1]; exact sb_b1 1 (by decide)
    · have q := ext_mid (P ++ (b1 0 ++ b1 1)) x.send R
      rw [← e, ze, hs] at q
      exact q
    · rw [e, ByteArray.size_append, ze, ByteArray.size_append, hs]; omega
  · right
    have oT : optB x.theirs = b1 1 ++ x.theirs := by unfold optB; rw [if_neg (by omega)]
    rw [oT] at hR
    have e : K = (P ++ (b1 1 ++ x.theirs ++ b1 1)) ++ (x.send ++ R) := by rw [hR]; simp only [ByteArray.append_assoc]
    have zm : (b1 1 ++ x.theirs).size = 33 := by rw [ByteArray.size_append, z1, ht]
    have ze : (P ++ (b1 1 ++ x.theirs ++ b1 1)).size = 100 := by rw [ByteArray.size_append, ByteArray.size_append, z1, zm, zP]
    refine ⟨?_, ?_, ?_, ?_⟩
    · rw [hR, sb_append, if_neg (by omega), sb_append, if_pos (by rw [zm, zP]; decide), sb_append, if_pos (by rw [z1, zP]; decide), zP]; exact sb_b1 1 (by decide)
    · rw [e, sb_append, if_pos (by omega), sb_append, if_neg (by omega), sb_append, if_neg (by rw [zm, zP]; decide), zP, zm]; exact sb_b1 1 (by decide)
    · have q := ext_mid (P ++ (b1 1 ++ x.theirs ++ b1 1)) x.send R
      rw [← e, ze, hs] at q
      exact q
    · rw [e, ByteArray.size_append, ze, ByteArray.size_append, hs]; omega
theorem ext_left {a b : ByteArray} {i j : Nat} (hj : j ≤ a.size) : (a ++ b).extract i j = a.extract i j := by
  refine ba_ext (by rw [ext_size (by rw [ByteArray.size_append]; omega), ext_size hj]) (fun p hp => ?_)
  rw [ext_size (by rw [ByteArray.size_append]; omega)] at hp
  rw [sb_extract _ _ _ _ (by omega) (by rw [ByteArray.size_append]; omega), sb_extract _ _ _ _ (by omega) hj, sb_append, if_pos (by omega)]
theorem sealK_mid (k : ByteArray) : (hkdfF sNil k sMK 64).extract 32 64 = (sealK k).extract 32 64 := by
  unfold sealK hkdfF
  rw [show (64 + 31) / 32 = 2 from rfl, show (76 + 31) / 32 = 2 + 1 from rfl]
  have h3 : hkA (macF sNil k) sMK (2 + 1) = hkA (macF sNil k) sMK 2 ++ hkT (macF sNil k) sMK (2 + 1) := rfl
  rw [h3]
  have z := hkA_size (macF sNil k) sMK 2
  have y := hkA_size (macF sNil k) sMK (2 + 1)
  rw [h3] at y
  clear h3
  generalize hkA (macF sNil k) sMK 2 = a at *
  generalize hkT (macF sNil k) sMK (2 + 1) = b at *
  rw [ext_ext a 0 64 32 64 (by omega) (by omega), ext_ext (a ++ b) 0 76 32 64 (by omega) (by omega), ext_left (by omega)]
def tagd (a t : ByteArray) : ByteArray := be 4 (a.size : Int) ++ a ++ t
theorem tagd_size (a t : ByteArray) : (tagd a t).size = 4 + a.size + t.size := by unfold tagd; rw [ByteArray.size_append, ByteArray.size_append, be_size]
theorem tagd_data {d d' h t : ByteArray} (e : tagd (d ++ h) t = tagd (d' ++ h) t) : d = d' := by
  have z := congrArg ByteArray.size e
  rw [tagd_size, tagd_size, ByteArray.size_append, ByteArray.size_append] at z
  have zd : d.size = d'.size := by omega
  have f : ∀ u : ByteArray, tagd (u ++ h) t = be 4 ((u ++ h).size : Int) ++ (u ++ (h ++ t)) := fun u => by unfold tagd; simp only [ByteArray.append_assoc]
  have g : ∀ u : ByteArray, (tagd (u ++ h) t).extract 4 (4 + u.size) = u := fun u => by
    have q := ext_mid (be 4 ((u ++ h).size : Int)) u (h ++ t)
    rw [be_size, ← f] at q
    exact q
  rw [← g d, e, zd, g d']
theorem tagd_turned {a t t' : ByteArray} (e : tagd a t = tagd a t') : t = t' := by
  have g : ∀ u : ByteArray, (tagd a u).extract (4 + a.size) (tagd a u).size = u := fun u => by
    have q := app_drop (be 4 (a.size : Int) ++ a) u
    rw [ByteArray.size_append (a := be 4 (a.size : Int)), be_size] at q
    exact q
  rw [← g t, e, g t']
theorem tagF_eq (k a t : ByteArray) : tagF k a t = macF ((hkdfF sNil k sMK 64).extract 32 64) (tagd a t) := by rw [sealK_mid]; rfl
end Go.Msg
namespace Go.Proofs.YteghoooelgcpkaaGreatDoor
open Go.RowKit Go.Msg
section
variable {w0 w w' : World} {gd n : Nat} {ρ : Nat → Nat} {S : Bool → SR} {vl vp : Value} {ls : List Lm} {ps : List ByteArray} {tw lo : Bool} {ld sd : Int}
structure Own (c : Lm) (x0 : Sd) : Prop where
  wf : x0.Wf
  se : x0.send.size = 32
  before : c.before = keptB x0
  sz : 72 ≤ c.bytes.size
  sz2 : c.bytes.size ≤ 272
  dt : c.data.size ≤ 100
  tag : tagF (keyF x0.send) (c.data ++ c.bytes.extract 0 38) (c.bytes.extract 40 (c.bytes.size - 32)) = c.bytes.extract (c.bytes.size - 32) c.bytes.size
theorem ptF_parts {m : ByteArray} (h : IsMsg m) : (ptF m).turned = m.extract 40 (m.size - 32) ∧ (ptF m).tag = m.extract (m.size - 32) m.size ∧ (ptF m).turned.size = m.size - 72 := by
  obtain ⟨h1, h2, h3, h4, h5, h6⟩ := h
  have e : 40 + u16F m 38 = m.size - 32 := by omega
  refine ⟨by rw [ptF_turned, e], by rw [ptF_tag, e], by rw [ptF_turned, ext_size (by omega)]; omega⟩
theorem Own.of {c : Lm} {x0 : Sd} (s : Sent c x0) (hs : x0.send.size = 32) : Own c x0 := by
  obtain ⟨z1, z2⟩ := msgF_read s.wf s.ns c.text c.data s.tx
  rw [← s.bytes] at z1 z2
  obtain ⟨p1, p2, p3⟩ := ptF_parts z1
  have hz := z1
  obtain ⟨h1, h2, h3, h4, h5, h6⟩ := hz
  refine ⟨s.wf, hs, s.before, by omega, by omega, s.dt, ?_⟩
  have q : tagF (keyF x0.send) (c.data ++ (ptF c.bytes).head) (ptF c.bytes).turned = (ptF c.bytes).tag := by rw [z2]
  rw [p1, p2, ptF_head] at q
  exact q
theorem DI.bent (hi : DI S ls ps tw lo n) (h1 : tw = false) (h2 : lo = false) {k : Nat} {c : Lm} (hc : ls[k]? = some c) (hd : (S (!c.odd)).x.draws ≠ []) {b data : ByteArray} (hb : b.size = c.bytes.size) (he : b.extract 0 40 = c.bytes.extract 0 40) (hdt : data.size ≤ 100) :
    ∃ x0, Own c x0 ∧ ((heardS (S (!c.odd)).x b data).2.2 ≠ 0 ∨ ((heardS (S (!c.odd)).x b data).2.2 = 0 ∧ tagF (keyF x0.send) (data ++ c.bytes.extract 0 38) (b.extract 40 (b.size - 32)) = b.extract (b.size - 32) b.size)) := by
  obtain ⟨x0, s, f⟩ := hi.hear h1 h2 hc hd
  obtain ⟨x1, s1, hs1⟩ := hi.sn c (List.mem_of_getElem? hc)
  obtain rfl : x0 = x1 := keptB_inj s.wf s1.wf (by rw [← s.before, ← s1.before])
  obtain ⟨z1, z2⟩ := msgF_read s.wf s.ns c.text c.data s.tx
  rw [← s.bytes] at z1 z2
  refine ⟨x0, Own.of s hs1, ?_⟩
  have e0 : heardS (S (!c.odd)).x b data = hearS (S (!c.odd)).x b data := by unfold heardS; rw [if_pos hdt]
  rw [e0]
  obtain ⟨q1, q2, q3, q4, q5, q6, q7⟩ := bent_read z1 hb he
  have F := f b data q1 q2 q5 q4
  obtain ⟨p1, p2, _⟩ := ptF_parts q1
  unfold Heard at F
  rcases F with ⟨e, a1, a2, a3⟩ | ⟨y, a1, a2, a3, a4⟩
  · left; rw [a2]; exact a1
  · right
    rw [a1]
    refine ⟨rfl, ?_⟩
    rw [p1, p2, q3, ptF_head] at a2
    exact a2
theorem DI.lost (hi : DI S ls ps tw lo n) (S' : Bool → SR) : DI S' ls ps tw true n := ⟨hi.sn, fun _ q => (by cases q), hi.nl, hi.np⟩
theorem DI.twice (hi : DI S ls ps true lo n) (S' : Bool → SR) : DI S' ls ps true lo n := ⟨hi.sn, fun q => (by cases q), hi.nl, hi.np⟩
theorem DI.upd {b : Bool} {r : SR} (hi : DI (updS S b r) ls ps tw lo n) {r' : SR} (h : r'.x = r.x) : DI (updS (updS S b r) b r') ls ps tw lo n := hi.same (fun q => by
  by_cases z : q = b
  · rw [z, updS_same, updS_same]; exact h
  · rw [updS_ne _ _ z])
theorem DW.lost (h : DW w0 gd ρ w S vl vp ls ps tw lo ld sd) (b : Bool) : DW w0 gd ρ (w.setCell ⟨gd, 5, none⟩ (.bool b)) S vl vp ls ps tw b ld sd := by
  have T : TchS (fun q => q = gd) w (w.setCell ⟨gd, 5, none⟩ (.bool b)) := TchS.of_tch (tch_own gd _ w _) (fun _ => rfl)
  have ng : ∀ g, ρ g ≠ 1 → ¬ g = gd := fun g hg e => hg (by rw [e]; exact h.rd)
  refine ⟨row_setD h.row (Nat.succ_pos 7) 5 _ rfl, T.below h.bl h.bl.size (fun q e => by rw [e]; exact (h.old (by rw [h.rd]; decide)).1), h.tb, h.rb, fun q hq => h.rf q (Nat.le_trans T.size hq), h.rd, T.owns h.ol (fun g e => ng g (by rw [h.rl g e]; decide)), h.rl, T.owns h.op (fun g e => ng g (by rw [h.rp g e]; decide)), h.rp, fun c => ?_, h.wf, h.rs, h.os⟩
  have hc := role_b c
  exact (h.se c).tchS T (ng _ (by rw [h.rs c]; omega)) (fun q e => h.os c q (by rw [e, h.rd]; decide))
end
end Go.Proofs.YteghoooelgcpkaaGreatDoor
namespace Go.Proofs.YteghoooelgcpkaaGreatDoor
open Go.RowKit Go.Msg
theorem PrimAt.ptr {w : World} {v : Value} (h : PrimAt w v) : ∃ g, v = .pointer (some ⟨g, 0, none⟩) := let ⟨g, _, _, h1, _⟩ := h; ⟨g, h1⟩
theorem sb_is {s : ByteArray} {i : Nat} {v : Int} (h : sb s i = v) (hi : i < s.size) : ((s[i]'hi).toNat : Int) = v := by rw [← sb_at s i hi]; exact h
set_option maxRecDepth 4000 in
set_option maxHeartbeats 4000000 in
theorem witness_core {w : World} {g k q : Nat} (pd : Value) {B M D other data CH K E A A2 X : ByteArray}
    (y1 : w.cell? ⟨g, k * 6 + 1, none⟩ = some (.string M)) (y3 : w.cell? ⟨g, k * 6 + 3, none⟩ = some (.string D)) (y5 : w.cell? ⟨g, k * 6 + 5, none⟩ = some (.string B))
    (kc : (sb B 66 = 0 ∧ sb B 67 = 1 ∧ B.extract 68 100 = CH ∧ 100 ≤ B.size) ∨ (sb B 66 = 1 ∧ sb B 99 = 1 ∧ B.extract 100 132 = CH ∧ 132 ≤ B.size))
    (hq : M.size = q + 32) (hq2 : 40 ≤ q) (hq3 : q ≤ 240) (hz : other.size = q + 32) (dz : D.size ≤ 100) (hd : data.size ≤ 100) (zE : E.size = 64)
    (HM1 : Hid (∀ (W : World) (p : Value) (t : ByteArray), t = CH → PrimAt W p → Calls Tryz.prog 62 #[p, .string t, .string ⟨#[1]⟩] W fun e w' => e = .returned (.string K) ∧ Below W.heap.size W w'))
    (HM2 : Hid (∀ (W : World) (p : Value), PrimAt W p → Calls Tryz.prog 93 #[p, .string ⟨#[]⟩, .string K, .string ⟨#[109, 101, 115, 115, 97, 103, 101, 32, 107, 101, 121, 115]⟩, .int .i64 64] W fun e w' => e = .returned (.string E) ∧ Below W.heap.size W w'))
    (HT1 : Hid (∀ W : World, Calls Tryz.prog 174 #[.string (D ++ M.extract 0 38), .string (M.extract 40 q)] W fun e w' => e = .returned (.string A) ∧ Below W.heap.size W w'))
    (HT2 : Hid (∀ W : World, Calls Tryz.prog 174 #[.string (data ++ M.extract 0 38), .string (other.extract 40 q)] W fun e w' => e = .returned (.string A2) ∧ Below W.heap.size W w'))
    (HMA : Hid (∀ (W : World) (p : Value), PrimAt W p → Calls Tryz.prog 62 #[p, .string (E.extract 32 64), .string A] W fun e w' => e = .returned (.string X) ∧ Below W.heap.size W w'))
    (HMB : Hid (∀ (W : World) (p : Value), PrimAt W p → Calls Tryz.prog 62 #[p, .string (E.extract 32 64), .string A2] W fun e w' => e = .returned (.string X) ∧ Below W.heap.size W w'))
    (hN : (A.toList == A2.toList) = false) :
    Calls Tryz.prog 149 #[pd, .pointer (some ⟨g, k * 6, none⟩), .string other, .string data] w fun e w' => e = .returned (.bool true) ∧ Below w.heap.size w w' := by
  have hgl : g < w.heap.size := World.block_lt_of_cell? w _ y1
  have eL : (M.size : Int) - 32 = (q : Int) := by omega
  have eL2 : (other.size : Int) - 32 = (q : Int) := by omega
  have zH : (M.extract 0 38).size = 38 := ext_size (by omega)
  have m38 : (38 : Int) ≤ M.size := by omega
  have mq : (q : Int) ≤ M.size := by omega
  have oq : (q : Int) ≤ other.size := by omega
  have q4 : (40 : Int) ≤ q := by omega
  have q5 : (q : Int) ≤ 240 := by omega
  have e32 : (32 : Int) ≤ E.size := by omega
  have mz : (M.size : Int) ≤ 272 := by omega
  have oz : (other.size : Int) ≤ 272 := by omega
  clear hq hz hq2 hq3
  rcases kc with ⟨f1, f2, f3, f4⟩ | ⟨f1, f2, f3, f4⟩
  · have i1 : (66 : Int) < B.size := by omega
    have i2 : (67 : Int) < B.size := by omega
    have e1 := sb_is f1 (by omega)
    have e2 := sb_is f2 (by omega)
    have i3 : (100 : Int) ≤ B.size := by omega
    have HE := Hid.mk f3
    clear f1 f2 f3
    go_enter Tryz.func149, Tryz.ntmps149
    go_upto_region 11 with (first
      | (go_at_call 17; refine (constants_any _).mono ?_; rintro e W1 ⟨v, rfl, hP, hb1⟩; obtain ⟨gp, rfl⟩ := hP.ptr; have HP := Hid.mk hP; clear hP)
      | (go_at_call 62; with_reducible refine (HM1.out _ _ _ HE.out HP.out).mono ?_; rintro e W2 ⟨rfl, hb2⟩; have HP2 := Hid.mk (HP.out.below hb2))
      | (go_at_call 93; refine (HM2.out _ _ HP2.out).mono ?_; rintro e W3 ⟨rfl, hb3⟩; have HP3 := Hid.mk (HP2.out.below hb3))
      | fail)
    have B3 : Below w.heap.size w W3 := below_lift (below_lift hb1 hb1.size hb2) (Nat.le_trans hb1.size hb2.size) hb3
    have y1 := cell_below B3 y1
    have y3 := cell_below B3 y3
    have hgl3 : g < W3.heap.size := Nat.lt_of_lt_of_le hgl B3.size
    clear e1 e2 hb1 hb2 hb3 y5
    go_upto_region 12 with fail
    refine wp_region_quiet_tail 17 (fun w' => ∃ m, w' = W3.dr m) mixed_any (by kernel_rfl) ⟨_, rfl⟩ ?_
    simp only [List.take_succ_cons, List.take_zero, List.drop_succ_cons, List.drop_zero]
    iterate 17 (go_big_quiet_step (fail))
    refine wpQuiet_nil ?_
    rintro w' ⟨dr, rfl⟩
    have HPd := Hid.mk (HP3.out.below (below_dr (Below.refl _ _) dr))
    have Bd : Below w.heap.size w (W3.dr dr) := below_dr B3 dr
    generalize W3.dr dr = Wd at *
    go_wp2_with (first
      | (go_at_call 174; with_reducible refine (HT1.out Wd).mono ?_; rintro e W4 ⟨rfl, hb4⟩; have HP4 := Hid.mk (HPd.out.below hb4))
      | (go_at_call 174; with_reducible refine (HT2.out _).mono ?_; rintro e W5 ⟨rfl, hb5⟩; have HP5 := Hid.mk (HP4.out.below hb5))
      | (go_at_call 62; with_reducible refine (HMA.out _ _ HP5.out).mono ?_; rintro e W6 ⟨rfl, hb6⟩; have HP6 := Hid.mk (HP5.out.below hb6))
      | (go_at_call 62; with_reducible refine (HMB.out _ _ HP6.out).mono ?_; rintro e W7 ⟨rfl, hb7⟩)
      | fail)
    go_ret
    have B4 := below_lift Bd Bd.size hb4
    have B5 := below_lift B4 B4.size hb5
    have B6 := below_lift B5 B5.size hb6
    exact ⟨rfl, below_lift B6 B6.size hb7⟩
  · have i1 : (66 : Int) < B.size := by omega
    have i2 : (99 : Int) < B.size := by omega
    have e1 := sb_is f1 (by omega)
    have e2 := sb_is f2 (by omega)
    have i3 : (132 : Int) ≤ B.size := by omega
    have HE := Hid.mk f3
    clear f1 f2 f3
    go_enter Tryz.func149, Tryz.ntmps149
    go_upto_region 11 with (first
      | (go_at_call 17; refine (constants_any _).mono ?_; rintro e W1 ⟨v, rfl, hP, hb1⟩; obtain ⟨gp, rfl⟩ := hP.ptr; have HP := Hid.mk hP; clear hP)
      | (go_at_call 62; with_reducible refine (HM1.out _ _ _ HE.out HP.out).mono ?_; rintro e W2 ⟨rfl, hb2⟩; have HP2 := Hid.mk (HP.out.below hb2))
      | (go_at_call 93; refine (HM2.out _ _ HP2.out).mono ?_; rintro e W3 ⟨rfl, hb3⟩; have HP3 := Hid.mk (HP2.out.below hb3))
      | fail)
    have B3 : Below w.heap.size w W3 := below_lift (below_lift hb1 hb1.size hb2) (Nat.le_trans hb1.size hb2.size) hb3
    have y1 := cell_below B3 y1
    have y3 := cell_below B3 y3
    have hgl3 : g < W3.heap.size := Nat.lt_of_lt_of_le hgl B3.size
    clear e1 e2 hb1 hb2 hb3 y5
    go_upto_region 12 with fail
    refine wp_region_quiet_tail 17 (fun w' => ∃ m, w' = W3.dr m) mixed_any (by kernel_rfl) ⟨_, rfl⟩ ?_
    simp only [List.take_succ_cons, List.take_zero, List.drop_succ_cons, List.drop_zero]
    iterate 17 (go_big_quiet_step (fail))
    refine wpQuiet_nil ?_
    rintro w' ⟨dr, rfl⟩
    have HPd := Hid.mk (HP3.out.below (below_dr (Below.refl _ _) dr))
    have Bd : Below w.heap.size w (W3.dr dr) := below_dr B3 dr
    generalize W3.dr dr = Wd at *
    go_wp2_with (first
      | (go_at_call 174; with_reducible refine (HT1.out Wd).mono ?_; rintro e W4 ⟨rfl, hb4⟩; have HP4 := Hid.mk (HPd.out.below hb4))
      | (go_at_call 174; with_reducible refine (HT2.out _).mono ?_; rintro e W5 ⟨rfl, hb5⟩; have HP5 := Hid.mk (HP4.out.below hb5))
      | (go_at_call 62; with_reducible refine (HMA.out _ _ HP5.out).mono ?_; rintro e W6 ⟨rfl, hb6⟩; have HP6 := Hid.mk (HP5.out.below hb6))
      | (go_at_call 62; with_reducible refine (HMB.out _ _ HP6.out).mono ?_; rintro e W7 ⟨rfl, hb7⟩)
      | fail)
    go_ret
    have B4 := below_lift Bd Bd.size hb4
    have B5 := below_lift B4 B4.size hb5
    have B6 := below_lift B5 B5.size hb6
    exact ⟨rfl, below_lift B6 B6.size hb7⟩
theorem witness_f {w : World} {g k : Nat} {c : Lm} {x0 : Sd} (L : LmAt w g k c) (o : Own c x0) (pd : Value) (other data : ByteArray) (hz : other.size = c.bytes.size) (hd : data.size ≤ 100)
    (hT : tagF (keyF x0.send) (c.data ++ c.bytes.extract 0 38) (c.bytes.extract 40 (c.bytes.size - 32)) = tagF (keyF x0.send) (data ++ c.bytes.extract 0 38) (other.extract 40 (other.size - 32)))
    (hN : tagd (c.data ++ c.bytes.extract 0 38) (c.bytes.extract 40 (c.bytes.size - 32)) ≠ tagd (data ++ c.bytes.extract 0 38) (other.extract 40 (other.size - 32))) :
    Calls Tryz.prog 149 #[pd, .pointer (some ⟨g, k * 6, none⟩), .string other, .string data] w fun e w' => e = .returned (.bool true) ∧ Below w.heap.size w w' := by
  have kc := kept_chain o.wf o.se
  rw [← o.before] at kc
  have zC := o.se
  have dz := o.dt
  have s1 := o.sz
  have s2 := o.sz2
  rw [tagF_eq, tagF_eq] at hT
  obtain ⟨q, hq⟩ : ∃ q : Nat, c.bytes.size = q + 32 := ⟨c.bytes.size - 32, by omega⟩
  rw [hz, show c.bytes.size - 32 = q by omega] at hT hN
  have zH : (c.bytes.extract 0 38).size = 38 := ext_size (by omega)
  have zT1 : (c.bytes.extract 40 q).size ≤ 200 := by rw [ext_size (by omega)]; omega
  have zT2 : (other.extract 40 q).size ≤ 200 := by rw [ext_size (by omega)]; omega
  have zE : (hkdfF sNil (keyF x0.send) sMK 64).size = 64 := hkdfF_size _ _ _ _
  have zM : ((hkdfF sNil (keyF x0.send) sMK 64).extract 32 64).size ≤ 64 := by rw [ext_size (by omega)]; omega
  have zA : (tagd (c.data ++ c.bytes.extract 0 38) (c.bytes.extract 40 q)).size ≤ 50000 := by rw [tagd_size, ByteArray.size_append]; omega
  have zB : (tagd (data ++ c.bytes.extract 0 38) (other.extract 40 q)).size ≤ 50000 := by rw [tagd_size, ByteArray.size_append]; omega
  have zK := keyF_size x0.send
  exact witness_core pd L.c1 L.c3 L.c5 kc hq (by omega) (by omega) (by omega) dz hd zE
    (Hid.mk (fun W p t ht hp => by rw [ht]; exact mac_any p x0.send ⟨#[1]⟩ (by omega) (by decide) W hp))
    (Hid.mk (fun W p hp => expand64 p sNil (keyF x0.send) sMK (by decide) (by omega) (by decide) W hp))
    (Hid.mk (fun W => tagged_f _ _ (by rw [ByteArray.size_append]; omega) zT1 W))
    (Hid.mk (fun W => tagged_f _ _ (by rw [ByteArray.size_append]; omega) zT2 W))
    (Hid.mk (fun W p hp => mac_any p _ _ zM zA W hp))
    (Hid.mk (fun W p hp => by rw [hT]; exact mac_any p _ _ zM zB W hp))
    (bne_of hN)
end Go.Proofs.YteghoooelgcpkaaGreatDoor
namespace Go.Proofs.YteghoooelgcpkaaGreatDoor
open Go.RowKit Go.Msg
theorem heardS_long (x : Sd) (m : ByteArray) {data : ByteArray} (h : ¬ data.size ≤ 100) : heardS x m data = (x, ⟨#[]⟩, 2) := by unfold heardS; rw [if_neg h]
section
variable {w0 w w' : World} {gd n : Nat} {ρ : Nat → Nat} {S : Bool → SR} {vl vp : Value} {ls : List Lm} {ps : List ByteArray} {tw lo : Bool} {ld sd : Int}
set_option maxRecDepth 4000 in
set_option maxHeartbeats 4000000 in
theorem other_f (h : DW w0 gd ρ w S vl vp ls ps tw false ld sd) (hi : DI S ls ps tw false n) (hN : n ≤ 1500000) {k : Nat} {c : Lm} (hc : ls[k]? = some c) (data : ByteArray) :
    Calls Tryz.prog 114 #[.pointer (some ⟨gd, 0, none⟩), .int .i64 (k : Int), .string data] w fun e w' => e = .returned (.bool true) ∧ Live w0 gd (n + 1) w' := by
  obtain ⟨ao, cap, gL, rfl, hao, _⟩ := own_lms h.ol
  have hkl := (List.getElem?_eq_some_iff.1 hc).1
  obtain ⟨rfl, hob⟩ := hao (Nat.lt_of_le_of_lt (Nat.zero_le _) hkl)
  have hnl := hi.nl
  have hnp := hi.np
  have H := Hid.mk h
  have HI := Hid.mk hi
  have HC := Hid.mk hc
  have HS := Hid.mk (side_f h (!c.odd))
  have HLY := Hid.mk (h.lays (by omega) (!c.odd))
  have L := h.lm hc hob
  have y0 := L.c0
  have y3 := L.c3
  have k2 := dp_c2 h.row
  have hlt := h.lt
  clear h hi hc L hao
  generalize hnL : ls.length = nL at *
  have ck : (k : Int) < nL := by omega
  by_cases hdd : data = c.data
  · have fd := beq_of hdd
    clear hdd
    go_enter Tryz.func114, Tryz.ntmps114
    go_wp2_with fail
    go_ret
    exact ⟨rfl, _, _, _, _, _, _, _, _, _, _, H.out, HI.out.mono (Nat.le_succ _)⟩
  · have fd := bne_of hdd
    have HDD := Hid.mk hdd
    clear hdd
    go_enter Tryz.func114, Tryz.ntmps114
    go_upto_region 6 with (first
      | (go_at_call 145; with_reducible refine HS.out.mono ?_; rintro e w1 ⟨rfl, rfl⟩)
      | (go_at_call 148; with_reducible refine HLY.out.mono ?_; rintro e w2 ⟨rfl, HQ⟩)
      | fail)
    obtain ⟨ρ2, r, vp2, ps2, tw2, ld2, r1, D2, l2, alt⟩ := H.out.laid (!c.odd) HQ.out
    obtain ⟨I2, dr⟩ := HI.out.laid l2 alt
    have HBT : Hid (data.size ≤ 100 → tw2 = false → _) := Hid.mk (fun hd z => I2.bent z rfl HC.out (by rw [updS_same]; exact dr) (b := c.bytes) (data := data) rfl rfl hd)
    have HOU := Hid.mk (heardS_out (x := r.x) c.bytes data)
    have HLO := Hid.mk (fun h => heardS_long r.x c.bytes (data := data) h)
    have HAS := Hid.mk (D2.asked (!c.odd) c.bytes data)
    rw [updS_same] at HBT HAS
    rw [r1] at HAS
    have y1 := (D2.lm HC.out hob).c1
    have HI2 := Hid.mk I2
    have hlt2 := D2.lt
    clear I2 D2 alt dr k2 y0 y3 HLY HS HQ
    generalize heardS r.x c.bytes data = R at *
    obtain ⟨y, t, e⟩ := R
    simp only at HBT HAS HOU HLO
    go_upto_region 7 with (first | (go_at_call 147; with_reducible refine (HAS.out _ (Below.refl _ _)).mono ?_; rintro e w3 ⟨rfl, HZ⟩) | fail)
    obtain ⟨r4, s1, s2, D4⟩ := HZ.out
    have k4 := dp_c4 D4.row
    have k5 := dp_c5 D4.row
    have z5 := dp_z D4.row 5 (by omega)
    have hlt4 := D4.lt
    have L4 := D4.lm HC.out hob
    have y1 := L4.c1
    have HL4 := Hid.mk L4
    have HD4 := Hid.mk D4
    clear D4 L4 HZ HAS
    by_cases hd : data.size ≤ 100
    · have cd : ¬ (data.size : Int) > 100 := by omega
      cases tw2
      · obtain ⟨x0, ow, alt⟩ := HBT.out hd rfl
        have HOW := Hid.mk ow
        clear ow HBT
        rcases alt with ce | ⟨rfl, hT⟩
        · have hy : y = r.x := by
            rcases HOU.out with q | q
            · exact q.2.1
            · exact absurd q.1 ce
          have ce : ¬ e = 0 := ce
          go_wp2_with fail
          go_ret
          exact ⟨rfl, _, _, _, _, _, _, _, _, _, _, HD4.out, HI2.out.upd (by rw [s2]; exact hy)⟩
        · have HW := Hid.mk (witness_f HL4.out HOW.out (.pointer (some ⟨gd, 0, none⟩)) c.bytes data rfl hd (HOW.out.tag.trans hT.symm) (fun q => HDD.out (tagd_data q).symm))
          clear hT
          go_upto_region 12 with (first | (go_at_call 149; with_reducible refine HW.out.mono ?_; rintro e w4 ⟨rfl, b4⟩) | fail)
          have D5 := HD4.out.below b4
          have k5' := dp_c5 D5.row
          have z5' := dp_z D5.row 5 (by omega)
          have hlt5 := D5.lt
          have HD5 := Hid.mk (D5.lost true)
          clear D5 HW
          go_wp2_with fail
          go_ret
          exact ⟨rfl, _, _, _, _, _, _, _, _, _, _, HD5.out, HI2.out.lost _⟩
      · by_cases ce : e = 0
        · subst ce
          go_wp2_with fail
          go_ret
          exact ⟨rfl, _, _, _, _, _, _, _, _, _, _, HD4.out, HI2.out.twice _⟩
        · go_wp2_with fail
          go_ret
          exact ⟨rfl, _, _, _, _, _, _, _, _, _, _, HD4.out, HI2.out.twice _⟩
    · have cd : (data.size : Int) > 100 := by omega
      have q := HLO.out hd
      simp only [Prod.mk.injEq] at q
      obtain ⟨rfl, rfl, rfl⟩ := q
      go_wp2_with fail
      go_ret
      exact ⟨rfl, _, _, _, _, _, _, _, _, _, _, HD4.out, HI2.out.upd s2⟩
end
end Go.Proofs.YteghoooelgcpkaaGreatDoor
