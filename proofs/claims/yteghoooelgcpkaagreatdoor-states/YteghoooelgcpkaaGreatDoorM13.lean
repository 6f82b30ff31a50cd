import Derived.Test.YteghoooelgcpkaaGreatDoorM12
namespace Go
open Go.RowKit
theorem results_row_tmp {P : Program} {fn : Func} {p u : Tmp} {t n : Nat} (ht : RowTy P t n) (hr : fn.results = #[.cell p t, .tmp u]) (tmps : Array Value) (w : World) (g : Nat)
    (hp : tmps.getD p undef = .pointer (some ⟨g, 0, none⟩)) (h : (w.rowOf g).size = n) : (results fn tmps).run P w = .ok (.tuple #[.agg (w.rowOf g), tmps.getD u undef]) w := by
  obtain ⟨hn, hi, d, hu, hd⟩ := ht
  obtain ⟨t', hg⟩ := rowOf_heap h hn
  have hl := run_loadVar_row (P := P) w g t' t _ (0, 0) d hg hu (by cases d <;> first | rfl | simp [TypeDesc.isRow] at hd) (by rw [hi, h])
  simp only [results, hr]
  have hp' : tmps[p]?.getD undef = .pointer (some ⟨g, 0, none⟩) := by simpa using hp
  simp [asAddr, hp', hl]
theorem results_row_tmp2 {P : Program} {fn : Func} {p u v : Tmp} {t n : Nat} (ht : RowTy P t n) (hr : fn.results = #[.cell p t, .tmp u, .tmp v]) (tmps : Array Value) (w : World) (g : Nat)
    (hp : tmps.getD p undef = .pointer (some ⟨g, 0, none⟩)) (h : (w.rowOf g).size = n) : (results fn tmps).run P w = .ok (.tuple #[.agg (w.rowOf g), tmps.getD u undef, tmps.getD v undef]) w := by
  obtain ⟨hn, hi, d, hu, hd⟩ := ht
  obtain ⟨t', hg⟩ := rowOf_heap h hn
  have hl := run_loadVar_row (P := P) w g t' t _ (0, 0) d hg hu (by cases d <;> first | rfl | simp [TypeDesc.isRow] at hd) (by rw [hi, h])
  simp only [results, hr]
  have hp' : tmps[p]?.getD undef = .pointer (some ⟨g, 0, none⟩) := by simpa using hp
  simp [asAddr, hp', hl]
end Go
namespace Go.Msg
open Go.RowKit Go.Proofs.YteghoooelgcpkaaGreatDoor
def startS (secret theirs self : ByteArray) : Sd := ⟨rootA secret (dhF self theirs), self, theirs, rootC secret (dhF self theirs), ⟨#[]⟩, 0, 0, 0, [], [], []⟩
def waitS (secret self : ByteArray) : Sd := ⟨secret, self, ⟨#[]⟩, ⟨#[]⟩, ⟨#[]⟩, 0, 0, 0, [], [], []⟩
theorem startS_wf {secret theirs self : ByteArray} (ht : theirs.size = 32) (hs : self.size = 32) : (startS secret theirs self).Wf :=
  ⟨rootA_size _ _, hs, Or.inr ht, Or.inr (rootC_size _ _), Or.inl rfl, Nat.zero_le _, Nat.zero_le _, Nat.zero_le _, Nat.zero_le _, fun _ h => (by cases h), Nat.zero_le _, fun _ h => (by cases h), Nat.zero_le _, fun _ h => (by cases h), fun h => absurd rfl h⟩
theorem waitS_wf {secret self : ByteArray} (hr : secret.size = 32) (hs : self.size = 32) : (waitS secret self).Wf :=
  ⟨hr, hs, Or.inl rfl, Or.inl rfl, Or.inl rfl, Nat.zero_le _, Nat.zero_le _, Nat.zero_le _, Nat.zero_le _, fun _ h => (by cases h), Nat.zero_le _, fun _ h => (by cases h), Nat.zero_le _, fun _ h => (by cases h), fun h => absurd rfl h⟩
def headF (x : Sd) : ByteArray := sRM ++ pubF x.self ++ be 2 (x.pn : Int) ++ be 2 (x.ns : Int)
theorem headF_size (x : Sd) : (headF x).size = 38 := by
  have h0 : sRM.size = 2 := rfl
  simp only [headF, ByteArray.size_append, pubF_size, be_size, h0]
def saidS (x : Sd) : Sd := { x with send := behF x.send, ns := x.ns + 1 }
def msgF (x : Sd) (text data : ByteArray) : ByteArray := headF x ++ be 2 (text.size : Int) ++ turnF (keyF x.send) text ++ tagF (keyF x.send) (data ++ headF x) (turnF (keyF x.send) text)
theorem saidS_wf {x : Sd} (h : x.Wf) (hn : x.ns ≠ 300) : (saidS x).Wf :=
  ⟨h.root, h.self, h.theirs, Or.inr (behF_size _), h.read, (by have := h.ns; show x.ns + 1 ≤ 300; omega), h.nr, h.pn, h.saved, h.savedW, h.past, h.pastW, h.draws, h.drawsW, h.both⟩
end Go.Msg
namespace Go.Proofs.YteghoooelgcpkaaGreatDoor
open Go.RowKit Go.Msg
abbrev nilS : Value := .slice none 0 0
theorem rtSide : RowTy Tryz.prog 55 12 := ⟨by decide, by kernel_rfl, _, Tryz.underlying55, rfl⟩
def side0 : Array Value := #[.string ⟨#[]⟩, .string ⟨#[]⟩, .string ⟨#[]⟩, .string ⟨#[]⟩, .string ⟨#[]⟩, .string ⟨#[]⟩, .int .i64 0, .int .i64 0, .int .i64 0, .slice none 0 0, .slice none 0 0, .slice none 0 0]
set_option maxHeartbeats 2000000 in
theorem pstart_f (p : Value) (s t k : ByteArray) (hs : s.size = 32) (ht : t.size = 32) (hk : k.size = 32) (w : World) (hp : PrimAt w p) :
    Calls Tryz.prog 74 #[p, .string s, .string t, .string k] w fun e w' => ((dhF k t = zeros 32 ∧ e = .returned (.tuple #[.agg side0, .bool false])) ∨ (dhF k t ≠ zeros 32 ∧ e = .returned (.tuple #[.agg (sideC (startS s t k) nilS nilS nilS), .bool true]))) ∧ Below w.heap.size w w' := by
  have z1 := dhF_size k t
  by_cases hd : dhF k t = zeros 32
  · have HD : Hid (decide (dhF k t ≠ zeros 32) = false) := Hid.mk (by simp [hd])
    have HDD : Hid _ := hd
    clear hd
    go_enter Tryz.func74, Tryz.ntmps74
    have B0 : Below w.heap.size w (w.alloc (.cells side0 55)) := by_alloc w _
    have R0 : (w.alloc (.cells side0 55)).rowOf w.heap.size = side0 := by simp [go_sem]
    go_wp2_with (first
      | (go_at_call 58; refine (rshared_f k t hk (by omega) _).mono ?_; rintro e w1 ⟨rfl, hb⟩; rw [HD.out]; have r1 : w1.rowOf w.heap.size = side0 := (by rw [below_row hb (by simp [go_sem])]; exact R0); have B1 := below_lift B0 (by simp) hb; clear hb B0 R0)
      | (refine wpl_store rtSide rfl _ _ rfl w.heap.size rfl _ rfl ?_ ?_ ?_ _ rfl ?_; (focus (rw [r1]; rfl)); (focus rfl); (focus (simp [Value.oneCell']; done))))
    refine bodyPost_ret (results_row_tmp rtSide Tryz.results74 _ _ w.heap.size rfl ?_) rfl ?_
    · rw [rowOf_setRow_same (by rw [r1]; decide)]; rfl
    · rw [rowOf_setRow_same (by rw [r1]; decide)]; exact ⟨Or.inl ⟨HDD.out, rfl⟩, below_setRow B1 (Nat.le_refl _) _⟩
  · have HD : Hid (decide (dhF k t ≠ zeros 32) = true) := Hid.mk (by simp [hd])
    have HDD : Hid _ := hd
    clear hd
    go_enter Tryz.func74, Tryz.ntmps74
    have B0 : Below w.heap.size w (w.alloc (.cells side0 55)) := by_alloc w _
    have R0 : (w.alloc (.cells side0 55)).rowOf w.heap.size = side0 := by simp [go_sem]
    go_wp2_with (first
      | (go_at_call 58; refine (rshared_f k t hk (by omega) _).mono ?_; rintro e w1 ⟨rfl, hb⟩; rw [HD.out]; have r1 : w1.rowOf w.heap.size = side0 := (by rw [below_row hb (by simp [go_sem])]; exact R0); have B1 := below_lift B0 (by simp) hb; have s1 := B1.size; have hp1 := hp.below B1; clear hb B0 R0)
      | (go_at_call 61; refine (rooted_f _ s (dhF k t) hs z1 _ hp1).mono ?_; rintro e w2 ⟨rfl, b2⟩; have r2 : w2.rowOf w.heap.size = side0 := (by rw [below_row b2 (by rw [r1]; decide), r1]); have B2 := below_lift B1 s1 b2; have s2 := B2.size)
      | (go_at_call 52; refine (rpublic_f k hk _).mono ?_; rintro e w3 ⟨rfl, b3⟩; have r3 : w3.rowOf w.heap.size = side0 := (by rw [below_row b3 (by rw [r2]; decide), r2]); have B3 := below_lift B2 s2 b3)
      | (refine wpl_store rtSide rfl _ _ rfl w.heap.size rfl _ rfl ?_ ?_ ?_ _ rfl ?_; (focus (rw [r3]; rfl)); (focus rfl); (focus (simp [Value.oneCell']; done))))
    refine bodyPost_ret (results_row_tmp rtSide Tryz.results74 _ _ w.heap.size rfl ?_) rfl ?_
    · rw [rowOf_setRow_same (by rw [r3]; decide)]; rfl
    · rw [rowOf_setRow_same (by rw [r3]; decide)]; exact ⟨Or.inr ⟨HDD.out, rfl⟩, below_setRow B3 (Nat.le_refl _) _⟩
set_option maxHeartbeats 2000000 in
theorem rwait_f (s k : ByteArray) (hk : k.size = 32) (w : World) :
    Calls Tryz.prog 76 #[.string s, .string k] w fun e w' => e = .returned (.agg (sideC (waitS s k) nilS nilS nilS)) ∧ Below w.heap.size w w' := by
  go_enter Tryz.func76, Tryz.ntmps76
  have B0 : Below w.heap.size w (w.alloc (.cells side0 55)) := by_alloc w _
  have R0 : (w.alloc (.cells side0 55)).rowOf w.heap.size = side0 := by simp [go_sem]
  go_wp2_with (first
      | (go_at_call 52; refine (rpublic_f k hk _).mono ?_; rintro e w3 ⟨rfl, b3⟩; have r3 : w3.rowOf w.heap.size = side0 := (by rw [below_row b3 (by simp [go_sem])]; exact R0); have B3 := below_lift B0 (by simp) b3; clear B0 R0)
      | (refine wpl_store rtSide rfl _ _ rfl w.heap.size rfl _ rfl ?_ ?_ ?_ _ rfl ?_; (focus (rw [r3]; rfl)); (focus rfl); (focus (simp [Value.oneCell']; done))))
  refine bodyPost_ret (results_row rtSide Tryz.results76 _ _ w.heap.size rfl ?_) rfl ?_
  · rw [rowOf_setRow_same (by rw [r3]; decide)]; rfl
  · rw [rowOf_setRow_same (by rw [r3]; decide)]; exact ⟨rfl, below_setRow B3 (Nat.le_refl _) _⟩
theorem side_all {w : World} {c : Array Value} {x : Sd} {vS vP vD : Value} (h : SideAt w c x vS vP vD) : c.all (·.oneCell') = true := by
  obtain ⟨rfl, h1, h2, h3⟩ := h
  have e1 := h1.one; have e2 := h2.one; have e3 := h3.one
  simp [sideC, Value.oneCell'] at *
  exact ⟨e1, e2, e3⟩
theorem box_two (w : World) (c d : Array Value) (t : Nat) : ((w.alloc (.cells c t)).alloc (.cells d t)).rowOf w.heap.size = c ∧ ((w.alloc (.cells c t)).alloc (.cells d t)).rowOf (w.heap.size + 1) = d := by constructor <;> simp [go_sem]
theorem sayB {w W : World} (h : Below w.heap.size w W) (j : Nat) (v : Value) : Below w.heap.size w (W.setCell ⟨w.heap.size, j, none⟩ v) := h.setCell (by simp) _
theorem sayQ {w W : World} {c : Array Value} (h : W.rowOf (w.heap.size + 1) = c) (j : Nat) (v : Value) : (W.setCell ⟨w.heap.size, j, none⟩ v).rowOf (w.heap.size + 1) = c := by rw [row_setO (by simp)]; exact h
set_option maxRecDepth 4000 in
set_option maxHeartbeats 4000000 in
theorem say_f (p : Value) (x : Sd) (hx : x.Wf) (c : Array Value) (vS vP vD : Value) (text data : ByteArray) (ht : text.size ≤ 200) (hd : data.size ≤ 100) (w : World) (hp : PrimAt w p) (hc : SideAt w c x vS vP vD) :
    Calls Tryz.prog 35 #[p, .agg c, .string text, .string data] w fun e w' =>
      ((x.send = ⟨#[]⟩ ∧ e = .returned (.tuple #[.agg c, .string ⟨#[]⟩, .int .i64 3])) ∨ (x.send ≠ ⟨#[]⟩ ∧ x.ns = 300 ∧ e = .returned (.tuple #[.agg c, .string ⟨#[]⟩, .int .i64 4])) ∨
       (x.send ≠ ⟨#[]⟩ ∧ x.ns ≠ 300 ∧ e = .returned (.tuple #[.agg (sideC (saidS x) vS vP vD), .string (msgF x text data), .int .i64 0]))) ∧ Below w.heap.size w w' := by
  have ca := side_all hc
  have csz : c.size = 12 := by rw [hc.eq]; rfl
  have HC : Hid (c = sideC x vS vP vD) := hc.eq
  have zs : x.send.size ≤ 32 := by rcases hx.send with h | h <;> omega
  rw [HC.out]
  obtain ⟨aoS, capS, gS, oS, rfl, _⟩ := hc.vs
  obtain ⟨aoP, capP, gP, oP, rfl, _⟩ := hc.vp
  obtain ⟨aoD, capD, gD, oD, rfl, _⟩ := hc.vd
  generalize x.saved.length = nS at *
  generalize x.past.length = nP at *
  generalize x.draws.length = nD at *
  clear ca csz hc
  by_cases he : x.send.toList = []
  · have HN : Hid (x.send = ⟨#[]⟩) := Hid.mk (toList_nil.1 he)
    have hb : x.send.toList.isEmpty = true := by rw [he]; rfl
    rw [sideC]
    go_enter Tryz.func35, Tryz.ntmps35
    go_wp2
    refine bodyPost_ret (results_row_tmp2 rtSide Tryz.results35 _ _ (w.heap.size + 1) rfl ?_) rfl ?_
    · simp [go_sem]
    · rw [(box_two w _ _ _).2]; exact ⟨Or.inl ⟨HN.out, rfl⟩, by_alloc2 _ _ _⟩
  · have HN : Hid (x.send ≠ ⟨#[]⟩) := Hid.mk (fun e => he (toList_nil.2 e))
    have hb : x.send.toList.isEmpty = false := by cases h : x.send.toList <;> simp_all
    by_cases h300 : x.ns = 300
    · have c3 : ((x.ns : Int) == 300) = true := by rw [h300]; rfl
      have H3 : Hid _ := h300
      clear h300
      rw [sideC]
      go_enter Tryz.func35, Tryz.ntmps35
      go_wp2
      refine bodyPost_ret (results_row_tmp2 rtSide Tryz.results35 _ _ (w.heap.size + 1) rfl ?_) rfl ?_
      · simp [go_sem]
      · rw [(box_two w _ _ _).2]; exact ⟨Or.inr (Or.inl ⟨HN.out, H3.out, rfl⟩), by_alloc2 _ _ _⟩
    · have c3 : ((x.ns : Int) == 300) = false := by simp; omega
      have H3 : Hid _ := h300
      have hns : (x.ns : Int) ≤ 299 := by have := hx.ns; omega
      have hpn : 0 ≤ (x.pn : Int) ∧ (x.pn : Int) < 65536 := by have := hx.pn; omega
      have hns2 : 0 ≤ (x.ns : Int) ∧ (x.ns : Int) < 65536 := by omega
      clear h300
      obtain ⟨L, hL⟩ : ∃ L : Array Value, L = sideC x (.slice aoS nS capS) (.slice aoP nP capP) (.slice aoD nD capD) := ⟨_, rfl⟩
      obtain ⟨x1, hx1⟩ : ∃ y : Sd, y = { x with send := behF x.send } := ⟨_, rfl⟩
      obtain ⟨L1, hL1⟩ : ∃ L : Array Value, L = sideC x1 (.slice aoS nS capS) (.slice aoP nP capP) (.slice aoD nD capD) := ⟨_, rfl⟩
      obtain ⟨L2, hL2⟩ : ∃ L : Array Value, L = sideC (saidS x) (.slice aoS nS capS) (.slice aoP nP capP) (.slice aoD nD capD) := ⟨_, rfl⟩
      have HLL1 : Hid (L.setIfInBounds 4 (.string (behF x.send)) = L1) := Hid.mk (by rw [hL, hL1, hx1]; rfl)
      have HLL2 : Hid (L1.setIfInBounds 6 (.int .i64 ((x.ns : Int) + 1)) = L2) := Hid.mk (by rw [hL2, hL1, hx1]; rfl)
      have HL4 : Hid (L[4]? = some (.string x.send)) := Hid.mk (by rw [hL]; rfl)
      have HL8 : Hid (L1[8]? = some (.int .i64 (x.pn : Int))) := Hid.mk (by rw [hL1, hx1]; rfl)
      have HL6 : Hid (L1[6]? = some (.int .i64 (x.ns : Int))) := Hid.mk (by rw [hL1, hx1]; rfl)
      have HL2 : Hid (L1[2]? = some (.string (pubF x.self))) := Hid.mk (by rw [hL1, hx1]; rfl)
      have HLs : Hid (L.size = 12) := Hid.mk (by rw [hL]; rfl)
      have HL1s : Hid (L1.size = 12) := Hid.mk (by rw [hL1]; rfl)
      have HL2s : Hid (L2.size = 12) := Hid.mk (by rw [hL2]; rfl)
      have HL2a : Hid (L2.all (·.oneCell') = true) := Hid.mk (by rw [hL2]; simp [sideC, Value.oneCell'])
      have HL2e : Hid _ := hL2
      have zp := pubF_size x.self
      have z2 : (be 2 (x.pn : Int)).size = 2 := be_size _ _
      have z3 : (be 2 (x.ns : Int)).size = 2 := be_size _ _
      have zk := keyF_size x.send
      have zb := behF_size x.send
      have zt := turnF_size (keyF x.send) text
      have z4 : (be 2 (text.size : Int)).size = 2 := be_size _ _
      have zh := headF_size x
      have zg := tagF_size (keyF x.send) (data ++ headF x) (turnF (keyF x.send) text)
      have HH : Hid ((⟨#[82, 77]⟩ : ByteArray) ++ pubF x.self ++ be 2 (x.pn : Int) ++ be 2 (x.ns : Int) = headF x) := Hid.mk rfl
      have ctx : 0 ≤ (text.size : Int) ∧ (text.size : Int) < 65536 := by omega
      have R0 : ((w.alloc (.cells #[.string x.root, .string x.self, .string (pubF x.self), .string x.theirs, .string x.send, .string x.read, .int .i64 (x.ns : Int), .int .i64 (x.nr : Int), .int .i64 (x.pn : Int), .slice aoS nS capS, .slice aoP nP capP, .slice aoD nD capD] 55)).alloc (.cells #[.string ⟨#[]⟩, .string ⟨#[]⟩, .string ⟨#[]⟩, .string ⟨#[]⟩, .string ⟨#[]⟩, .string ⟨#[]⟩, .int .i64 0, .int .i64 0, .int .i64 0, .slice none 0 0, .slice none 0 0, .slice none 0 0] 55)).rowOf w.heap.size = L := by rw [(box_two w _ _ _).1, hL]; rfl
      have Q0 : ((w.alloc (.cells #[.string x.root, .string x.self, .string (pubF x.self), .string x.theirs, .string x.send, .string x.read, .int .i64 (x.ns : Int), .int .i64 (x.nr : Int), .int .i64 (x.pn : Int), .slice aoS nS capS, .slice aoP nP capP, .slice aoD nD capD] 55)).alloc (.cells #[.string ⟨#[]⟩, .string ⟨#[]⟩, .string ⟨#[]⟩, .string ⟨#[]⟩, .string ⟨#[]⟩, .string ⟨#[]⟩, .int .i64 0, .int .i64 0, .int .i64 0, .slice none 0 0, .slice none 0 0, .slice none 0 0] 55)).rowOf (w.heap.size + 1) = side0 := by rw [(box_two w _ _ _).2]; rfl
      have B0 : Below w.heap.size w ((w.alloc (.cells #[.string x.root, .string x.self, .string (pubF x.self), .string x.theirs, .string x.send, .string x.read, .int .i64 (x.ns : Int), .int .i64 (x.nr : Int), .int .i64 (x.pn : Int), .slice aoS nS capS, .slice aoP nP capP, .slice aoD nD capD] 55)).alloc (.cells #[.string ⟨#[]⟩, .string ⟨#[]⟩, .string ⟨#[]⟩, .string ⟨#[]⟩, .string ⟨#[]⟩, .string ⟨#[]⟩, .int .i64 0, .int .i64 0, .int .i64 0, .slice none 0 0, .slice none 0 0, .slice none 0 0] 55)) := by_alloc2 w _ _
      have s0 := B0.size
      have p0 := hp.below B0
      have HK1 : Hid (macF x.send ⟨#[1]⟩ = keyF x.send) := Hid.mk rfl
      have HK2 : Hid (macF x.send ⟨#[2]⟩ = behF x.send) := Hid.mk rfl
      have HQs : Hid (0 < side0.size) := Hid.mk (by decide)
      have HLp : Hid (0 < L.size) := Hid.mk (by rw [HLs.out]; decide)
      have HL1p : Hid (0 < L1.size) := Hid.mk (by rw [HL1s.out]; decide)
      have HL2p : Hid (0 < L2.size) := Hid.mk (by rw [HL2s.out]; decide)
      have h4 : 4 < L.size := by rw [HLs.out]; decide
      have h6 : 6 < L1.size := by rw [HL1s.out]; decide
      have hne : w.heap.size + 1 ≠ w.heap.size := by omega
      have HMS : Hid (headF x ++ be 2 (text.size : Int) ++ turnF (keyF x.send) text ++ tagF (keyF x.send) (data ++ headF x) (turnF (keyF x.send) text) = msgF x text data) := Hid.mk rfl
      have HIF : Hid ((if false = true then text else turnF (keyF x.send) text) = turnF (keyF x.send) text) := Hid.mk rfl
      have zdh : (data ++ headF x).size ≤ 200 := by rw [ByteArray.size_append, zh]; omega
      clear hL hL1 hL2 hx1
      rw [sideC]
      generalize hLIT : (#[.string x.root, .string x.self, .string (pubF x.self), .string x.theirs, .string x.send, .string x.read, .int .i64 (x.ns : Int), .int .i64 (x.nr : Int), .int .i64 (x.pn : Int), .slice aoS nS capS, .slice aoP nP capP, .slice aoD nD capD] : Array Value) = LIT at R0 Q0 B0 s0 p0
      subst hLIT
      go_enter Tryz.func35, Tryz.ntmps35
      go_wp2_with (first
        | (go_at_call 62; have M := mac_any p x.send ⟨#[1]⟩ (by omega) (by decide) _ p0; with_reducible refine M.mono ?_; clear M; rintro e w1 ⟨rfl, b1⟩; have R1 : w1.rowOf w.heap.size = L := (by rw [below_row b1 (by rw [R0]; exact HLp.out)]; exact R0); have Q1 : w1.rowOf (w.heap.size + 1) = side0 := (by rw [below_row b1 (by rw [Q0]; exact HQs.out)]; exact Q0); have B1 := below_lift B0 s0 b1; have s1 := B1.size; have p1 := p0.below b1; have f1 := rowcell R1 4 _ HL4.out; rw [HK1.out])
        | (go_at_call 62; have M := mac_any p x.send ⟨#[2]⟩ (by omega) (by decide) w1 p1; with_reducible refine M.mono ?_; clear M; rintro e w2 ⟨rfl, b2⟩; have R2 : w2.rowOf w.heap.size = L := (by rw [below_row b2 (by rw [R1]; exact HLp.out)]; exact R1); have Q2 : w2.rowOf (w.heap.size + 1) = side0 := (by rw [below_row b2 (by rw [Q1]; exact HQs.out)]; exact Q1); have B2 := below_lift B1 s1 b2; have s2 := B2.size; have p2 := p1.below b2; have f2 := rowcell R2 4 _ HL4.out; have z2f := rowfz2 R2 4 h4; rw [HK2.out]; have R3 : (w2.setCell ⟨w.heap.size, 4, none⟩ (.string (behF x.send))).rowOf w.heap.size = L1 := (by rw [row_set2 R2 HLp.out]; exact HLL1.out); have Q3 : (w2.setCell ⟨w.heap.size, 4, none⟩ (.string (behF x.send))).rowOf (w.heap.size + 1) = side0 := (sayQ Q2 _ _); have B3 := sayB B2 4 (.string (behF x.send)); have s3 := B3.size; have g8 := rowcell R3 8 _ HL8.out)
        | (go_at_call 67; have M := pair_any (x.pn : Int) hpn (w2.setCell ⟨w.heap.size, 4, none⟩ (.string (behF x.send))); with_reducible refine M.mono ?_; clear M; rintro e w4 ⟨rfl, b4⟩; have R4 : w4.rowOf w.heap.size = L1 := (by rw [below_row b4 (by rw [R3]; exact HL1p.out)]; exact R3); have Q4 : w4.rowOf (w.heap.size + 1) = side0 := (by rw [below_row b4 (by rw [Q3]; exact HQs.out)]; exact Q3); have B4 := below_lift B3 s3 b4; have s4 := B4.size; have g6 := rowcell R4 6 _ HL6.out)
        | (go_at_call 67; have M := pair_any (x.ns : Int) hns2 w4; with_reducible refine M.mono ?_; clear M; rintro e w5 ⟨rfl, b5⟩; have R5 : w5.rowOf w.heap.size = L1 := (by rw [below_row b5 (by rw [R4]; exact HL1p.out)]; exact R4); have Q5 : w5.rowOf (w.heap.size + 1) = side0 := (by rw [below_row b5 (by rw [Q4]; exact HQs.out)]; exact Q4); have B5 := below_lift B4 s4 b5; have s5 := B5.size; have g2 := rowcell R5 2 _ HL2.out; have g6b := rowcell R5 6 _ HL6.out; have z6f := rowfz2 R5 6 h6; have R6 : (w5.setCell ⟨w.heap.size, 6, none⟩ (.int .i64 ((x.ns : Int) + 1))).rowOf w.heap.size = L2 := (by rw [row_set2 R5 HL1p.out]; exact HLL2.out); have Q6 := sayQ Q5 6 (.int .i64 ((x.ns : Int) + 1)); have B6 := sayB B5 6 (.int .i64 ((x.ns : Int) + 1)); have s6 := B6.size)
        | (go_at_call 57; rw [HH.out]; have M := sealed_any p (keyF x.send) (data ++ headF x) text false (by omega) zdh ht (w5.setCell ⟨w.heap.size, 6, none⟩ (.int .i64 ((x.ns : Int) + 1))) (hp.below B6); with_reducible refine M.mono ?_; clear M; rintro e w7 ⟨rfl, b7⟩; rw [HIF.out]; have R7 : w7.rowOf w.heap.size = L2 := (by rw [below_row b7 (by rw [R6]; exact HL2p.out)]; exact R6); have Q7 : w7.rowOf (w.heap.size + 1) = side0 := (by rw [below_row b7 (by rw [Q6]; exact HQs.out)]; exact Q6); have B7 := below_lift B6 s6 b7; have s7 := B7.size)
        | (go_at_call 67; have M := pair_any (text.size : Int) ctx w7; with_reducible refine M.mono ?_; clear M; rintro e w8 ⟨rfl, b8⟩; have R8 : w8.rowOf w.heap.size = L2 := (by rw [below_row b8 (by rw [R7]; exact HL2p.out)]; exact R7); have Q8 : w8.rowOf (w.heap.size + 1) = side0 := (by rw [below_row b8 (by rw [Q7]; exact HQs.out)]; exact Q7); have B8 := below_lift B7 s7 b8; have s8 := B8.size)
        | (refine wpl_load rtSide rfl _ rfl w.heap.size rfl L2 ?_ HL2s.out ?_; (focus (exact R8)))
        | (refine wpl_store rtSide rfl _ _ rfl (w.heap.size + 1) rfl L2 rfl ?_ HL2s.out HL2a.out _ rfl ?_; (focus (rw [Q8]; rfl))))
      refine bodyPost_ret (results_row_tmp2 rtSide Tryz.results35 _ _ (w.heap.size + 1) rfl ?_) rfl ?_
      · rw [rowOf_setRow_same (by rw [Q8]; exact HQs.out)]; exact HL2s.out
      · rw [rowOf_setRow_same (by rw [Q8]; exact HQs.out)]; exact ⟨Or.inr (Or.inr ⟨HN.out, H3.out, by rw [HL2e.out, ← HMS.out]; rfl⟩), below_setRow B8 (by omega) _⟩
end Go.Proofs.YteghoooelgcpkaaGreatDoor
namespace Go
open Go.RowKit
theorem run_append_zero {P : Program} (w : World) (t ty e : TypeId) (i : TypeInfo) (ht : P.underlying t = some (.slice e)) (hi : P.info? e = some i) (base : Option Addr) (n cap : Nat) (hn : n ≤ cap) (ao : Option Addr) (c : Nat) :
    (Builtin.append_ #[t, t] ty #[.slice base n cap, .slice ao 0 c]).run P w = .ok (.slice base n cap) w := by
  have hl : ∀ a, (loadCells a 0).run P w = .ok #[] w := fun a => by simp [loadCells, loadCellsFrom]
  cases base <;> cases ao <;> simp [Builtin.append_, run_underlying ht, sizeOf, typeInfo, hi, Builtin.lenOf, hn, Builtin.firstCells, storeCells, hl]
theorem wpl_append0 {P : Program} {t e : Nat} (ht : P.underlying t = some (.slice e)) (hi : (P.info? e).isSome = true) {ops : Array Oper} {rest : List Oper} {o : Oper} {a : Act} {w : World} {Q : Exit → Act → World → Prop} (hgd : o.guard = none) (s x : Operand)
    (ho : o.op = .call { callee := .builtin .append, args := #[s, x], argTypes := #[t, t] }) (base : Option Addr) (n cap : Nat) (hn : n ≤ cap) (hs : a.eval s = .slice base n cap) (ao : Option Addr) (c : Nat) (hx : a.eval x = .slice ao 0 c)
    (h : wpList P ops Q rest (a.put o.dst (.slice base n cap)) w) : wpList P ops Q (o :: rest) a w := by
  refine wpList_plain hgd fun _ hK => ?_
  cases hq : P.info? e with
  | none => simp [hq] at hi
  | some i =>
    have hr := run_append_zero (P := P) w t o.type e i ht hq base n cap hn ao c
    unfold Oper.wp execOp
    simp only [ho, resolve, invoke, builtin, Sem.run_bind, Sem.run_pure, Result.andThen_ok, List.map_toArray, List.map_cons, List.map_nil, hs, hx, hr]
    exact hK _ _ h
theorem wpl_appendL {P : Program} {t e S B : Nat} (ht : P.underlying t = some (.slice e)) (hi : (P.info? e).map (fun i => (i.zero.map (fun z => z.cells.size), i.size, i.bytes)) = some (some S, S, B)) (hS0 : 0 < S) (hB : B ≤ 100) {ops : Array Oper} {rest : List Oper} {o : Oper} {a : Act} {w : World} {Q : Exit → Act → World → Prop} (hgd : o.guard = none) (s x : Operand)
    (ho : o.op = .call { callee := .builtin .append, args := #[s, x], argTypes := #[t, t] }) (base : Nat) (v : Value) (n : Nat) (xs : List Value) (hs : a.eval s = v) (hown : w.ownsRow base e S v n xs) (ao : Option Addr) (ad : Addr) (m c : Nat) (news : List Value)
    (hx : a.eval x = .slice ao m c) (hao : 0 < m → ao = some ad) (hl : news.length = m * S) (hz : ∀ j u, news[j]? = some u → w.cell? (ad.add j) = some u) (h1 : ∀ u ∈ news, u.oneCell' = true) (hn : n ≤ 1000000) (hm : m ≤ 1000000) (hb : base ≤ w.heap.size)
    (h : ∀ v' w', w'.ownsRow base e S v' (n + m) (xs ++ news) → (∀ w0, Below base w0 w → Below base w0 w') → w.heap.size ≤ w'.heap.size → wpList P ops Q rest (a.put o.dst v') w') : wpList P ops Q (o :: rest) a w := by
  cases hq : P.info? e with
  | none => simp [hq] at hi
  | some i =>
    cases hzz : i.zero with
    | none => simp [hq, hzz] at hi
    | some z =>
      simp [hq, hzz] at hi
      obtain ⟨i1, i2, i3⟩ := hi
      by_cases hm0 : m = 0
      · subst hm0
        have hnil : news = [] := by rw [Nat.zero_mul] at hl; exact List.eq_nil_of_length_eq_zero hl
        subst hnil
        have hv : ∃ bo cap, v = .slice bo n cap ∧ n ≤ cap := by
          rcases hown.2 with ⟨rfl, rfl⟩ | ⟨g, cap, cur, rfl, _, _, hcap, _⟩
          · exact ⟨none, 0, rfl, Nat.le_refl _⟩
          · exact ⟨_, cap, rfl, hcap⟩
        obtain ⟨bo, cap, rfl, hcap⟩ := hv
        refine wpl_append0 ht (by rw [hq]; rfl) hgd s x ho bo n cap hcap hs ao c hx (h _ w ?_ (fun _ hb0 => hb0) (Nat.le_refl _))
        rw [Nat.add_zero, List.append_nil]; exact hown
      · have hao' := hao (by omega)
        subst hao'
        refine wpList_append_own _ hgd s x t ho base e i z S B ht hq hzz i2 i3 i1 hS0 v n xs hs hown ad m c news hx hl hz h1 ?_ ?_ hb ?_
        · unfold maxLen; omega
        · have : (n + m) * B ≤ 2000000 * 100 := Nat.mul_le_mul (by omega) (by omega)
          omega
        · intro v' w' h2 h3 _
          refine h v' w' h2 (fun w0 hb0 => hb0.grown h3 hb (fun q hq' => (hown.lt q hq').1)) h3.size
end Go
namespace Go.Proofs.YteghoooelgcpkaaGreatDoor
open Go.RowKit Go.Msg
def kpCells : List Kp → List Value
  | [] => []
  | k :: l => .string k.pt :: .int .i64 (k.n : Int) :: .string k.key :: kpCells l
def strCells (l : List ByteArray) : List Value := l.map Value.string
theorem kpCells_append (a b : List Kp) : kpCells (a ++ b) = kpCells a ++ kpCells b := by
  induction a with
  | nil => rfl
  | cons k a ih => simp [kpCells, ih]
theorem kpCells_length (l : List Kp) : (kpCells l).length = l.length * 3 := by
  induction l with
  | nil => rfl
  | cons k a ih => simp [kpCells, ih]; omega
theorem kpCells_one (l : List Kp) : ∀ u ∈ kpCells l, u.oneCell' = true := by
  induction l with
  | nil => intro u hu; cases hu
  | cons k a ih =>
    intro u hu
    simp only [kpCells, List.mem_cons] at hu
    rcases hu with rfl | rfl | rfl | hu
    · rfl
    · rfl
    · rfl
    · exact ih u hu
theorem kpCells_get (l : List Kp) (i : Nat) (k : Kp) (h : l[i]? = some k) : (kpCells l)[i * 3]? = some (.string k.pt) ∧ (kpCells l)[i * 3 + 1]? = some (.int .i64 (k.n : Int)) ∧ (kpCells l)[i * 3 + 2]? = some (.string k.key) := by
  induction l generalizing i with
  | nil => simp at h
  | cons a l ih =>
    cases i with
    | zero => simp at h; subst h; exact ⟨rfl, rfl, rfl⟩
    | succ i =>
      have := ih i (by simpa using h)
      rw [show (i + 1) * 3 = i * 3 + 1 + 1 + 1 by omega, show i * 3 + 1 + 1 + 1 + 1 = (i * 3 + 1) + 1 + 1 + 1 by omega, show i * 3 + 1 + 1 + 1 + 2 = (i * 3 + 2) + 1 + 1 + 1 by omega]
      simpa [kpCells] using this
theorem kpCells_at (l : List Kp) (j : Nat) (u : Value) (h : (kpCells l)[j]? = some u) : ∃ i k, l[i]? = some k ∧ ((j = i * 3 ∧ u = .string k.pt) ∨ (j = i * 3 + 1 ∧ u = .int .i64 (k.n : Int)) ∨ (j = i * 3 + 2 ∧ u = .string k.key)) := by
  have hj : j < (kpCells l).length := (List.getElem?_eq_some_iff.1 h).1
  rw [kpCells_length] at hj
  have hi : j / 3 < l.length := by omega
  refine ⟨j / 3, l[j / 3], List.getElem?_eq_getElem hi, ?_⟩
  obtain ⟨a, b, c⟩ := kpCells_get l (j / 3) _ (List.getElem?_eq_getElem hi)
  have h3 : j = j / 3 * 3 ∨ j = j / 3 * 3 + 1 ∨ j = j / 3 * 3 + 2 := by omega
  rcases h3 with e | e | e
  · left; refine ⟨e, ?_⟩; rw [← e, h] at a; exact Option.some.inj a
  · right; left; refine ⟨e, ?_⟩; rw [← e, h] at b; exact Option.some.inj b
  · right; right; refine ⟨e, ?_⟩; rw [← e, h] at c; exact Option.some.inj c
theorem KpsAt.of_owns {w : World} {B e : Nat} {v : Value} {l : List Kp} (h : w.ownsRow B e 3 v l.length (kpCells l)) : KpsAt w v l := by
  have h0 := h
  obtain ⟨h1, h2⟩ := h
  rcases h2 with ⟨rfl, hn⟩ | ⟨g, cap, cur, rfl, hg, hh, hc, hm, hs, ht⟩
  · have : l = [] := List.eq_nil_of_length_eq_zero hn
    subst this; exact KpsAt.nil w
  · refine ⟨_, cap, g, 0, rfl, hc, fun _ => rfl, fun i k hi => ?_⟩
    have hil : i < l.length := (List.getElem?_eq_some_iff.1 hi).1
    obtain ⟨a, b, c⟩ := kpCells_get l i k hi
    rw [Nat.zero_add, h0.cellAt _ (by omega), h0.cellAt _ (by omega), h0.cellAt _ (by omega)]
    exact ⟨a, b, c⟩
theorem StrsAt.of_owns {w : World} {B e : Nat} {v : Value} {l : List ByteArray} (h : w.ownsRow B e 1 v l.length (strCells l)) : StrsAt w v l := by
  have h0 := h
  obtain ⟨h1, h2⟩ := h
  rcases h2 with ⟨rfl, hn⟩ | ⟨g, cap, cur, rfl, hg, hh, hc, hm, hs, ht⟩
  · have : l = [] := List.eq_nil_of_length_eq_zero hn
    subst this; exact StrsAt.nil w
  · refine ⟨_, cap, g, 0, rfl, hc, fun _ => rfl, fun i t hi => ?_⟩
    have hil : i < l.length := (List.getElem?_eq_some_iff.1 hi).1
    rw [Nat.zero_add, h0.cellAt _ (by omega)]
    simp [strCells, hi]
theorem KpsAt.src {w : World} {v : Value} {l : List Kp} (h : KpsAt w v l) : ∃ ao cap ad, v = .slice ao l.length cap ∧ (0 < l.length → ao = some ad) ∧ ∀ j u, (kpCells l)[j]? = some u → w.cell? (ad.add j) = some u := by
  obtain ⟨ao, cap, g, o, h1, h2, h3, h4⟩ := h
  refine ⟨ao, cap, ⟨g, o, none⟩, h1, h3, fun j u hj => ?_⟩
  obtain ⟨i, k, hi, hc⟩ := kpCells_at l j u hj
  obtain ⟨a, b, c⟩ := h4 i k hi
  rw [Addr.add_mid]
  rcases hc with ⟨rfl, rfl⟩ | ⟨rfl, rfl⟩ | ⟨rfl, rfl⟩
  · exact a
  · exact b
  · exact c
theorem StrsAt.src {w : World} {v : Value} {l : List ByteArray} (h : StrsAt w v l) : ∃ ao cap ad, v = .slice ao l.length cap ∧ (0 < l.length → ao = some ad) ∧ ∀ j u, (strCells l)[j]? = some u → w.cell? (ad.add j) = some u := by
  obtain ⟨ao, cap, g, o, h1, h2, h3, h4⟩ := h
  refine ⟨ao, cap, ⟨g, o, none⟩, h1, h3, fun j u hj => ?_⟩
  rw [Addr.add_mid]
  simp only [strCells, List.getElem?_map, Option.map_eq_some_iff] at hj
  obtain ⟨t, ht, rfl⟩ := hj
  exact h4 j t ht
theorem strCells_one (l : List ByteArray) : ∀ u ∈ strCells l, u.oneCell' = true := by
  intro u hu
  simp only [strCells, List.mem_map] at hu
  obtain ⟨t, _, rfl⟩ := hu; rfl
theorem strCells_length (l : List ByteArray) : (strCells l).length = l.length * 1 := by simp [strCells]
theorem strCells_append (a b : List ByteArray) : strCells (a ++ b) = strCells a ++ strCells b := by simp [strCells]
theorem iSaved : (Tryz.prog.info? 89).map (fun i => (i.zero.map (fun z => z.cells.size), i.size, i.bytes)) = some (some 3, 3, 40) := by kernel_rfl
theorem iStr : (Tryz.prog.info? 9).map (fun i => (i.zero.map (fun z => z.cells.size), i.size, i.bytes)) = some (some 1, 1, 16) := by kernel_rfl
end Go.Proofs.YteghoooelgcpkaaGreatDoor
namespace Go.Msg
open Go.RowKit Go.Proofs.YteghoooelgcpkaaGreatDoor
def chn (c : ByteArray) : Nat → ByteArray
  | 0 => c
  | j + 1 => behF (chn c j)
def leftL (c pt : ByteArray) (n : Nat) : Nat → List Kp
  | 0 => []
  | j + 1 => leftL c pt n j ++ [⟨pt, n + j, keyF (chn c j)⟩]
theorem leftL_length (c pt : ByteArray) (n j : Nat) : (leftL c pt n j).length = j := by
  induction j with
  | zero => rfl
  | succ j ih => simp [leftL, ih]
theorem chn_size {c : ByteArray} (h : c.size = 32) (j : Nat) : (chn c j).size = 32 := by
  cases j with
  | zero => exact h
  | succ j => exact behF_size _
theorem leftL_wf {c pt : ByteArray} (hp : pt.size = 32) {n j : Nat} (h : n + j ≤ 300) : ∀ k ∈ leftL c pt n j, k.Wf := by
  induction j with
  | zero => intro k hk; cases hk
  | succ j ih =>
    intro k hk
    rw [leftL, List.mem_append] at hk
    rcases hk with hk | hk
    · exact ih (by omega) k hk
    · simp at hk; subst hk; exact ⟨hp, by show n + j < 300; omega, keyF_size _⟩
def lastL (a b : List Kp) : List Kp := (a ++ b).drop ((a ++ b).length - 32)
theorem lastL_length (a b : List Kp) : (lastL a b).length ≤ 32 := by simp [lastL]; omega
theorem lastL_wf {a b : List Kp} (ha : ∀ k ∈ a, k.Wf) (hb : ∀ k ∈ b, k.Wf) : ∀ k ∈ lastL a b, k.Wf := by
  intro k hk
  have := List.mem_of_mem_drop hk
  rcases List.mem_append.1 this with h | h
  · exact ha k h
  · exact hb k h
end Go.Msg
namespace Go.Proofs.YteghoooelgcpkaaGreatDoor
open Go.RowKit Go.Msg
theorem own_below3 {w w' : World} {B e S : Nat} {v : Value} {n : Nat} {xs : List Value} (h : w.ownsRow B e S v n xs) (hb : Below w.heap.size w w') : w'.ownsRow B e S v n xs := by
  refine ⟨h.1, ?_⟩
  rcases h.2 with hn | ⟨g, cap, cur, rfl, hg, hh, rest⟩
  · exact Or.inl hn
  · exact Or.inr ⟨g, cap, cur, rfl, hg, by rw [hb.block g (Array.getElem?_eq_some_iff.1 hh).1]; exact hh, rest⟩
theorem Off.nil (g : Nat) : Off g (.slice none 0 0) := fun a m c h => by cases h
theorem offS_of_owns {w : World} {B e s : Nat} {v : Value} {n : Nat} {xs : List Value} (h : w.ownsRow B e s v n xs) {g : Nat} (hg : g < B) : OffS g v := by
  rcases h.2 with ⟨rfl, _⟩ | ⟨k, cap, cur, rfl, hk, _⟩
  · simp [OffS, Value.ownBlock]
  · simp only [OffS, Value.ownBlock, ne_eq, Option.some.injEq]; omega
theorem off_of_owns {w : World} {B e s : Nat} {v : Value} {n : Nat} {xs : List Value} (h : w.ownsRow B e s v n xs) {g : Nat} (hg : g < B) : Off g v := (offS_of_owns h hg).off
set_option maxHeartbeats 2000000 in
theorem left_f (p : Value) (c pt : ByteArray) (n m : Nat) (hc : c.size = 32) (hm : m ≤ 300) (hnm : n ≤ 300) (w : World) (hp : PrimAt w p) :
    Calls Tryz.prog 59 #[p, .string c, .string pt, .int .i64 (n : Int), .int .i64 (m : Int)] w fun e w' => ∃ v, e = .returned (.tuple #[v, .string (chn c (m - n))]) ∧ KpsAt w' v (leftL c pt n (m - n)) ∧ Below w.heap.size w w' := by
  obtain ⟨N, hN⟩ : ∃ N, N = m - n := ⟨_, rfl⟩
  rw [← hN]
  have hN2 : n < m → n + N = m := by omega
  have hN3 : ¬ n < m → N = 0 := by omega
  have hN4 : N ≤ 300 := by omega
  have HCS : Hid (∀ j, (chn c j).size = 32) := Hid.mk (chn_size hc)
  clear hN
  go_enter Tryz.func59, Tryz.ntmps59
  go_wp2
  go_loopw [1, 3, 12, 13] (fun ch i v _ wr => ∃ j : Nat, j ≤ N ∧ ch = .string (chn c j) ∧ i = .int .i64 ((n : Int) + j) ∧ wr.ownsRow w.heap.size 89 3 v j (kpCells (leftL c pt n j)) ∧ Below w.heap.size w wr) (fun _ i _ _ _ => n + N - (intOf i).toNat)
  case atStart => exact ⟨0, by omega, rfl, by simp, World.ownsRow_nil _ _ _ _, Below.refl _ _⟩
  case round =>
    obtain ⟨j, hj, rfl, rfl, hown, hbel⟩ := hrel
    have hbs := hbel.size
    have zc := HCS.out j
    by_cases hlt : j < N
    · have c1 : (n : Int) + j < m := by omega
      have cm : (m : Int) ≤ 300 := by omega
      have HK : Hid (macF (chn c j) ⟨#[1]⟩ = keyF (chn c j)) := Hid.mk rfl
      have HB : Hid (macF (chn c j) ⟨#[2]⟩ = chn c (j + 1)) := Hid.mk rfl
      have HL : Hid (kpCells (leftL c pt n j) ++ [.string pt, .int .i64 ((n : Int) + j), .string (keyF (chn c j))] = kpCells (leftL c pt n (j + 1))) := Hid.mk (by rw [leftL, kpCells_append]; simp [kpCells])
      have Hown := Hid.mk hown
      clear hown
      go_wp2_with (first
        | (go_at_call 62; have M := mac_any p (chn c j) ⟨#[1]⟩ (by omega) (by decide) wr (hp.below hbel); with_reducible refine M.mono ?_; clear M; rintro e w1 ⟨rfl, b1⟩; rw [HK.out]; have B1 := below_lift hbel hbs b1; have s1 := B1.size; have O1 := own_below3 Hown.out b1)
        | (at_builtin; refine wpl_appendL Tryz.underlying53 iSaved (by omega) (by omega) rfl _ _ rfl w.heap.size _ j (kpCells (leftL c pt n j)) rfl ?_ _ ⟨w1.heap.size, 0, none⟩ 1 1 [.string pt, .int .i64 ((n : Int) + j), .string (keyF (chn c j))] rfl (fun _ => rfl) rfl ?_ ?_ (by omega) (by omega) ?_ ?_; (focus (exact O1.alloc _)); (focus (intro q u hq; rw [Addr.add_mid, Nat.zero_add]; exact rowcell (by simp [go_sem]; exact rfl) q u (by simpa using hq))); (focus (intro u hu; simp at hu; rcases hu with rfl | rfl | rfl <;> rfl)); (focus (simp; omega)); intro v' w2 hown2 hbel2 hsz2; have B2 := hbel2 _ (B1.alloc s1 _); have s2 := B2.size)
        | (go_at_call 62; have M := mac_any p (chn c j) ⟨#[2]⟩ (by omega) (by decide) w2 (hp.below B2); with_reducible refine M.mono ?_; clear M; rintro e w3 ⟨rfl, b3⟩; rw [HB.out]; have B3 := below_lift B2 s2 b3; have O3 := own_below3 hown2 b3))
      go_roundw
      case rel => exact ⟨j + 1, by omega, rfl, by go_num, by rw [← HL.out]; exact O3, B3⟩
      case measure => simp [intOf]; omega
    · have hj' : j = N := by omega
      subst hj'
      have c1 : ¬ (n : Int) + j < m := by omega
      have HO := Hid.mk hown
      clear hown
      go_wp2
      go_ret2
      exact ⟨_, rfl, KpsAt.of_owns (by rw [leftL_length]; exact HO.out), hbel⟩
theorem cells_below {w w' : World} {ad : Addr} {xs : List Value} (h : ∀ j u, xs[j]? = some u → w.cell? (ad.add j) = some u) (hb : Below w.heap.size w w') : ∀ j u, xs[j]? = some u → w'.cell? (ad.add j) = some u := fun j u hj => by
  rw [hb.cell (World.block_lt_of_cell? w _ (h j u hj))]; exact h j u hj
theorem own_shape {w : World} {B e S : Nat} {v : Value} {n : Nat} {xs : List Value} (h : w.ownsRow B e S v n xs) : ∃ ao cap g, v = .slice ao n cap ∧ (0 < n → ao = some ⟨g, 0, none⟩) ∧ n ≤ cap := by
  rcases h.2 with ⟨rfl, rfl⟩ | ⟨g, cap, cur, rfl, _, _, hc, _⟩
  · exact ⟨none, 0, 0, rfl, fun h => absurd h (by omega), Nat.le_refl _⟩
  · exact ⟨_, cap, g, rfl, fun _ => rfl, hc⟩
theorem owns_kps {w : World} {B : Nat} {v : Value} {n : Nat} {l : List Kp} (h : w.ownsRow B 89 3 v n (kpCells l)) (hn : n = l.length) : KpsAt w v l := KpsAt.of_owns (by rw [← hn]; exact h)
theorem kps_drop {w : World} {g cap : Nat} {l : List Kp} {n : Nat} (h : KpsAt w (.slice (some ⟨g, 0, none⟩) n cap) l) (hn : n = l.length) (d : Nat) (hd : d < l.length) (c : Nat) (hc : n - d ≤ c) (m : Nat) (hm : m = n - d) : KpsAt w (.slice (some ⟨g, d * 3, none⟩) m c) (l.drop d) := by
  obtain ⟨ao, cap', g', o, h1, h2, h3, h4⟩ := h
  have e := h3 (by omega)
  subst e
  simp at h1
  obtain ⟨⟨rfl, rfl⟩, _, rfl⟩ := h1
  have hl : (l.drop d).length = m := by rw [List.length_drop, hm, hn]
  refine ⟨_, c, g, d * 3, by rw [hl], by rw [hl]; omega, fun _ => rfl, fun i k hi => ?_⟩
  rw [List.getElem?_drop] at hi
  obtain ⟨a, b, q⟩ := h4 (d + i) k hi
  rw [Nat.zero_add] at a b q
  exact ⟨by rw [← a]; congr 2; omega, by rw [← b]; congr 2; omega, by rw [← q]; congr 2; omega⟩
set_option maxHeartbeats 2000000 in
theorem last_f (va vb : Value) (a b : List Kp) (la : a.length ≤ 100) (lb : b.length ≤ 400) (w : World) (ha : KpsAt w va a) (hb : KpsAt w vb b) :
    Calls Tryz.prog 60 #[va, vb] w fun e w' => ∃ v, e = .returned v ∧ KpsAt w' v (lastL a b) ∧ (∀ g, g < w.heap.size → Off g v) ∧ Below w.heap.size w w' := by
  obtain ⟨ao, capa, ada, rfl, ha2, ha3⟩ := ha.src
  obtain ⟨na, hna⟩ : ∃ n, n = a.length := ⟨_, rfl⟩
  have HNA := Hid.mk hna
  rw [← hna] at la ha2 ⊢
  obtain ⟨bo, capb, adb, hvb, hb2, hb3⟩ := hb.src
  obtain ⟨nb, hnb⟩ : ∃ n, n = b.length := ⟨_, rfl⟩
  have HNB := Hid.mk hnb
  rw [← hnb] at lb hb2 hvb
  have HA := Hid.mk ha3
  have HB := Hid.mk hb3
  subst hvb
  clear ha3 hb3 ha hb hna hnb
  by_cases h32 : na + nb > 32
  · have c32 : ((na : Int) + nb) > 32 := by omega
    go_enter Tryz.func60, Tryz.ntmps60
    go_wp2_with (first
      | (at_builtin; refine wpl_appendL Tryz.underlying53 iSaved (by omega) (by omega) rfl _ _ rfl w.heap.size _ 0 [] rfl ?_ ao ada na capa (kpCells a) rfl ha2 ?_ HA.out (kpCells_one a) (by omega) (by omega) (Nat.le_refl _) ?_; (focus (exact World.ownsRow_nil _ _ _ _)); (focus (rw [kpCells_length, HNA.out])); intro v1 w1 hown1 hbel1 hsz1; have B1 := hbel1 w (Below.refl _ _); have HB1 := cells_below HB.out B1)
      | (at_builtin; refine wpl_appendL Tryz.underlying53 iSaved (by omega) (by omega) rfl _ _ rfl w.heap.size _ (0 + na) ([] ++ kpCells a) rfl hown1 bo adb nb capb (kpCells b) rfl hb2 ?_ HB1 (kpCells_one b) (by omega) (by omega) hsz1 ?_; (focus (rw [kpCells_length, HNB.out])); intro v2 w2 hown2 hbel2 hsz2; have B2 := hbel2 w B1; rw [Nat.zero_add, List.nil_append, ← kpCells_append] at hown2; obtain ⟨ao2, cap2, g2, rfl, hg2, hc2⟩ := own_shape hown2; have hg3 := hg2 (by omega); subst hg3; have HO := Hid.mk hown2; clear hown2 hbel2 hown1 hbel1 HB1 hg2; obtain ⟨N, hN⟩ : ∃ N, N = na + nb := ⟨_, rfl⟩; rw [← hN] at HO hc2 h32 ⊢; have HNN := Hid.mk hN; have hN5 : (N : Int) ≤ 500 := (by omega); have hN6 : (32 : Int) < N := (by omega); have hN7 : ((N : Int) - 32).toNat = N - 32 := (by omega); have hN8 : ¬ cap2 = N - 32 := (by omega); clear hN)
      | fail)
    go_ret
    have hk : N = (a ++ b).length := by rw [List.length_append, ← HNA.out, ← HNB.out]; exact HNN.out
    have hd : lastL a b = (a ++ b).drop (N - 32) := by unfold lastL; rw [← hk]
    refine ⟨_, rfl, ?_, fun g hg => ?_, B2⟩
    · rw [hd]
      exact kps_drop (owns_kps HO.out hk) hk (N - 32) (by omega) _ (by omega) _ rfl
    · have h1 := offS_of_owns HO.out hg
      intro a m c e _
      cases e
      intro e
      exact h1 (by rw [show g2 = g from e]; rfl)
  · have c32 : ¬ ((na : Int) + nb) > 32 := by omega
    go_enter Tryz.func60, Tryz.ntmps60
    go_wp2_with (first
      | (at_builtin; refine wpl_appendL Tryz.underlying53 iSaved (by omega) (by omega) rfl _ _ rfl w.heap.size _ 0 [] rfl ?_ ao ada na capa (kpCells a) rfl ha2 ?_ HA.out (kpCells_one a) (by omega) (by omega) (Nat.le_refl _) ?_; (focus (exact World.ownsRow_nil _ _ _ _)); (focus (rw [kpCells_length, HNA.out])); intro v1 w1 hown1 hbel1 hsz1; have B1 := hbel1 w (Below.refl _ _); have HB1 := cells_below HB.out B1)
      | (at_builtin; refine wpl_appendL Tryz.underlying53 iSaved (by omega) (by omega) rfl _ _ rfl w.heap.size _ (0 + na) ([] ++ kpCells a) rfl hown1 bo adb nb capb (kpCells b) rfl hb2 ?_ HB1 (kpCells_one b) (by omega) (by omega) hsz1 ?_; (focus (rw [kpCells_length, HNB.out])); intro v2 w2 hown2 hbel2 hsz2; have B2 := hbel2 w B1; rw [Nat.zero_add, List.nil_append, ← kpCells_append] at hown2; obtain ⟨ao2, cap2, g2, rfl, hg2, hc2⟩ := own_shape hown2; have HO := Hid.mk hown2; clear hown2 hbel2 hown1 hbel1 HB1 hg2; obtain ⟨N, hN⟩ : ∃ N, N = na + nb := ⟨_, rfl⟩; rw [← hN] at HO hc2 h32 ⊢; have HNN := Hid.mk hN; have hN6 : ¬ (32 : Int) < N := (by omega); clear hN)
      | fail)
    go_ret
    have hk : N = (a ++ b).length := by rw [List.length_append, ← HNA.out, ← HNB.out]; exact HNN.out
    have hd : lastL a b = a ++ b := by unfold lastL; rw [← hk, show N - 32 = 0 by omega]; rfl
    refine ⟨_, rfl, ?_, fun g hg => off_of_owns HO.out hg, B2⟩
    rw [hd]
    exact owns_kps HO.out hk
end Go.Proofs.YteghoooelgcpkaaGreatDoor
