import Derived.Test.YteghoooelgcpkaaGreatDoorM15
namespace Go.Msg
open Go.RowKit Go.Proofs.YteghoooelgcpkaaGreatDoor
theorem ptF_ahead (m : ByteArray) : (ptF m).ahead = u16F m 34 := by simp only [ptF]
theorem ptF_n (m : ByteArray) : (ptF m).n = u16F m 36 := by simp only [ptF]
theorem ptF_point (m : ByteArray) : (ptF m).point = m.extract 2 34 := rfl
theorem ptF_head (m : ByteArray) : (ptF m).head = m.extract 0 38 := rfl
theorem ptF_turned (m : ByteArray) : (ptF m).turned = m.extract 40 (40 + u16F m 38) := rfl
theorem ptF_tag (m : ByteArray) : (ptF m).tag = m.extract (40 + u16F m 38) m.size := rfl
theorem ptF_sizes {m : ByteArray} (h : IsMsg m) : (ptF m).point.size = 32 ∧ (ptF m).head.size = 38 ∧ (ptF m).turned.size ≤ 200 ∧ (ptF m).tag.size = 32 ∧ (ptF m).ahead ≤ 300 ∧ (ptF m).n < 300 := by
  unfold IsMsg at h
  obtain ⟨h1, _, h3, h4, h5, h6⟩ := h
  rw [ptF_ahead, ptF_n, ptF_point, ptF_head, ptF_turned, ptF_tag]
  generalize u16F m 34 = A at *
  generalize u16F m 36 = N at *
  generalize u16F m 38 = U at *
  refine ⟨?_, ?_, ?_, ?_, h5, h6⟩
  · rw [ext_size (by omega)]
  · rw [ext_size (by omega)]
  · rw [ext_size (by omega)]; omega
  · rw [ext_size (by omega)]; omega
def isK (pt : ByteArray) (n : Nat) (k : Kp) : Bool := decide (k.pt = pt ∧ k.n = n)
def okK (k data : ByteArray) (p : Pt) : Bool := decide (tagF k (data ++ p.head) p.turned = p.tag)
def hearK (x : Sd) (p : Pt) (data : ByteArray) (i : Nat) (k : Kp) : Sd × ByteArray × Int :=
  if okK k.key data p then ({ x with saved := x.saved.take i ++ x.saved.drop (i + 1) }, turnF k.key p.turned, 0) else (x, ⟨#[]⟩, 10)
def hearC (x : Sd) (p : Pt) (data : ByteArray) : Sd × ByteArray × Int :=
  if okK (keyF (chn x.read (p.n - x.nr))) data p then
    ({ x with saved := lastL x.saved (leftL x.read p.point x.nr (p.n - x.nr)), read := behF (chn x.read (p.n - x.nr)), nr := p.n + 1 }, turnF (keyF (chn x.read (p.n - x.nr))) p.turned, 0)
  else (x, ⟨#[]⟩, 10)
def newSaved (x : Sd) (p : Pt) : List Kp := if x.read.size = 0 then x.saved else lastL x.saved (leftL x.read x.theirs x.nr (p.ahead - x.nr))
def newPast (x : Sd) : List ByteArray := if x.theirs.size = 0 then x.past else x.past ++ [x.theirs]
def newSide (x : Sd) (p : Pt) (d : ByteArray) : Sd :=
  let r := rootA x.root (dhF x.self p.point)
  let c0 := rootC x.root (dhF x.self p.point)
  { root := rootA r (dhF d p.point), self := d, theirs := p.point, send := rootC r (dhF d p.point), read := behF (chn c0 p.n), ns := 0, nr := p.n + 1, pn := x.ns,
    saved := lastL (newSaved x p) (leftL c0 p.point 0 p.n), past := newPast x, draws := x.draws.drop 1 }
def hearN (x : Sd) (p : Pt) (data d : ByteArray) : Sd × ByteArray × Int :=
  if okK (keyF (chn (rootC x.root (dhF x.self p.point)) p.n)) data p then (newSide x p d, turnF (keyF (chn (rootC x.root (dhF x.self p.point)) p.n)) p.turned, 0) else (x, ⟨#[]⟩, 10)
def been (x : Sd) (pt : ByteArray) : Bool := x.past.any (fun t => decide (t = pt))
def hearS (x : Sd) (m data : ByteArray) : Sd × ByteArray × Int :=
  if ¬ IsMsg m then (x, ⟨#[]⟩, 5) else
  match x.saved.findIdx? (isK (ptF m).point (ptF m).n) with
  | some i => match x.saved[i]? with
    | some k => hearK x (ptF m) data i k
    | none => (x, ⟨#[]⟩, 5)
  | none =>
    if x.theirs = (ptF m).point then
      if x.read.size = 0 ∨ (ptF m).n < x.nr then (x, ⟨#[]⟩, 6)
      else if (ptF m).n > x.nr + 20 then (x, ⟨#[]⟩, 7)
      else hearC x (ptF m) data
    else if been x (ptF m).point = true then (x, ⟨#[]⟩, 6)
    else if x.read.size ≠ 0 ∧ (ptF m).ahead > x.nr + 20 then (x, ⟨#[]⟩, 7)
    else if (ptF m).n > 20 then (x, ⟨#[]⟩, 7)
    else if x.theirs.size ≠ 0 ∧ 24 ≤ x.past.length then (x, ⟨#[]⟩, 4)
    else match x.draws with
      | [] => (x, ⟨#[]⟩, 8)
      | d :: _ => if dhF x.self (ptF m).point = zeros 32 then (x, ⟨#[]⟩, 9) else hearN x (ptF m) data d
theorem hearK_wf {x : Sd} (h : x.Wf) (p : Pt) (data : ByteArray) (i : Nat) (k : Kp) : (hearK x p data i k).1.Wf := by
  unfold hearK
  split
  · refine ⟨h.root, h.self, h.theirs, h.send, h.read, h.ns, h.nr, h.pn, ?_, ?_, h.past, h.pastW, h.draws, h.drawsW, h.both⟩
    · have := h.saved
      show (x.saved.take i ++ x.saved.drop (i + 1)).length ≤ 32
      simp; omega
    · intro q hq
      rcases List.mem_append.1 hq with hq | hq
      · exact h.savedW q (List.mem_of_mem_take hq)
      · exact h.savedW q (List.mem_of_mem_drop hq)
  · exact h
theorem hearC_wf {x : Sd} (h : x.Wf) {p : Pt} (hp : p.point.size = 32) (hn : p.n < 300) (ht : x.theirs.size ≠ 0) (data : ByteArray) : (hearC x p data).1.Wf := by
  unfold hearC
  split
  · refine ⟨h.root, h.self, h.theirs, h.send, Or.inr (behF_size _), h.ns, hn, h.pn, lastL_length _ _, lastL_wf h.savedW (leftL_wf hp ?_), h.past, h.pastW, h.draws, h.drawsW, fun _ => ht⟩
    have := h.nr; omega
  · exact h
theorem hearN_wf {x : Sd} (h : x.Wf) {p : Pt} (hp : p.point.size = 32) (hn : p.n < 300) (ha : p.ahead ≤ 300) (data d : ByteArray) (hd : d ∈ x.draws) (hfull : ¬ (x.theirs.size ≠ 0 ∧ 24 ≤ x.past.length)) : (hearN x p data d).1.Wf := by
  unfold hearN
  split
  · have hs : ∀ k ∈ newSaved x p, k.Wf := by
      unfold newSaved
      split
      · exact h.savedW
      · next hr =>
        refine lastL_wf h.savedW (leftL_wf ?_ (by have := h.nr; omega))
        have := h.both hr
        rcases h.theirs with e | e
        · omega
        · exact e
    refine ⟨rootA_size _ _, h.drawsW d hd, Or.inr hp, Or.inr (rootC_size _ _), Or.inr (behF_size _), Nat.zero_le _, hn, h.ns, lastL_length _ _, lastL_wf hs (leftL_wf hp (by omega)), ?_, ?_, ?_, ?_, fun _ => by show p.point.size ≠ 0; omega⟩
    · show (newPast x).length ≤ 24
      unfold newPast
      split
      · exact h.past
      · have := h.past; simp; omega
    · show ∀ t ∈ newPast x, t.size = 32
      unfold newPast
      split
      · exact h.pastW
      · next hr =>
        intro t ht
        rcases List.mem_append.1 ht with q | q
        · exact h.pastW t q
        · simp at q; subst q
          rcases h.theirs with e | e
          · omega
          · exact e
    · show (x.draws.drop 1).length ≤ 8
      have := h.draws; simp; omega
    · exact fun t ht => h.drawsW t (List.mem_of_mem_drop ht)
  · exact h
theorem hearS_wf {x : Sd} (h : x.Wf) (m data : ByteArray) : (hearS x m data).1.Wf := by
  unfold hearS
  split
  · exact h
  next hm =>
  obtain ⟨h1, h2, h3, h4, h5, h6⟩ := ptF_sizes (Classical.not_not.1 hm)
  split
  · split
    · exact hearK_wf h _ _ _ _
    · exact h
  · split
    · next hs =>
      split
      · exact h
      · split
        · exact h
        · exact hearC_wf h h1 h6 (by rw [hs]; omega) data
    · split
      · exact h
      · split
        · exact h
        · split
          · exact h
          · split
            · exact h
            · next hfull =>
              split
              · exact h
              · next d l hd =>
                split
                · exact h
                · exact hearN_wf h h1 h6 h5 data d (by rw [hd]; simp) hfull
end Go.Msg
namespace Go.Msg
open Go.RowKit Go.Proofs.YteghoooelgcpkaaGreatDoor
def orF (t : ByteArray) : Nat → Int
  | 0 => 0
  | k + 1 => bits .or .u8 (orF t k) (sb t k)
theorem or8_zero {x y : Int} (hx : 0 ≤ x ∧ x < 256) (hy : 0 ≤ y ∧ y < 256) : bits .or .u8 x y = 0 ↔ x = 0 ∧ y = 0 := by
  obtain ⟨a, rfl⟩ : ∃ a : Nat, x = a := ⟨x.toNat, by omega⟩
  obtain ⟨b, rfl⟩ : ∃ b : Nat, y = b := ⟨y.toNat, by omega⟩
  rw [(bits_nat .u8 8 (by decide) wraps_u8 a b (by omega) (by omega)).2]
  constructor
  · intro h
    have h0 : a ||| b = 0 := by omega
    have := Nat.or_eq_zero_iff.1 h0
    omega
  · rintro ⟨h1, h2⟩
    have e1 : a = 0 := by omega
    have e2 : b = 0 := by omega
    subst e1 e2; rfl
theorem orF_bd (t : ByteArray) (k : Nat) : 0 ≤ orF t k ∧ orF t k < 256 := by
  cases k with
  | zero => simp [orF]
  | succ k => exact ⟨bits_lo_u8 _ _ _, by have := bits_hi_u8 .or (orF t k) (sb t k); rw [orF]; omega⟩
theorem orF_zero (t : ByteArray) (k : Nat) : orF t k = 0 ↔ ∀ i, i < k → sb t i = 0 := by
  induction k with
  | zero => simp [orF]
  | succ k ih =>
    have hb := sb_bd t k
    rw [orF, or8_zero (orF_bd t k) (by omega), ih]
    constructor
    · intro h i hi
      by_cases e : i = k
      · subst e; exact h.2
      · exact h.1 i (by omega)
    · intro h; exact ⟨fun i hi => h i (by omega), h k (by omega)⟩
theorem zeros_iff {t : ByteArray} {n : Nat} (h : t.size = n) : t = zeros n ↔ ∀ i, i < n → sb t i = 0 := by
  constructor
  · intro e i hi
    rw [e]; unfold zeros; exact sb_bstr _ _ _ hi (by simp)
  · intro e
    refine ba_ext (by rw [h]; unfold zeros; rw [bstr_size]) (fun i hi => ?_)
    rw [e i (by omega)]; unfold zeros
    rw [sb_bstr _ _ _ (by omega) (by simp)]
end Go.Msg
namespace Go.Proofs.YteghoooelgcpkaaGreatDoor
open Go.RowKit Go.Msg
def sesC (x : Sd) (vK vP vD : Value) : Array Value := #[.string x.root, .string x.self, .string x.theirs, .string x.send, .string x.read, .int .i64 (x.ns : Int), .int .i64 (x.nr : Int), .int .i64 (x.pn : Int), vK, vP, vD]
structure SesAt (w : World) (g : Nat) (x : Sd) (vK vP vD : Value) : Prop where
  row : w.rowOf g = sesC x vK vP vD
  vk : KpsAt w vK x.saved
  vp : StrsAt w vP x.past
  vd : StrsAt w vD x.draws
theorem sesC_size (x : Sd) (vK vP vD : Value) : (sesC x vK vP vD).size = 11 := rfl
theorem SesAt.below {w w' : World} {g : Nat} {x : Sd} {vK vP vD : Value} (h : SesAt w g x vK vP vD) (hb : Below w.heap.size w w') : SesAt w' g x vK vP vD :=
  ⟨by rw [below_row hb (by rw [h.row, sesC_size]; omega)]; exact h.row, h.vk.below hb, h.vp.below hb, h.vd.below hb⟩
set_option maxHeartbeats 1000000 in
theorem allNoughts_any (t : ByteArray) (ht : t.size = 32) (w : World) :
    Calls Tryz.prog 116 #[.string t] w fun e w' => e = .returned (.bool (decide (t = zeros 32))) ∧ w' = w := by
  go_enter Tryz.func116, Tryz.ntmps116
  go_wp2
  go_loop [3, 4] (fun x i => ∃ (y : Int) (k : Nat), x = .int .u8 y ∧ i = .int .i64 k ∧ k ≤ t.size ∧ Hid (y = orF t k)) (fun _ i => t.size - (intOf i).toNat)
  case atStart => exact ⟨0, 0, rfl, rfl, by omega, Hid.mk rfl⟩
  case round =>
    obtain ⟨y, k, rfl, rfl, hk, HY⟩ := hrel
    by_cases hlt : k < t.size
    · have c3 : (k : Int) < t.size := by omega
      have HV : Hid (sb t k = (t[k].toNat : Int)) := Hid.mk (sb_at t k hlt)
      go_wp2
      go_round
      case rel => exact ⟨_, k + 1, rfl, by go_num, by omega, Hid.mk (by rw [orF, ← HY.out, HV.out])⟩
      case measure => simp [intOf]; omega
    · have c3 : ¬ (k : Int) < t.size := by omega
      have hk' : k = t.size := by omega
      have HE : Hid ((y == 0) = decide (t = zeros 32)) := Hid.mk (by
        rw [Bool.eq_iff_iff]
        simp only [beq_iff_eq, decide_eq_true_eq]
        rw [HY.out, hk', ht, orF_zero, zeros_iff ht])
      clear hk'
      go_wp2
      go_ret
      exact ⟨congrArg (fun z => Ending.returned (Value.bool z)) HE.out, rfl⟩
set_option maxHeartbeats 1000000 in
theorem swait_f (s k : ByteArray) (w : World) :
    Calls Tryz.prog 75 #[.string s, .string k] w fun e w' =>
      ((¬ (s.size = 32 ∧ k.size = 32) ∧ e = .returned (.tuple #[.pointer none, .int .i64 1])) ∨ ((s.size = 32 ∧ k.size = 32) ∧ e = .returned (.tuple #[.pointer (some ⟨w.heap.size, 0, none⟩), .int .i64 0]) ∧ SesAt w' w.heap.size (waitS s k) nilS nilS nilS)) ∧ Below w.heap.size w w' := by
  by_cases h1 : s.size = 32
  · by_cases h2 : k.size = 32
    · have c1 : (s.size : Int) = 32 := by omega
      have c2 : (k.size : Int) = 32 := by omega
      have HH := Hid.mk (And.intro h1 h2)
      clear h1 h2
      go_enter Tryz.func75, Tryz.ntmps75
      go_wp2
      go_ret2
      exact ⟨Or.inr ⟨HH.out, rfl, ⟨by simp [go_sem]; rfl, KpsAt.nil _, StrsAt.nil _, StrsAt.nil _⟩⟩, by_alloc w _⟩
    · have c1 : (s.size : Int) = 32 := by omega
      have c2 : ((k.size : Int) != 32) = true := by simp; omega
      have c3 : ¬ (k.size : Int) = 32 := by omega
      have HH := Hid.mk h2
      clear h2
      go_enter Tryz.func75, Tryz.ntmps75
      go_wp2
      go_ret2
      exact ⟨Or.inl ⟨fun h => HH.out h.2, rfl⟩, Below.refl _ _⟩
  · have c2 : ((s.size : Int) != 32) = true := by simp; omega
    have c3 : ¬ (s.size : Int) = 32 := by omega
    have HH := Hid.mk h1
    clear h1
    go_enter Tryz.func75, Tryz.ntmps75
    go_wp2
    go_ret2
    exact ⟨Or.inl ⟨fun h => HH.out h.1, rfl⟩, Below.refl _ _⟩
theorem start_bad {s t k : ByteArray} (w : World) (h : ¬ (s.size = 32 ∧ t.size = 32 ∧ k.size = 32)) :
    Calls Tryz.prog 73 #[.string s, .string t, .string k] w fun e w' => e = .returned (.tuple #[.pointer none, .int .i64 1]) ∧ Below w.heap.size w w' := by
  by_cases h1 : s.size = 32
  · by_cases h2 : t.size = 32
    · have h3 : ¬ k.size = 32 := fun e => h ⟨h1, h2, e⟩
      have c1 : (s.size : Int) = 32 := by omega
      have c2 : (t.size : Int) = 32 := by omega
      have c3 : ((k.size : Int) != 32) = true := by simp; omega
      have c4 : ¬ (k.size : Int) = 32 := by omega
      clear h h1 h2 h3
      go_enter Tryz.func73, Tryz.ntmps73
      go_wp2
      go_ret2
      exact ⟨rfl, Below.refl _ _⟩
    · have c1 : (s.size : Int) = 32 := by omega
      have c3 : ((t.size : Int) != 32) = true := by simp; omega
      have c4 : ¬ (t.size : Int) = 32 := by omega
      clear h h1 h2
      go_enter Tryz.func73, Tryz.ntmps73
      go_wp2
      go_ret2
      exact ⟨rfl, Below.refl _ _⟩
  · have c3 : ((s.size : Int) != 32) = true := by simp; omega
    have c4 : ¬ (s.size : Int) = 32 := by omega
    clear h h1
    go_enter Tryz.func73, Tryz.ntmps73
    go_wp2
    go_ret2
    exact ⟨rfl, Below.refl _ _⟩
set_option maxHeartbeats 1000000 in
theorem sstart_f (s t k : ByteArray) (hs : s.size = 32) (ht : t.size = 32) (hk : k.size = 32) (w : World) (hT : Tbl w) :
    Calls Tryz.prog 73 #[.string s, .string t, .string k] w fun e w' =>
      ((dhF k t = zeros 32 ∧ e = .returned (.tuple #[.pointer none, .int .i64 9])) ∨ (dhF k t ≠ zeros 32 ∧ ∃ g, w.heap.size ≤ g ∧ e = .returned (.tuple #[.pointer (some ⟨g, 0, none⟩), .int .i64 0]) ∧ SesAt w' g (startS s t k) nilS nilS nilS)) ∧ Below w.heap.size w w' := by
  have c1 : (s.size : Int) = 32 := by omega
  have c2 : (t.size : Int) = 32 := by omega
  have c3 : (k.size : Int) = 32 := by omega
  have z1 := dhF_size k t
  have HL : Hid (startS s t k = ⟨rootA s (dhF k t), k, t, rootC s (dhF k t), ⟨#[]⟩, 0, 0, 0, [], [], []⟩) := Hid.mk rfl
  by_cases hd : dhF k t = zeros 32
  · have HD : Hid (decide (dhF k t = zeros 32) = true) := Hid.mk (by simp [hd])
    have HDD := Hid.mk hd
    clear hd
    go_enter Tryz.func73, Tryz.ntmps73
    go_wp2_with (first
      | (go_at_call 101; have M := cshared_f k t (by omega) (by omega) w; with_reducible refine M.mono ?_; clear M; rintro e w1 ⟨rfl, b1⟩)
      | (go_at_call 116; have M := allNoughts_any (dhF k t) z1 w1; with_reducible refine M.mono ?_; clear M; rintro e w2 ⟨rfl, rfl⟩; rw [HD.out])
      | fail)
    go_ret2
    exact ⟨Or.inl ⟨HDD.out, rfl⟩, b1⟩
  · have HD : Hid (decide (dhF k t = zeros 32) = false) := Hid.mk (by simp [hd])
    have HDD := Hid.mk hd
    clear hd
    go_enter Tryz.func73, Tryz.ntmps73
    go_wp2_with (first
      | (go_at_call 101; have M := cshared_f k t (by omega) (by omega) w; with_reducible refine M.mono ?_; clear M; rintro e w1 ⟨rfl, b1⟩; have T1 := hT.below b1; have s1 := b1.size)
      | (go_at_call 116; have M := allNoughts_any (dhF k t) z1 w1; with_reducible refine M.mono ?_; clear M; rintro e w2 ⟨rfl, rfl⟩; rw [HD.out])
      | (go_at_call 117; have M := root_any s (dhF k t) hs z1 w2 T1; with_reducible refine M.mono ?_; clear M; rintro e w3 ⟨rfl, b3⟩; have B3 := below_lift b1 s1 b3; have s3 := B3.size)
      | fail)
    go_ret2
    exact ⟨Or.inr ⟨HDD.out, w3.heap.size, s3, rfl, ⟨by rw [HL.out]; simp [go_sem]; rfl, KpsAt.nil _, StrsAt.nil _, StrsAt.nil _⟩⟩, B3.alloc s3 _⟩
set_option maxHeartbeats 2000000 in
theorem joined_f (v : Value) (l : List ByteArray) (t : ByteArray) (hl : l.length ≤ 1000) (w : World) (hv : StrsAt w v l) :
    Calls Tryz.prog 118 #[v, .string t] w fun e w' => ∃ v', e = .returned v' ∧ StrsAt w' v' (l ++ [t]) ∧ Below w.heap.size w w' := by
  obtain ⟨ao, cap, ad, rfl, ha2, ha3⟩ := hv.src
  obtain ⟨n, hn⟩ : ∃ n, n = l.length := ⟨_, rfl⟩
  have HN := Hid.mk hn
  rw [← hn] at hl ha2 ⊢
  have HA := Hid.mk ha3
  clear ha3 hv hn
  go_enter Tryz.func118, Tryz.ntmps118
  go_wp2_with (first
    | (at_builtin; refine wpl_appendL Tryz.underlying32 iStr (by omega) (by omega) rfl _ _ rfl w.heap.size _ 0 [] rfl ?_ ao ad n cap (strCells l) rfl ha2 ?_ HA.out (strCells_one l) (by omega) (by omega) (Nat.le_refl _) ?_; (focus (exact World.ownsRow_nil _ _ _ _)); (focus (rw [strCells_length, HN.out])); intro v1 w1 hown1 hbel1 hsz1; have B1 := hbel1 w (Below.refl _ _))
    | (at_builtin; refine wpl_appendL Tryz.underlying32 iStr (by omega) (by omega) rfl _ _ rfl w.heap.size _ (0 + n) ([] ++ strCells l) rfl ?_ _ ⟨w1.heap.size, 0, none⟩ 1 1 [.string t] rfl (fun _ => rfl) rfl ?_ ?_ (by omega) (by omega) ?_ ?_; (focus (exact hown1.alloc _)); (focus (intro q u hq; rw [Addr.add_mid, Nat.zero_add]; exact rowcell (by simp [go_sem]; exact rfl) q u (by simpa using hq))); (focus (intro u hu; simp at hu; subst hu; rfl)); (focus (simp; omega)); intro v2 w2 hown2 hbel2 hsz2; have B2 := hbel2 w (B1.alloc hsz1 _))
    | fail)
  go_ret
  have HO : w2.ownsRow w.heap.size 9 1 v2 (l ++ [t]).length (strCells (l ++ [t])) := by
    rw [strCells_append, List.length_append, ← HN.out]; rw [Nat.zero_add, List.nil_append] at hown2; exact hown2
  exact ⟨_, rfl, StrsAt.of_owns HO, B2⟩
end Go.Proofs.YteghoooelgcpkaaGreatDoor
namespace Go
section
variable {P : Program} {ops : Array Oper} {C : World → Prop} {o : Oper} {rest : List Oper} {a : Act} {Q : Act → Prop}
theorem quiet_move (hg : o.guard = none) (x : Operand) (ho : o.op = .move x) (v : Value) (hx : a.eval x = v) (h : wpQuiet P ops C Q rest (a.put o.dst v)) : wpQuiet P ops C Q (o :: rest) a :=
  quiet_value hg v (fun w _ => ⟨w, by unfold execOp; simp only [ho, hx]; rfl, rfl⟩) h
theorem quiet_assign (hg : o.guard = none) (x : Operand) (ho : o.op = .assign x) (v : Value) (hx : a.eval x = v) (h : wpQuiet P ops C Q rest (a.put o.dst v)) : wpQuiet P ops C Q (o :: rest) a :=
  quiet_value hg v (fun w _ => ⟨w, by unfold execOp; simp only [ho, hx]; rfl, rfl⟩) h
theorem quiet_nil (hg : o.guard = none) (x : Operand) (ho : o.op = .nilCheck x) (p : Addr) (hx : a.eval x = .pointer (some p)) (h : wpQuiet P ops C Q rest (a.put o.dst (.pointer (some p)))) : wpQuiet P ops C Q (o :: rest) a :=
  quiet_value hg _ (fun w _ => ⟨w, by unfold execOp; simp only [ho, hx]; simp [go_sem], rfl⟩) h
theorem quiet_cat (hg : o.guard = none) (t t' : TypeId) (x y : Operand) (ho : o.op = .binOp .add t x y t') (s u : ByteArray) (hx : a.eval x = .string s) (hy : a.eval y = .string u) (hs : s.size + u.size < 2 ^ 31)
    (h : wpQuiet P ops C Q rest (a.put o.dst (.string (s ++ u)))) : wpQuiet P ops C Q (o :: rest) a :=
  quiet_value hg _ (fun w _ => ⟨w, by unfold execOp; simp only [ho, hx, hy]; simp [go_sem]; try omega, rfl⟩) h
end
end Go
namespace Go.Msg
open Go.RowKit Go.Proofs.YteghoooelgcpkaaGreatDoor
theorem be1 {x : Int} (h : 0 ≤ x ∧ x < 256) : be 1 x = b1 x := by
  show b1 (x / 256 ^ 0 % 256) ++ ⟨#[]⟩ = b1 x
  rw [ba_empty]; congr 1; simp; omega
end Go.Msg
namespace Go.Proofs.YteghoooelgcpkaaGreatDoor
open Go.RowKit Go.Msg
theorem oneByte_f (x : Int) (hx : 0 ≤ x ∧ x < 256) (w : World) :
    Calls Tryz.prog 99 #[.int .i64 x] w fun e w' => e = .returned (.string (Proofs.YteghoooelgcpkaaGreatDoor.b1 x)) ∧ Below w.heap.size w w' := by
  have HE := Hid.mk (be1 hx)
  have c : x % 4294967296 = x := by omega
  obtain ⟨h0, h1⟩ := hx
  go_enter Tryz.func99, Tryz.ntmps99
  go_wp2_with (first | (go_at_call 100; have M := otext1 x ⟨by omega, by omega⟩ w; with_reducible refine M.mono ?_; clear M; rintro e w1 ⟨rfl, b1⟩; rw [HE.out]) | fail)
  go_ret
  exact ⟨rfl, b1⟩
theorem u16_f (x : Int) (hx : 0 ≤ x ∧ x < 65536) (w : World) :
    Calls Tryz.prog 64 #[.int .i64 x] w fun e w' => e = .returned (.string (be 2 x)) ∧ Below w.heap.size w w' := by
  have c : x % 4294967296 = x := by omega
  obtain ⟨h0, h1⟩ := hx
  go_enter Tryz.func64, Tryz.ntmps64
  go_wp2_with (first | (go_at_call 100; have M := otext2 x ⟨by omega, by omega⟩ w; with_reducible refine M.mono ?_; clear M; rintro e w1 ⟨rfl, b1⟩) | fail)
  go_ret
  exact ⟨rfl, b1⟩
theorem maybeText_f (t : ByteArray) (ht : Opt t) (w : World) :
    Calls Tryz.prog 63 #[.string t] w fun e w' => e = .returned (.string (optB t)) ∧ Below w.heap.size w w' := by
  have zt : t.size ≤ 32 := by rcases ht with h | h <;> omega
  by_cases he : t.toList = []
  · have HE : Hid (optB t = Proofs.YteghoooelgcpkaaGreatDoor.b1 0) := Hid.mk (by rw [optB_no (toList_nil.1 he)]; rfl)
    have hb : t.toList.isEmpty = true := by rw [he]; rfl
    go_enter Tryz.func63, Tryz.ntmps63
    go_wp2_with (first | (go_at_call 99; have M := oneByte_f 0 (by omega) w; with_reducible refine M.mono ?_; clear M; rintro e w1 ⟨rfl, b1⟩; rw [← HE.out]) | fail)
    go_ret
    exact ⟨rfl, b1⟩
  · have HE : Hid (optB t = Proofs.YteghoooelgcpkaaGreatDoor.b1 1 ++ t) := Hid.mk (by rw [optB_yes (fun e => he (toList_nil.2 e))]; rfl)
    have hb : t.toList.isEmpty = false := by cases h : t.toList <;> simp_all
    have z1 := b1_size 1
    go_enter Tryz.func63, Tryz.ntmps63
    go_wp2_with (first | (go_at_call 99; have M := oneByte_f 1 (by omega) w; with_reducible refine M.mono ?_; clear M; rintro e w1 ⟨rfl, b1⟩) | fail)
    go_ret
    exact ⟨congrArg (fun z => Ending.returned (Value.string z)) HE.out.symm, b1⟩
set_option maxHeartbeats 1000000 in
theorem listText_f (v : Value) (l : List ByteArray) (hl : l.length ≤ 200) (hw : ∀ t ∈ l, t.size = 32) (w : World) (hv : StrsAt w v l) :
    Calls Tryz.prog 66 #[v] w fun e w' => e = .returned (.string (Proofs.YteghoooelgcpkaaGreatDoor.b1 (l.length : Int) ++ strsB l)) ∧ Below w.heap.size w w' := by
  obtain ⟨ao, cap, g, o, rfl, hc, ha, hx⟩ := hv
  obtain ⟨n, hn⟩ : ∃ n, n = l.length := ⟨_, rfl⟩
  have HN := Hid.mk hn
  rw [← hn] at hl hc ha ⊢
  have HX := Hid.mk hx
  have HW := Hid.mk hw
  clear hn hx hw
  have c0 : (n : Int) ≤ 200 := by omega
  have z1 : (Proofs.YteghoooelgcpkaaGreatDoor.b1 (n : Int)).size = 1 := b1_size _
  go_enter Tryz.func66, Tryz.ntmps66
  go_wp2_with (first | (go_at_call 99; have M := oneByte_f (n : Int) (by omega) w; with_reducible refine M.mono ?_; clear M; rintro e w1 ⟨rfl, B1⟩) | fail)
  go_loop [3, 4] (fun v i => ∃ (t : ByteArray) (k : Nat), v = .string t ∧ i = .int .i64 k ∧ k ≤ n ∧ t.size ≤ 1 + 32 * k ∧ Hid (t = Proofs.YteghoooelgcpkaaGreatDoor.b1 (n : Int) ++ strsB (l.take k))) (fun _ i => n - (intOf i).toNat)
  case atStart => exact ⟨_, 0, rfl, rfl, by omega, by omega, Hid.mk (by show Proofs.YteghoooelgcpkaaGreatDoor.b1 (n : Int) = Proofs.YteghoooelgcpkaaGreatDoor.b1 (n : Int) ++ ⟨#[]⟩; rw [ba_empty])⟩
  case round =>
    obtain ⟨t, k, rfl, rfl, hk, ht, HTT⟩ := hrel
    by_cases hlt : k < n
    · have c5 : (k : Int) < n := by omega
      have c6 : t.size ≤ 10000 := by omega
      have hao := ha (by omega)
      subst hao
      obtain ⟨p, hp⟩ : ∃ p, l[k]? = some p := ⟨l[k]'(by rw [← HN.out]; exact hlt), List.getElem?_eq_getElem _⟩
      have zp := HW.out p (List.mem_of_getElem? hp)
      have hpc := HX.out k p hp
      have e1 : w1.cell? ⟨g, o + k, none⟩ = some (.string p) := by rw [B1.cell (World.block_lt_of_cell? w _ hpc)]; exact hpc
      have HST : Hid (strsB (l.take (k + 1)) = strsB (l.take k) ++ p) := Hid.mk (by rw [take_snoc _ _ _ hp, strsB_snoc])
      clear hp hpc
      go_wp2
      go_round
      case rel => exact ⟨_, k + 1, rfl, by go_num, by omega, by simp only [ByteArray.size_append, zp]; omega, Hid.mk (by rw [HST.out, HTT.out, ByteArray.append_assoc])⟩
      case measure => simp [intOf]; omega
    · have c5 : ¬ (k : Int) < n := by omega
      have HE : Hid (t = Proofs.YteghoooelgcpkaaGreatDoor.b1 (n : Int) ++ strsB l) := Hid.mk (by rw [HTT.out, show k = l.length by rw [← HN.out]; omega, List.take_length])
      go_wp2
      go_ret
      exact ⟨congrArg (fun z => Ending.returned (Value.string z)) HE.out, B1⟩
set_option maxHeartbeats 2000000 in
theorem keptText_f (v : Value) (l : List Kp) (hl : l.length ≤ 200) (hw : ∀ k ∈ l, k.Wf) (w : World) (hv : KpsAt w v l) :
    Calls Tryz.prog 65 #[v] w fun e w' => e = .returned (.string (Proofs.YteghoooelgcpkaaGreatDoor.b1 (l.length : Int) ++ kpsB l)) ∧ Below w.heap.size w w' := by
  obtain ⟨ao, cap, g, o, rfl, hc, ha, hx⟩ := hv
  obtain ⟨n, hn⟩ : ∃ n, n = l.length := ⟨_, rfl⟩
  have HN := Hid.mk hn
  rw [← hn] at hl hc ha ⊢
  have HX := Hid.mk hx
  have HW := Hid.mk hw
  clear hn hx hw
  have c0 : (n : Int) ≤ 200 := by omega
  have z1 : (Proofs.YteghoooelgcpkaaGreatDoor.b1 (n : Int)).size = 1 := b1_size _
  go_enter Tryz.func65, Tryz.ntmps65
  go_wp2_with (first | (go_at_call 99; have M := oneByte_f (n : Int) (by omega) w; with_reducible refine M.mono ?_; clear M; rintro e w1 ⟨rfl, B1⟩) | fail)
  go_loopw [3, 4] (fun v i wq => ∃ (t : ByteArray) (k : Nat), v = .string t ∧ i = .int .i64 k ∧ k ≤ n ∧ t.size ≤ 1 + 66 * k ∧ Hid (t = Proofs.YteghoooelgcpkaaGreatDoor.b1 (n : Int) ++ kpsB (l.take k)) ∧ Below w.heap.size w wq) (fun _ i _ => n - (intOf i).toNat)
  case atStart => exact ⟨_, 0, rfl, rfl, by omega, by omega, Hid.mk (by show Proofs.YteghoooelgcpkaaGreatDoor.b1 (n : Int) = Proofs.YteghoooelgcpkaaGreatDoor.b1 (n : Int) ++ ⟨#[]⟩; rw [ba_empty]), B1⟩
  case round =>
    obtain ⟨t, k, rfl, rfl, hk, ht, HTT, Bq⟩ := hrel
    by_cases hlt : k < n
    · have c5 : (k : Int) < n := by omega
      have c6 : t.size ≤ 20000 := by omega
      have hao := ha (by omega)
      subst hao
      obtain ⟨kp, hkp⟩ : ∃ kp, l[k]? = some kp := ⟨l[k]'(by rw [← HN.out]; exact hlt), List.getElem?_eq_getElem _⟩
      have hkw := HW.out kp (List.mem_of_getElem? hkp)
      obtain ⟨hp, hxi, hky⟩ := HX.out k kp hkp
      have zp := hkw.pt
      have zk := hkw.key
      have zn : 0 ≤ (kp.n : Int) ∧ (kp.n : Int) < 65536 := by have := hkw.n; omega
      have x5 : (be 2 (kp.n : Int)).size = 2 := be_size _ _
      have HST : Hid (kpsB (l.take (k + 1)) = kpsB (l.take k) ++ kpB kp) := Hid.mk (by rw [take_snoc _ _ _ hkp, kpsB_snoc])
      clear hkw hkp
      go_wp2
      have E0 : ∀ W, Below w.heap.size w W → W.cell? ⟨g, o + k * 3, none⟩ = some (.string kp.pt) := fun W hW => by rw [hW.cell (World.block_lt_of_cell? w _ hp)]; exact hp
      have E1 : ∀ W, Below w.heap.size w W → W.cell? ⟨g, o + k * 3 + 1, none⟩ = some (.int .i64 (kp.n : Int)) := fun W hW => by rw [hW.cell (World.block_lt_of_cell? w _ hxi)]; exact hxi
      have E2 : ∀ W, Below w.heap.size w W → W.cell? ⟨g, o + k * 3 + 2, none⟩ = some (.string kp.key) := fun W hW => by rw [hW.cell (World.block_lt_of_cell? w _ hky)]; exact hky
      refine wp_region_quiet (C := fun W => Below w.heap.size w W) mixed_any (by kernel_rfl) Bq.drew ?_
      simp only
      refine quiet_move rfl _ rfl (.string t) rfl ?_
      simp only [Act.put, List.setIfInBounds_toArray, List.set_cons_succ, List.set_cons_zero]
      refine quiet_move rfl _ rfl (.slice (some ⟨g, o, none⟩) n cap) rfl ?_
      simp only [Act.put, List.setIfInBounds_toArray, List.set_cons_succ, List.set_cons_zero]
      refine quiet_move rfl _ rfl (.int .i64 (k : Int)) rfl ?_
      simp only [Act.put, List.setIfInBounds_toArray, List.set_cons_succ, List.set_cons_zero]
      refine quiet_value rfl (.pointer (some ⟨g, o + k * 3, none⟩)) (fun W hW => ⟨W, by unfold execOp; simp [go_sem, Act.eval, c5], rfl⟩) ?_
      simp only [Act.put, List.setIfInBounds_toArray, List.set_cons_succ, List.set_cons_zero]
      refine quiet_value rfl (.pointer (some ⟨g, o + k * 3, none⟩)) (fun W hW => ⟨W, by unfold execOp; simp [go_sem, Act.eval], rfl⟩) ?_
      simp only [Act.put, List.setIfInBounds_toArray, List.set_cons_succ, List.set_cons_zero]
      refine quiet_value rfl (.string kp.pt) (fun W hW => ⟨W, by have E := E0 W hW; unfold execOp; simp [go_sem, Act.eval, E], rfl⟩) ?_
      simp only [Act.put, List.setIfInBounds_toArray, List.set_cons_succ, List.set_cons_zero]
      refine quiet_move rfl _ rfl (.slice (some ⟨g, o, none⟩) n cap) rfl ?_
      simp only [Act.put, List.setIfInBounds_toArray, List.set_cons_succ, List.set_cons_zero]
      refine quiet_move rfl _ rfl (.int .i64 (k : Int)) rfl ?_
      simp only [Act.put, List.setIfInBounds_toArray, List.set_cons_succ, List.set_cons_zero]
      refine quiet_value rfl (.pointer (some ⟨g, o + k * 3, none⟩)) (fun W hW => ⟨W, by unfold execOp; simp [go_sem, Act.eval, c5], rfl⟩) ?_
      simp only [Act.put, List.setIfInBounds_toArray, List.set_cons_succ, List.set_cons_zero]
      refine quiet_value rfl (.pointer (some ⟨g, o + k * 3 + 1, none⟩)) (fun W hW => ⟨W, by unfold execOp; simp [go_sem, Act.eval], rfl⟩) ?_
      simp only [Act.put, List.setIfInBounds_toArray, List.set_cons_succ, List.set_cons_zero]
      refine quiet_value rfl (.int .i64 (kp.n : Int)) (fun W hW => ⟨W, by have E := E1 W hW; unfold execOp; simp [go_sem, Act.eval, E], rfl⟩) ?_
      simp only [Act.put, List.setIfInBounds_toArray, List.set_cons_succ, List.set_cons_zero]
      refine quiet_call rfl (.string (be 2 (kp.n : Int))) 64 #[.int .i64 (kp.n : Int)] (fun W => by unfold execOp; simp [go_sem, Act.eval]) (fun W hW => (u16_f (kp.n : Int) zn W).mono fun _ _ h => ⟨h.1, below_lift hW hW.size h.2⟩) ?_
      simp only [Act.put, List.setIfInBounds_toArray, List.set_cons_succ, List.set_cons_zero]
      refine quiet_cat rfl _ _ _ _ rfl (kp.pt) (be 2 (kp.n : Int)) rfl rfl (by first | omega | (simp only [ByteArray.size_append]; omega)) ?_
      simp only [Act.put, List.setIfInBounds_toArray, List.set_cons_succ, List.set_cons_zero]
      refine quiet_move rfl _ rfl (.slice (some ⟨g, o, none⟩) n cap) rfl ?_
      simp only [Act.put, List.setIfInBounds_toArray, List.set_cons_succ, List.set_cons_zero]
      refine quiet_move rfl _ rfl (.int .i64 (k : Int)) rfl ?_
      simp only [Act.put, List.setIfInBounds_toArray, List.set_cons_succ, List.set_cons_zero]
      refine quiet_value rfl (.pointer (some ⟨g, o + k * 3, none⟩)) (fun W hW => ⟨W, by unfold execOp; simp [go_sem, Act.eval, c5], rfl⟩) ?_
      simp only [Act.put, List.setIfInBounds_toArray, List.set_cons_succ, List.set_cons_zero]
      refine quiet_value rfl (.pointer (some ⟨g, o + k * 3 + 2, none⟩)) (fun W hW => ⟨W, by unfold execOp; simp [go_sem, Act.eval], rfl⟩) ?_
      simp only [Act.put, List.setIfInBounds_toArray, List.set_cons_succ, List.set_cons_zero]
      refine quiet_value rfl (.string kp.key) (fun W hW => ⟨W, by have E := E2 W hW; unfold execOp; simp [go_sem, Act.eval, E], rfl⟩) ?_
      simp only [Act.put, List.setIfInBounds_toArray, List.set_cons_succ, List.set_cons_zero]
      refine quiet_cat rfl _ _ _ _ rfl (kp.pt ++ be 2 (kp.n : Int)) (kp.key) rfl rfl (by first | omega | (simp only [ByteArray.size_append]; omega)) ?_
      simp only [Act.put, List.setIfInBounds_toArray, List.set_cons_succ, List.set_cons_zero]
      refine quiet_cat rfl _ _ _ _ rfl (t) (kp.pt ++ be 2 (kp.n : Int) ++ kp.key) rfl rfl (by first | omega | (simp only [ByteArray.size_append]; omega)) ?_
      simp only [Act.put, List.setIfInBounds_toArray, List.set_cons_succ, List.set_cons_zero]
      refine quiet_assign rfl _ rfl (.string (t ++ (kp.pt ++ be 2 (kp.n : Int) ++ kp.key))) rfl ?_
      simp only [Act.put, List.setIfInBounds_toArray, List.set_cons_succ, List.set_cons_zero]
      refine wpQuiet_nil ?_
      intro wz Bz
      go_wp2
      go_roundw
      case rel => exact ⟨_, k + 1, rfl, by go_num, by omega, by simp only [ByteArray.size_append, zp, zk, x5]; omega, Hid.mk (by rw [HST.out, HTT.out]; simp only [kpB, ByteArray.append_assoc]), Bz⟩
      case measure => simp [intOf]; omega
    · have c5 : ¬ (k : Int) < n := by omega
      have HE : Hid (t = Proofs.YteghoooelgcpkaaGreatDoor.b1 (n : Int) ++ kpsB l) := Hid.mk (by rw [HTT.out, show k = l.length by rw [← HN.out]; omega, List.take_length])
      go_wp2
      go_ret
      exact ⟨congrArg (fun z => Ending.returned (Value.string z)) HE.out, Bq⟩
end Go.Proofs.YteghoooelgcpkaaGreatDoor
namespace Go.Proofs.YteghoooelgcpkaaGreatDoor
open Go.RowKit Go.Msg
theorem export_nil (w : World) : Calls Tryz.prog 32 #[.pointer none] w fun e w' => e = .returned (.string ⟨#[]⟩) ∧ Below w.heap.size w w' := by
  go_enter Tryz.func32, Tryz.ntmps32
  go_wp2
  go_ret
  exact ⟨rfl, Below.refl _ _⟩
set_option maxRecDepth 4000 in
set_option maxHeartbeats 4000000 in
theorem export_f (x : Sd) (hx : x.Wf) (g : Nat) (vK vP vD : Value) (w : World) (hs : SesAt w g x vK vP vD) :
    Calls Tryz.prog 32 #[.pointer (some ⟨g, 0, none⟩)] w fun e w' => e = .returned (.string (keptB x)) ∧ Below w.heap.size w w' := by
  have HK : Hid (keptB x = optP x 3 ++ (be 2 (x.ns : Int) ++ be 2 (x.nr : Int) ++ be 2 (x.pn : Int)) ++ (Proofs.YteghoooelgcpkaaGreatDoor.b1 (x.saved.length : Int) ++ kpsB x.saved) ++ (Proofs.YteghoooelgcpkaaGreatDoor.b1 (x.past.length : Int) ++ strsB x.past) ++ (Proofs.YteghoooelgcpkaaGreatDoor.b1 (x.draws.length : Int) ++ strsB x.draws)) := Hid.mk (by simp only [keptB, optP, ByteArray.append_assoc])
  have H0 : Hid (optP x 0 = (⟨#[82, 83]⟩ : ByteArray) ++ x.root ++ x.self) := Hid.mk rfl
  have H1 : Hid (optP x 1 = optP x 0 ++ optB x.theirs) := Hid.mk rfl
  have H2 : Hid (optP x 2 = optP x 1 ++ optB x.send) := Hid.mk rfl
  have H3 : Hid (optP x 3 = optP x 2 ++ optB x.read) := Hid.mk rfl
  have p0 := optP_size hx 0
  have p1 := optP_size hx 1
  have p2 := optP_size hx 2
  have p3 := optP_size hx 3
  have z0 := hx.root
  have z1 := hx.self
  have o2 := optB_size hx.theirs
  have o3 := optB_size hx.send
  have o4 := optB_size hx.read
  have kS := kpsB_size x.saved hx.savedW
  have kP := strsB_size x.past hx.pastW
  have kD := strsB_size x.draws hx.drawsW
  have lS := hx.saved
  have lP := hx.past
  have lD := hx.draws
  have x1 : (be 2 (x.ns : Int)).size = 2 := be_size _ _
  have x2 : (be 2 (x.nr : Int)).size = 2 := be_size _ _
  have x3 : (be 2 (x.pn : Int)).size = 2 := be_size _ _
  have b300 : 0 ≤ (x.ns : Int) ∧ (x.ns : Int) < 65536 := by have := hx.ns; omega
  have b301 : 0 ≤ (x.nr : Int) ∧ (x.nr : Int) < 65536 := by have := hx.nr; omega
  have b302 : 0 ≤ (x.pn : Int) ∧ (x.pn : Int) < 65536 := by have := hx.pn; omega
  have HX := Hid.mk hx
  have HS := Hid.mk hs
  have hrow := hs.row
  have E : ∀ W, Below w.heap.size w W → ∀ i v, (sesC x vK vP vD)[i]? = some v → W.cell? ⟨g, i, none⟩ = some v := fun W hW i v hi => rowcell (hs.below hW).row i v hi
  have HE := Hid.mk E
  have f0 : w.cell? ⟨g, 0, none⟩ = some (.string x.root) := E w (Below.refl _ _) 0 _ rfl
  have f1 : w.cell? ⟨g, 1, none⟩ = some (.string x.self) := E w (Below.refl _ _) 1 _ rfl
  have B0 : ∀ q, Below w.heap.size w (w.drewN q) := fun q => below_drewN (Below.refl _ _) q
  have HB0 := Hid.mk B0
  clear hx hs E hrow B0
  go_enter Tryz.func32, Tryz.ntmps32
  go_wp2
  go_quiet (fail)
  rw [← H0.out]
  have B1 := HB0.out nq
  generalize w.drewN nq = W1 at B1 ⊢
  have f2 : W1.cell? ⟨g, 2, none⟩ = some (.string x.theirs) := HE.out W1 B1 2 _ rfl
  clear f0 f1
  have s1 := B1.size
  go_wp2_with (first
    | (go_at_call 63; have M := maybeText_f x.theirs HX.out.theirs W1; with_reducible refine M.mono ?_; clear M; rintro e w2 ⟨rfl, b2⟩; have B2 := below_lift B1 s1 b2; have s2 := B2.size; have f3 : w2.cell? ⟨g, 3, none⟩ = some (.string x.send) := HE.out w2 B2 3 _ rfl; clear b2)
    | (go_at_call 63; rw [← H1.out]; have M := maybeText_f x.send HX.out.send w2; with_reducible refine M.mono ?_; clear M; rintro e w3 ⟨rfl, b3⟩; have B3 := below_lift B2 s2 b3; have s3 := B3.size; have f4 : w3.cell? ⟨g, 4, none⟩ = some (.string x.read) := HE.out w3 B3 4 _ rfl; clear b3)
    | (go_at_call 63; rw [← H2.out]; have M := maybeText_f x.read HX.out.read w3; with_reducible refine M.mono ?_; clear M; rintro e w4 ⟨rfl, b4⟩; have B4 := below_lift B3 s3 b4; have s4 := B4.size; clear b4)
    | fail)
  rw [← H3.out]
  clear f2 f3 f4 B1 B2 B3 s1 s2 s3
  have E5 : ∀ W, Below w.heap.size w W → W.cell? ⟨g, 5, none⟩ = some (.int .i64 (x.ns : Int)) := fun W hW => HE.out W hW 5 _ rfl
  have E6 : ∀ W, Below w.heap.size w W → W.cell? ⟨g, 6, none⟩ = some (.int .i64 (x.nr : Int)) := fun W hW => HE.out W hW 6 _ rfl
  have E7 : ∀ W, Below w.heap.size w W → W.cell? ⟨g, 7, none⟩ = some (.int .i64 (x.pn : Int)) := fun W hW => HE.out W hW 7 _ rfl
  refine wp_region_quiet (C := fun W => Below w.heap.size w W) mixed_any (by kernel_rfl) B4.drew ?_
  simp only
  refine quiet_move rfl _ rfl (.string (optP x 3)) rfl ?_
  simp only [Act.put, List.setIfInBounds_toArray, List.set_cons_succ, List.set_cons_zero]
  refine quiet_move rfl _ rfl (.pointer (some ⟨g, 0, none⟩)) rfl ?_
  simp only [Act.put, List.setIfInBounds_toArray, List.set_cons_succ, List.set_cons_zero]
  refine quiet_nil rfl _ rfl ⟨g, 0, none⟩ rfl ?_
  simp only [Act.put, List.setIfInBounds_toArray, List.set_cons_succ, List.set_cons_zero]
  refine quiet_value rfl (.pointer (some ⟨g, 5, none⟩)) (fun W hW => ⟨W, by unfold execOp; simp [go_sem, Act.eval], rfl⟩) ?_
  simp only [Act.put, List.setIfInBounds_toArray, List.set_cons_succ, List.set_cons_zero]
  refine quiet_value rfl (.int .i64 (x.ns : Int)) (fun W hW => ⟨W, by have E := E5 W hW; unfold execOp; simp [go_sem, Act.eval, E], rfl⟩) ?_
  simp only [Act.put, List.setIfInBounds_toArray, List.set_cons_succ, List.set_cons_zero]
  refine quiet_call rfl (.string (be 2 (x.ns : Int))) 64 #[.int .i64 (x.ns : Int)] (fun W => by unfold execOp; simp [go_sem, Act.eval]) (fun W hW => (u16_f (x.ns : Int) b300 W).mono fun _ _ h => ⟨h.1, below_lift hW hW.size h.2⟩) ?_
  simp only [Act.put, List.setIfInBounds_toArray, List.set_cons_succ, List.set_cons_zero]
  refine quiet_move rfl _ rfl (.pointer (some ⟨g, 0, none⟩)) rfl ?_
  simp only [Act.put, List.setIfInBounds_toArray, List.set_cons_succ, List.set_cons_zero]
  refine quiet_nil rfl _ rfl ⟨g, 0, none⟩ rfl ?_
  simp only [Act.put, List.setIfInBounds_toArray, List.set_cons_succ, List.set_cons_zero]
  refine quiet_value rfl (.pointer (some ⟨g, 6, none⟩)) (fun W hW => ⟨W, by unfold execOp; simp [go_sem, Act.eval], rfl⟩) ?_
  simp only [Act.put, List.setIfInBounds_toArray, List.set_cons_succ, List.set_cons_zero]
  refine quiet_value rfl (.int .i64 (x.nr : Int)) (fun W hW => ⟨W, by have E := E6 W hW; unfold execOp; simp [go_sem, Act.eval, E], rfl⟩) ?_
  simp only [Act.put, List.setIfInBounds_toArray, List.set_cons_succ, List.set_cons_zero]
  refine quiet_call rfl (.string (be 2 (x.nr : Int))) 64 #[.int .i64 (x.nr : Int)] (fun W => by unfold execOp; simp [go_sem, Act.eval]) (fun W hW => (u16_f (x.nr : Int) b301 W).mono fun _ _ h => ⟨h.1, below_lift hW hW.size h.2⟩) ?_
  simp only [Act.put, List.setIfInBounds_toArray, List.set_cons_succ, List.set_cons_zero]
  refine quiet_cat rfl _ _ _ _ rfl (be 2 (x.ns : Int)) (be 2 (x.nr : Int)) rfl rfl (by first | omega | (simp only [ByteArray.size_append]; omega)) ?_
  simp only [Act.put, List.setIfInBounds_toArray, List.set_cons_succ, List.set_cons_zero]
  refine quiet_move rfl _ rfl (.pointer (some ⟨g, 0, none⟩)) rfl ?_
  simp only [Act.put, List.setIfInBounds_toArray, List.set_cons_succ, List.set_cons_zero]
  refine quiet_nil rfl _ rfl ⟨g, 0, none⟩ rfl ?_
  simp only [Act.put, List.setIfInBounds_toArray, List.set_cons_succ, List.set_cons_zero]
  refine quiet_value rfl (.pointer (some ⟨g, 7, none⟩)) (fun W hW => ⟨W, by unfold execOp; simp [go_sem, Act.eval], rfl⟩) ?_
  simp only [Act.put, List.setIfInBounds_toArray, List.set_cons_succ, List.set_cons_zero]
  refine quiet_value rfl (.int .i64 (x.pn : Int)) (fun W hW => ⟨W, by have E := E7 W hW; unfold execOp; simp [go_sem, Act.eval, E], rfl⟩) ?_
  simp only [Act.put, List.setIfInBounds_toArray, List.set_cons_succ, List.set_cons_zero]
  refine quiet_call rfl (.string (be 2 (x.pn : Int))) 64 #[.int .i64 (x.pn : Int)] (fun W => by unfold execOp; simp [go_sem, Act.eval]) (fun W hW => (u16_f (x.pn : Int) b302 W).mono fun _ _ h => ⟨h.1, below_lift hW hW.size h.2⟩) ?_
  simp only [Act.put, List.setIfInBounds_toArray, List.set_cons_succ, List.set_cons_zero]
  refine quiet_cat rfl _ _ _ _ rfl (be 2 (x.ns : Int) ++ be 2 (x.nr : Int)) (be 2 (x.pn : Int)) rfl rfl (by first | omega | (simp only [ByteArray.size_append]; omega)) ?_
  simp only [Act.put, List.setIfInBounds_toArray, List.set_cons_succ, List.set_cons_zero]
  refine quiet_cat rfl _ _ _ _ rfl (optP x 3) (be 2 (x.ns : Int) ++ be 2 (x.nr : Int) ++ be 2 (x.pn : Int)) rfl rfl (by first | omega | (simp only [ByteArray.size_append]; omega)) ?_
  simp only [Act.put, List.setIfInBounds_toArray, List.set_cons_succ, List.set_cons_zero]
  refine quiet_assign rfl _ rfl (.string (optP x 3 ++ (be 2 (x.ns : Int) ++ be 2 (x.nr : Int) ++ be 2 (x.pn : Int)))) rfl ?_
  simp only [Act.put, List.setIfInBounds_toArray, List.set_cons_succ, List.set_cons_zero]
  refine wpQuiet_nil ?_
  intro w5 B5
  have zt : (optP x 3 ++ (be 2 (x.ns : Int) ++ be 2 (x.nr : Int) ++ be 2 (x.pn : Int))).size ≤ 300 := by simp only [ByteArray.size_append]; omega
  generalize optP x 3 ++ (be 2 (x.ns : Int) ++ be 2 (x.nr : Int) ++ be 2 (x.pn : Int)) = t5 at HK zt ⊢
  have zS : (Proofs.YteghoooelgcpkaaGreatDoor.b1 (x.saved.length : Int) ++ kpsB x.saved).size ≤ 2200 := by rw [ByteArray.size_append, b1_size, kS]; omega
  have zP : (Proofs.YteghoooelgcpkaaGreatDoor.b1 (x.past.length : Int) ++ strsB x.past).size ≤ 2200 := by rw [ByteArray.size_append, b1_size, kP]; omega
  have zD : (Proofs.YteghoooelgcpkaaGreatDoor.b1 (x.draws.length : Int) ++ strsB x.draws).size ≤ 2200 := by rw [ByteArray.size_append, b1_size, kD]; omega
  have f8 : w5.cell? ⟨g, 8, none⟩ = some vK := HE.out w5 B5 8 _ rfl
  have s5 := B5.size
  have q1 := (HS.out.below B5).vk
  have HMS : Hid _ := Hid.mk (keptText_f vK x.saved (by omega) HX.out.savedW w5 q1)
  clear q1 E5 E6 E7 B4 s4 kS kP kD
  obtain ⟨tS, hS⟩ : ∃ t, t = Proofs.YteghoooelgcpkaaGreatDoor.b1 (x.saved.length : Int) ++ kpsB x.saved := ⟨_, rfl⟩
  obtain ⟨tP, hP⟩ : ∃ t, t = Proofs.YteghoooelgcpkaaGreatDoor.b1 (x.past.length : Int) ++ strsB x.past := ⟨_, rfl⟩
  obtain ⟨tD, hD⟩ : ∃ t, t = Proofs.YteghoooelgcpkaaGreatDoor.b1 (x.draws.length : Int) ++ strsB x.draws := ⟨_, rfl⟩
  rw [← hS] at zS
  rw [← hP] at zP
  rw [← hD] at zD
  rw [← hS, ← hP, ← hD] at HK
  have HTS := Hid.mk hS
  have HTP := Hid.mk hP
  have HTD := Hid.mk hD
  clear hS hP hD
  go_wp2_with (first
    | (go_at_call 65; have M := HMS.out; with_reducible refine M.mono ?_; clear M; rintro e w6 ⟨rfl, b6⟩; rw [← HTS.out]; have B6 := below_lift B5 s5 b6; have s6 := B6.size; have f9 : w6.cell? ⟨g, 9, none⟩ = some vP := HE.out w6 B6 9 _ rfl; clear b6)
    | (go_at_call 66; have M := listText_f vP x.past (by omega) HX.out.pastW w6 (HS.out.below B6).vp; with_reducible refine M.mono ?_; clear M; rintro e w7 ⟨rfl, b7⟩; rw [← HTP.out]; have B7 := below_lift B6 s6 b7; have s7 := B7.size; have f10 : w7.cell? ⟨g, 10, none⟩ = some vD := HE.out w7 B7 10 _ rfl; clear b7)
    | (go_at_call 66; have M := listText_f vD x.draws (by omega) HX.out.drawsW w7 (HS.out.below B7).vd; with_reducible refine M.mono ?_; clear M; rintro e w8 ⟨rfl, b8⟩; rw [← HTD.out]; have B8 := below_lift B7 s7 b8; clear b8)
    | fail)
  go_ret
  exact ⟨congrArg (fun z => Ending.returned (Value.string z)) HK.out.symm, B8⟩
end Go.Proofs.YteghoooelgcpkaaGreatDoor
namespace Go
open Go.RowKit
structure Tch (g : Nat) (w w' : World) : Prop where
  os : w'.os = w.os
  tape : w'.tape = w.tape
  output : w'.output = w.output
  size : w.heap.size ≤ w'.heap.size
  block : ∀ k, k < w.heap.size → k ≠ g → w'.heap[k]? = w.heap[k]?
theorem tch_of {w w' : World} (h : Below w.heap.size w w') (g : Nat) : Tch g w w' := ⟨h.os, h.tape, h.output, h.size, fun k hk _ => h.block k hk⟩
theorem Tch.trans {g : Nat} {a b c : World} (h : Tch g a b) (k : Tch g b c) : Tch g a c :=
  ⟨k.os.trans h.os, k.tape.trans h.tape, k.output.trans h.output, Nat.le_trans h.size k.size, fun i hi hg => (k.block i (Nat.lt_of_lt_of_le hi h.size) hg).trans (h.block i hi hg)⟩
theorem Tch.setCell {g : Nat} {w w' : World} (h : Tch g w w') (i : Nat) (v : Value) : Tch g w (w'.setCell ⟨g, i, none⟩ v) :=
  ⟨h.os, h.tape, h.output, by simpa using h.size, fun k hk hg => (heap_setCell_other w' ⟨g, i, none⟩ k v hg).trans (h.block k hk hg)⟩
theorem Tch.cell {g : Nat} {w w' : World} (h : Tch g w w') {p : Addr} (hp : p.block < w.heap.size) (hg : p.block ≠ g) : w'.cell? p = w.cell? p := World.cell?_of_block (w := w) (h.block p.block hp hg)
theorem Tch.row {g : Nat} {w w' : World} (h : Tch g w w') {k : Nat} (hs : 0 < (w.rowOf k).size) (hg : k ≠ g) : w'.rowOf k = w.rowOf k := by
  have := h.block k (rowOf_lt hs) hg
  simp only [World.rowOf, this]
theorem rowOf_setCell {w : World} {g : Nat} {c : Array Value} (h : w.rowOf g = c) (hc : 0 < c.size) (i : Nat) (v : Value) : (w.setCell ⟨g, i, none⟩ v).rowOf g = c.setIfInBounds i v := by
  obtain ⟨t, ht⟩ := rowOf_heap (n := c.size) (by rw [h]) hc
  have := heap_setCell_same w g i _ t v ht
  rw [rowOf_block this, h]
end Go
namespace Go.Proofs.YteghoooelgcpkaaGreatDoor
open Go.RowKit Go.Msg
theorem StrsAt.tch {g : Nat} {w w' : World} {v : Value} {l : List ByteArray} (h : StrsAt w v l) (hb : Tch g w w') (ho : Off g v) : StrsAt w' v l := by
  obtain ⟨ao, cap, k, o, rfl, h2, h3, h4⟩ := h
  refine ⟨ao, cap, k, o, rfl, h2, h3, fun i t hi => ?_⟩
  have hl : 0 < l.length := Nat.lt_of_le_of_lt (Nat.zero_le _) (List.getElem?_eq_some_iff.1 hi).1
  have hk : k ≠ g := ho ⟨k, o, none⟩ l.length cap (by rw [h3 hl]) hl
  rw [hb.cell (World.block_lt_of_cell? w _ (h4 i t hi)) hk]; exact h4 i t hi
theorem KpsAt.tch {g : Nat} {w w' : World} {v : Value} {l : List Kp} (h : KpsAt w v l) (hb : Tch g w w') (ho : Off g v) : KpsAt w' v l := by
  obtain ⟨ao, cap, k, o, rfl, h2, h3, h4⟩ := h
  refine ⟨ao, cap, k, o, rfl, h2, h3, fun i t hi => ?_⟩
  have hl : 0 < l.length := Nat.lt_of_le_of_lt (Nat.zero_le _) (List.getElem?_eq_some_iff.1 hi).1
  have hk : k ≠ g := ho ⟨k, o, none⟩ l.length cap (by rw [h3 hl]) hl
  obtain ⟨a, b, c⟩ := h4 i t hi
  exact ⟨by rw [hb.cell (World.block_lt_of_cell? w _ a) hk]; exact a, by rw [hb.cell (World.block_lt_of_cell? w _ b) hk]; exact b, by rw [hb.cell (World.block_lt_of_cell? w _ c) hk]; exact c⟩
theorem StrsAt.fresh {w : World} {v : Value} {l : List ByteArray} (h : StrsAt w v l) {g : Nat} (hg : w.heap.size ≤ g) : Off g v := by
  obtain ⟨ao, cap, k, o, rfl, h2, h3, h4⟩ := h
  intro a m c e hm
  have hl : 0 < l.length := by simp only [Value.slice.injEq] at e; omega
  rw [h3 hl] at e
  cases e
  have := World.block_lt_of_cell? w _ (h4 0 l[0] (List.getElem?_eq_getElem hl))
  show k ≠ g
  have h5 : k < w.heap.size := this
  omega
theorem KpsAt.fresh {w : World} {v : Value} {l : List Kp} (h : KpsAt w v l) {g : Nat} (hg : w.heap.size ≤ g) : Off g v := by
  obtain ⟨ao, cap, k, o, rfl, h2, h3, h4⟩ := h
  intro a m c e hm
  have hl : 0 < l.length := by simp only [Value.slice.injEq] at e; omega
  rw [h3 hl] at e
  cases e
  have := World.block_lt_of_cell? w _ (h4 0 l[0] (List.getElem?_eq_getElem hl)).1
  show k ≠ g
  have h5 : k < w.heap.size := this
  omega
theorem StrsAt.slice {w : World} {v : Value} {l : List ByteArray} (h : StrsAt w v l) : ∃ a m c, v = .slice a m c := by obtain ⟨a, c, _, _, h, _⟩ := h; exact ⟨a, _, c, h⟩
theorem KpsAt.slice {w : World} {v : Value} {l : List Kp} (h : KpsAt w v l) : ∃ a m c, v = .slice a m c := by obtain ⟨a, c, _, _, h, _⟩ := h; exact ⟨a, _, c, h⟩
theorem Tbl.tch {g : Nat} {w w' : World} (h : Tbl w) (t : Tch g w w') (hg : 2 ≤ g) : Tbl w' := by
  have := h.lt
  exact ⟨fun i hi => by rw [t.cell (by show 0 < _; omega) (by show 0 ≠ g; omega)]; exact h.sq i hi, fun i hi => by rw [t.cell (by show 1 < _; omega) (by show 1 ≠ g; omega)]; exact h.cu i hi⟩
structure Offs (g : Nat) (vK vP vD : Value) : Prop where
  k : Off g vK
  p : Off g vP
  d : Off g vD
theorem SesAt.tch {g k : Nat} {w w' : World} {x : Sd} {vK vP vD : Value} (h : SesAt w k x vK vP vD) (hb : Tch g w w') (hk : k ≠ g) (ho : Offs g vK vP vD) : SesAt w' k x vK vP vD :=
  ⟨by rw [hb.row (by rw [h.row, sesC_size]; omega) hk]; exact h.row, h.vk.tch hb ho.k, h.vp.tch hb ho.p, h.vd.tch hb ho.d⟩
theorem SesAt.lt {w : World} {g : Nat} {x : Sd} {vK vP vD : Value} (h : SesAt w g x vK vP vD) : g < w.heap.size := rowOf_lt (by rw [h.row, sesC_size]; omega)
set_option maxHeartbeats 2000000 in
theorem joined_g (v : Value) (l : List ByteArray) (t : ByteArray) (hl : l.length ≤ 1000) (w : World) (hv : StrsAt w v l) :
    Calls Tryz.prog 118 #[v, .string t] w fun e w' => ∃ v', e = .returned v' ∧ StrsAt w' v' (l ++ [t]) ∧ (∀ g, g < w.heap.size → Off g v') ∧ Below w.heap.size w w' := by
  obtain ⟨ao, cap, ad, rfl, ha2, ha3⟩ := hv.src
  obtain ⟨n, hn⟩ : ∃ n, n = l.length := ⟨_, rfl⟩
  have HN := Hid.mk hn
  rw [← hn] at hl ha2 ⊢
  have HA := Hid.mk ha3
  clear ha3 hv hn
  go_enter Tryz.func118, Tryz.ntmps118
  go_wp2_with (first
    | (at_builtin; refine wpl_appendL Tryz.underlying32 iStr (by omega) (by omega) rfl _ _ rfl w.heap.size _ 0 [] rfl ?_ ao ad n cap (strCells l) rfl ha2 ?_ HA.out (strCells_one l) (by omega) (by omega) (Nat.le_refl _) ?_; (focus (exact World.ownsRow_nil _ _ _ _)); (focus (rw [strCells_length, HN.out])); intro v1 w1 hown1 hbel1 hsz1; have B1 := hbel1 w (Below.refl _ _))
    | (at_builtin; refine wpl_appendL Tryz.underlying32 iStr (by omega) (by omega) rfl _ _ rfl w.heap.size _ (0 + n) ([] ++ strCells l) rfl ?_ _ ⟨w1.heap.size, 0, none⟩ 1 1 [.string t] rfl (fun _ => rfl) rfl ?_ ?_ (by omega) (by omega) ?_ ?_; (focus (exact hown1.alloc _)); (focus (intro q u hq; rw [Addr.add_mid, Nat.zero_add]; exact rowcell (by simp [go_sem]; exact rfl) q u (by simpa using hq))); (focus (intro u hu; simp at hu; subst hu; rfl)); (focus (simp; omega)); intro v2 w2 hown2 hbel2 hsz2; have B2 := hbel2 w (B1.alloc hsz1 _))
    | fail)
  go_ret
  have HO : w2.ownsRow w.heap.size 9 1 v2 (l ++ [t]).length (strCells (l ++ [t])) := by
    rw [strCells_append, List.length_append, ← HN.out]; rw [Nat.zero_add, List.nil_append] at hown2; exact hown2
  exact ⟨_, rfl, StrsAt.of_owns HO, fun g hg => off_of_owns HO hg, B2⟩
theorem lay_nil (t : ByteArray) (w : World) : Calls Tryz.prog 78 #[.pointer none, .string t] w fun e w' => e = .returned (.int .i64 1) ∧ Below w.heap.size w w' := by
  go_enter Tryz.func78, Tryz.ntmps78
  go_wp2
  go_ret
  exact ⟨rfl, Below.refl _ _⟩
def laidS (x : Sd) (t : ByteArray) : Sd := { x with draws := x.draws ++ [t] }
theorem laidS_wf {x : Sd} (h : x.Wf) (t : ByteArray) (ht : t.size = 32) (hn : x.draws.length < 8) : (laidS x t).Wf :=
  ⟨h.root, h.self, h.theirs, h.send, h.read, h.ns, h.nr, h.pn, h.saved, h.savedW, h.past, h.pastW, (by show (x.draws ++ [t]).length ≤ 8; simp; omega), (fun u hu => by
    have hu' : u ∈ x.draws ++ [t] := hu
    rcases List.mem_append.1 hu' with h1 | h1
    · exact h.drawsW u h1
    · simp at h1; subst h1; exact ht), h.both⟩
set_option maxHeartbeats 2000000 in
theorem lay_f (x : Sd) (hx : x.Wf) (g : Nat) (vK vP vD : Value) (t : ByteArray) (w : World) (hs : SesAt w g x vK vP vD) (ho : Offs g vK vP vD) :
    Calls Tryz.prog 78 #[.pointer (some ⟨g, 0, none⟩), .string t] w fun e w' =>
      (t.size ≠ 32 ∧ e = .returned (.int .i64 1) ∧ Below w.heap.size w w') ∨ (t.size = 32 ∧ x.draws.length = 8 ∧ e = .returned (.int .i64 4) ∧ Below w.heap.size w w') ∨
      (t.size = 32 ∧ x.draws.length < 8 ∧ e = .returned (.int .i64 0) ∧ ∃ v, SesAt w' g (laidS x t) vK vP v ∧ (∀ k, k < w.heap.size → Off k v) ∧ Tch g w w') := by
  have hd := hx.draws
  have hg := hs.lt
  have f10 := rowcell hs.row 10 vD rfl
  have z10 := rowfz2 hs.row 10 (by rw [sesC_size]; omega)
  obtain ⟨aoD, capD, gD, oD, hvD, hcD, haD, hxD⟩ := hs.vd
  have HS := Hid.mk hs
  have HO := Hid.mk ho
  have HV := Hid.mk hvD
  obtain ⟨n, hn⟩ : ∃ n, n = x.draws.length := ⟨_, rfl⟩
  have HN := Hid.mk hn
  rw [← hn] at hd hcD haD
  rw [hvD, ← hn] at f10
  have HM : Hid _ := Hid.mk (joined_g vD x.draws t (by omega) w hs.vd)
  rw [hvD] at HM
  rw [← hn] at HM
  clear hs ho hx hxD haD
  by_cases h1 : t.size = 32
  · have c1 : (t.size : Int) = 32 := by omega
    by_cases h2 : n < 8
    · have c2 : ¬ (n : Int) ≥ 8 := by omega
      have HH := Hid.mk (And.intro h1 h2)
      clear h1 h2 hn
      go_enter Tryz.func78, Tryz.ntmps78
      go_wp2_with (first | (go_at_call 118; have M := HM.out; with_reducible refine M.mono ?_; clear M; rintro e w1 ⟨v1, rfl, hv1, hoff, B1⟩; obtain ⟨aV, mV, cV, rfl⟩ : ∃ a m c, v1 = .slice a m c := hv1.slice; have HV1 := Hid.mk hv1; have HOF := Hid.mk hoff; clear hv1 hoff; have S1 := HS.out.below B1; have f11 := rowcell S1.row 10 vD rfl; have z11 := rowfz2 S1.row 10 (by rw [sesC_size]; omega); have HS1 := Hid.mk S1; clear S1) | fail)
      go_ret
      have S1 := HS1.out
      have T1 : Tch g w w1 := tch_of B1 g
      have T2 := T1.setCell 10 (.slice aV mV cV)
      exact Or.inr (Or.inr ⟨HH.out.1, by rw [← HN.out]; exact HH.out.2, rfl, .slice aV mV cV, ⟨rowOf_setCell S1.row (by rw [sesC_size]; omega) 10 _, HS.out.vk.tch T2 HO.out.k, HS.out.vp.tch T2 HO.out.p, HV1.out.tch ((tch_of (Below.refl w1.heap.size w1) g).setCell 10 _) (HOF.out g hg)⟩, HOF.out, T2⟩)
    · have c2 : (n : Int) ≥ 8 := by omega
      have HH := Hid.mk (And.intro h1 (show x.draws.length = 8 by omega))
      clear h1 h2 hn
      go_enter Tryz.func78, Tryz.ntmps78
      go_wp2
      go_ret
      exact Or.inr (Or.inl ⟨HH.out.1, HH.out.2, rfl, Below.refl _ _⟩)
  · have c3 : ((t.size : Int) != 32) = true := by simp; omega
    have c4 : ¬ (t.size : Int) = 32 := by omega
    have HH := Hid.mk h1
    clear h1 hn
    go_enter Tryz.func78, Tryz.ntmps78
    go_wp2
    go_ret
    exact Or.inl ⟨HH.out, rfl, Below.refl _ _⟩
end Go.Proofs.YteghoooelgcpkaaGreatDoor
