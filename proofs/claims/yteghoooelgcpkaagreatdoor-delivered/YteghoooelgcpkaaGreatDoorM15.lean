import Derived.Test.YteghoooelgcpkaaGreatDoorM08
import Derived.Test.YteghoooelgcpkaaGreatDoorM14
namespace Go.Msg
open Go.RowKit Go.Proofs.YteghoooelgcpkaaGreatDoor
theorem xor8 {x y : Int} (hx : 0 ≤ x ∧ x ≤ 255) (hy : 0 ≤ y ∧ y ≤ 255) : bits .xor .u8 (bits .xor .u8 x y) y = x ∧ 0 ≤ bits .xor .u8 x y ∧ bits .xor .u8 x y ≤ 255 := by
  obtain ⟨a, rfl⟩ : ∃ a : Nat, x = a := ⟨x.toNat, by omega⟩
  obtain ⟨b, rfl⟩ : ∃ b : Nat, y = b := ⟨y.toNat, by omega⟩
  have e := bits_xor_nat .u8 8 (by decide) wraps_u8 a b (by omega) (by omega)
  have hlt : a ^^^ b < 256 := Nat.xor_lt_two_pow (n := 8) (by omega) (by omega)
  rw [e]
  have e2 := bits_xor_nat .u8 8 (by decide) wraps_u8 (a ^^^ b) b (by omega) (by omega)
  rw [e2]
  refine ⟨?_, by omega, by omega⟩
  rw [Nat.xor_assoc, Nat.xor_self, Nat.xor_zero]
theorem streamF_inv (k n t : ByteArray) : streamF k n (streamF k n t) = t := by
  have hs := streamF_size k n t
  refine ba_ext (by rw [streamF_size, hs]) (fun i hi => ?_)
  rw [streamF_size, hs] at hi
  have h1 := sb_bd t i
  have h2 := sb_bd (sblk k n (i / 64)) (i % 64)
  have q := xor8 (x := sb t i) (y := sb (sblk k n (i / 64)) (i % 64)) (by omega) (by omega)
  have e1 : sb (streamF k n t) i = bits .xor .u8 (sb t i) (sb (sblk k n (i / 64)) (i % 64)) := by
    show sb (bstr t.size _) i = _
    exact sb_bstr _ _ _ hi q.2
  have h3 := sb_bd (streamF k n t) i
  have q2 := xor8 (x := sb (streamF k n t) i) (y := sb (sblk k n (i / 64)) (i % 64)) (by omega) (by omega)
  have e2 : sb (streamF k n (streamF k n t)) i = bits .xor .u8 (sb (streamF k n t) i) (sb (sblk k n (i / 64)) (i % 64)) := by
    show sb (bstr (streamF k n t).size _) i = _
    exact sb_bstr _ _ _ (by rw [hs]; exact hi) q2.2
  rw [e2, e1]; exact q.1
theorem turnF_inv (k t : ByteArray) : turnF k (turnF k t) = t := streamF_inv _ _ _
theorem msgF_read {x : Sd} (hx : x.Wf) (hn : x.ns < 300) (text data : ByteArray) (ht : text.size ≤ 200) : IsMsg (msgF x text data) ∧ ptF (msgF x text data) = ⟨pubF x.self, headF x, turnF (keyF x.send) text, tagF (keyF x.send) (data ++ headF x) (turnF (keyF x.send) text), x.pn, x.ns⟩ := by
  have hpn := hx.pn
  have zs := headF_size x
  obtain ⟨T, hT⟩ : ∃ T, T = turnF (keyF x.send) text := ⟨_, rfl⟩
  obtain ⟨G, hG⟩ : ∃ G, G = tagF (keyF x.send) (data ++ headF x) (turnF (keyF x.send) text) := ⟨_, rfl⟩
  have zT : T.size = text.size := by rw [hT]; exact turnF_size _ _
  have zG : G.size = 32 := by rw [hG]; exact tagF_size _ _ _
  have zp := pubF_size x.self
  obtain ⟨m, hm⟩ : ∃ m, m = msgF x text data := ⟨_, rfl⟩
  have c0 : m = sRM ++ (pubF x.self ++ (be 2 (x.pn : Int) ++ (be 2 (x.ns : Int) ++ (be 2 (text.size : Int) ++ (T ++ G))))) := by
    rw [hm]; unfold msgF headF; rw [← hT]
    show _ ++ tagF (keyF x.send) (data ++ headF x) T = _
    rw [show tagF (keyF x.send) (data ++ headF x) T = G by rw [hG, hT]]
    simp only [ByteArray.append_assoc]
  rw [← hm, ← hT]
  rw [show tagF (keyF x.send) (data ++ headF x) T = G by rw [hG, hT]]
  have hsz : m.size = 72 + text.size := by
    rw [c0]; simp only [ByteArray.size_append, be_size, sRM_size, zp, zT, zG]; omega
  have x0 : m.extract 0 2 = sRM := by rw [c0]; exact app_take sRM _
  have x2 : m.extract 2 34 = pubF x.self := by
    have e := ext_mid sRM (pubF x.self) (be 2 (x.pn : Int) ++ (be 2 (x.ns : Int) ++ (be 2 (text.size : Int) ++ (T ++ G))))
    rw [← c0, sRM_size, zp] at e
    exact e
  have x34 : m.extract 34 36 = be 2 (x.pn : Int) := by
    have e := ext_mid (sRM ++ pubF x.self) (be 2 (x.pn : Int)) (be 2 (x.ns : Int) ++ (be 2 (text.size : Int) ++ (T ++ G)))
    rw [ByteArray.append_assoc, ← c0, ByteArray.size_append, be_size, sRM_size, zp] at e
    exact e
  have x36 : m.extract 36 38 = be 2 (x.ns : Int) := by
    have e := ext_mid (sRM ++ (pubF x.self ++ be 2 (x.pn : Int))) (be 2 (x.ns : Int)) (be 2 (text.size : Int) ++ (T ++ G))
    rw [ByteArray.append_assoc, ByteArray.append_assoc, ← c0, ByteArray.size_append, ByteArray.size_append, be_size, be_size, sRM_size, zp] at e
    exact e
  have x38 : m.extract 38 40 = be 2 (text.size : Int) := by
    have e := ext_mid (sRM ++ (pubF x.self ++ (be 2 (x.pn : Int) ++ be 2 (x.ns : Int)))) (be 2 (text.size : Int)) (T ++ G)
    rw [ByteArray.append_assoc, ByteArray.append_assoc, ByteArray.append_assoc, ← c0, ByteArray.size_append, ByteArray.size_append, ByteArray.size_append, be_size, be_size, be_size, sRM_size, zp] at e
    exact e
  have xh : m.extract 0 38 = headF x := by
    have e : m = headF x ++ (be 2 (text.size : Int) ++ (T ++ G)) := by rw [c0]; unfold headF; simp only [ByteArray.append_assoc]
    have q := app_take (headF x) (be 2 (text.size : Int) ++ (T ++ G))
    rw [← e, zs] at q
    exact q
  have y34 : u16F m 34 = x.pn := by rw [u16F_val m 34 (by omega)]; show valF (m.extract 34 36) = _; rw [x34]; exact val_be2 _ (by omega)
  have y36 : u16F m 36 = x.ns := by rw [u16F_val m 36 (by omega)]; show valF (m.extract 36 38) = _; rw [x36]; exact val_be2 _ (by omega)
  have y38 : u16F m 38 = text.size := by rw [u16F_val m 38 (by omega)]; show valF (m.extract 38 40) = _; rw [x38]; exact val_be2 _ (by omega)
  have e40 : m = (headF x ++ be 2 (text.size : Int)) ++ (T ++ G) := by rw [c0]; unfold headF; simp only [ByteArray.append_assoc]
  have z40 : (headF x ++ be 2 (text.size : Int)).size = 40 := by rw [ByteArray.size_append, zs, be_size]
  have xT : m.extract 40 (40 + text.size) = T := by
    have q := ext_mid (headF x ++ be 2 (text.size : Int)) T G
    rw [← e40, z40, zT] at q
    exact q
  have xG : m.extract (40 + text.size) m.size = G := by
    have e : m = (headF x ++ be 2 (text.size : Int) ++ T) ++ G := by rw [e40]; simp only [ByteArray.append_assoc]
    have q := app_drop (headF x ++ be 2 (text.size : Int) ++ T) G
    rw [← e, ByteArray.size_append, z40, zT] at q
    exact q
  refine ⟨?_, ?_⟩
  · unfold IsMsg
    rw [y34, y36, y38]
    exact ⟨by omega, x0, ht, hsz, hpn, hn⟩
  · unfold ptF
    rw [y34, y36, y38, x2, xh, xT, xG]
theorem bent_read {m b : ByteArray} (h : IsMsg m) (hs : b.size = m.size) (he : b.extract 0 40 = m.extract 0 40) : IsMsg b ∧ (ptF b).point = (ptF m).point ∧ (ptF b).head = (ptF m).head ∧ (ptF b).ahead = (ptF m).ahead ∧ (ptF b).n = (ptF m).n ∧ (ptF b).turned = b.extract 40 (40 + (ptF m).turned.size) ∧ (ptF b).tag = b.extract (40 + (ptF m).turned.size) b.size := by
  have h0 := h
  obtain ⟨h1, h2, h3, h4, h5, h6⟩ := h
  have sub : ∀ i j, i ≤ j → j ≤ 40 → b.extract i j = m.extract i j := fun i j hij hj => by
    refine ba_ext (by rw [ext_size (by omega), ext_size (by omega)]) (fun p hp => ?_)
    rw [ext_size (by omega)] at hp
    rw [sb_extract _ _ _ _ (by omega) (by omega), sb_extract _ _ _ _ (by omega) (by omega)]
    have e1 := sb_extract b 0 40 (i + p) (by omega) (by omega)
    have e2 := sb_extract m 0 40 (i + p) (by omega) (by omega)
    rw [he, e2] at e1
    simp only [Nat.zero_add] at e1
    exact e1.symm
  have u : ∀ i, i + 2 ≤ 40 → u16F b i = u16F m i := fun i hi => by unfold u16F; rw [sub i (i + 2) (by omega) hi]
  have hts : (ptF m).turned.size = u16F m 38 := by rw [ptF_turned, ext_size (by omega)]; omega
  refine ⟨?_, ?_, ?_, ?_, ?_, ?_, ?_⟩
  · unfold IsMsg
    rw [u 34 (by omega), u 36 (by omega), u 38 (by omega), sub 0 2 (by omega) (by omega), hs]
    exact h0
  · rw [ptF_point, ptF_point, sub 2 34 (by omega) (by omega)]
  · rw [ptF_head, ptF_head, sub 0 38 (by omega) (by omega)]
  · rw [ptF_ahead, ptF_ahead, u 34 (by omega)]
  · rw [ptF_n, ptF_n, u 36 (by omega)]
  · rw [ptF_turned, hts, u 38 (by omega)]
  · rw [ptF_tag, hts, u 38 (by omega)]
theorem chn_add (c : ByteArray) (a b : Nat) : chn (chn c a) b = chn c (a + b) := by
  induction b with
  | zero => rfl
  | succ b ih => show behF (chn (chn c a) b) = behF (chn c (a + b)); rw [ih]
theorem mem_leftL (c pt : ByteArray) (n j : Nat) (k : Kp) : k ∈ leftL c pt n j ↔ ∃ q, q < j ∧ k = ⟨pt, n + q, keyF (chn c q)⟩ := by
  induction j with
  | zero => simp [leftL]
  | succ j ih =>
    rw [leftL, List.mem_append, ih, List.mem_singleton]
    constructor
    · rintro (⟨q, hq, e⟩ | e)
      · exact ⟨q, by omega, e⟩
      · exact ⟨j, by omega, e⟩
    · rintro ⟨q, hq, e⟩
      by_cases hj : q = j
      · subst hj; exact Or.inr e
      · exact Or.inl ⟨q, by omega, e⟩
def KDist (l : List Kp) : Prop := l.Pairwise (fun a b => ¬ (a.pt = b.pt ∧ a.n = b.n))
theorem leftL_dist (c pt : ByteArray) (n j : Nat) : KDist (leftL c pt n j) := by
  induction j with
  | zero => exact List.Pairwise.nil
  | succ j ih =>
    refine List.pairwise_append.2 ⟨ih, List.pairwise_singleton _ _, fun a ha b hb h => ?_⟩
    obtain ⟨q, hq, e⟩ := (mem_leftL c pt n j a).1 ha
    rw [List.mem_singleton] at hb
    subst e hb
    have h2 := h.2
    simp only at h2
    omega
theorem lastL_sub (a b : List Kp) : (lastL a b).Sublist (a ++ b) := List.drop_sublist _ _
theorem lastL_mem {a b : List Kp} {k : Kp} (h : k ∈ lastL a b) : k ∈ a ∨ k ∈ b := List.mem_append.1 ((lastL_sub a b).subset h)
theorem lastL_short {a b : List Kp} (h : a.length + b.length ≤ 32) : lastL a b = a ++ b := by
  unfold lastL
  rw [show (a ++ b).length - 32 = 0 by rw [List.length_append]; omega, List.drop_zero]
theorem lastL_len (a b : List Kp) : (lastL a b).length ≤ a.length + b.length := by
  have := (lastL_sub a b).length_le
  rwa [List.length_append] at this
theorem lastL_dist {a b : List Kp} (ha : KDist a) (hb : KDist b) (h : ∀ x ∈ a, ∀ y ∈ b, ¬ (x.pt = y.pt ∧ x.n = y.n)) : KDist (lastL a b) :=
  (List.pairwise_append.2 ⟨ha, hb, h⟩).sublist (lastL_sub a b)
def sumN (N : Nat → Nat) : Nat → Nat
  | 0 => 0
  | k + 1 => sumN N k + N k
theorem sumN_mono (N : Nat → Nat) {a b : Nat} (h : a ≤ b) : sumN N a ≤ sumN N b := by
  induction b with
  | zero => have : a = 0 := by omega
            subst this; exact Nat.le_refl _
  | succ b ih =>
    by_cases e : a = b + 1
    · subst e; exact Nat.le_refl _
    · exact Nat.le_trans (ih (by omega)) (Nat.le_add_right _ _)
theorem sumN_ge (N : Nat → Nat) {i b : Nat} (h : i < b) : sumN N i + N i ≤ sumN N b := sumN_mono N (show i + 1 ≤ b by omega)
theorem sumN_congr {N N' : Nat → Nat} (k : Nat) (h : ∀ i, i < k → N i = N' i) : sumN N k = sumN N' k := by
  induction k with
  | zero => rfl
  | succ k ih => rw [sumN, sumN, ih (fun i hi => h i (by omega)), h k (by omega)]
theorem sumN_pos (N : Nat → Nat) (k : Nat) (h : ∀ i, i < k → 1 ≤ N i) : k ≤ sumN N k := by
  induction k with
  | zero => exact Nat.le_refl _
  | succ k ih => have h1 := ih (fun i hi => h i (by omega)); have h2 := h k (by omega); rw [sumN]; omega
end Go.Msg
namespace Go.Msg
open Go.RowKit Go.Proofs.YteghoooelgcpkaaGreatDoor
structure Tk where
  e : Nat
  K : Nat → ByteArray
  C : Nat → ByteArray
  N : Nat → Nat
  R : ByteArray
def ptK (K : Nat → ByteArray) (t : Nat) : ByteArray := if t = 0 then ⟨#[]⟩ else pubF (K t)
def pastK (K : Nat → ByteArray) : Nat → List ByteArray
  | 0 => []
  | 1 => []
  | t + 2 => pastK K t ++ (if t = 0 then [] else [pubF (K t)])
def pnN (N : Nat → Nat) (i : Nat) : Nat := if i < 2 then 0 else N (i - 2)
def kpK (T : Tk) (i n : Nat) : Kp := ⟨pubF (T.K (i + 2)), n, keyF (chn (T.C i) n)⟩
def limK (T : Tk) (t nr i : Nat) : Nat := if i + 2 = t then nr else T.N i
structure RI (T : Tk) (t : Nat) (x : Sd) : Prop where
  th : x.theirs = ptK T.K t
  pa : x.past = pastK T.K t
  rd0 : t < 2 → x.read = ⟨#[]⟩ ∧ x.nr = 0
  rd : 2 ≤ t → x.read = chn (T.C (t - 2)) x.nr ∧ x.nr ≤ T.N (t - 2) ∧ x.read.size = 32
  sv : ∀ k ∈ x.saved, ∃ i n, i + 2 ≤ t ∧ i % 2 = t % 2 ∧ n < limK T t x.nr i ∧ k = kpK T i n
  nd : KDist x.saved
  ln : x.saved.length ≤ sumN T.N (t - 2) + x.nr
structure SI (T : Tk) (s : Nat) (x : Sd) : Prop where
  self : x.self = T.K s
  sd0 : s < 2 → x.send = ⟨#[]⟩ ∧ x.ns = 0 ∧ x.pn = 0
  sd : 2 ≤ s → x.send = chn (T.C (s - 2)) (T.N (s - 2)) ∧ x.ns = T.N (s - 2) ∧ x.pn = pnN T.N (s - 2)
structure Mg where
  i : Nat
  n : Nat
  x0 : Sd
  text : ByteArray
  data : ByteArray
  read : Bool
structure MI (T : Tk) (m : Mg) : Prop where
  ie : m.i ≤ T.e
  nn : m.n < T.N m.i
  wf : m.x0.Wf
  self : m.x0.self = T.K (m.i + 2)
  send : m.x0.send = chn (T.C m.i) m.n
  ns : m.x0.ns = m.n
  pn : m.x0.pn = pnN T.N m.i
  tx : m.text.size ≤ 200
  dt : m.data.size ≤ 100
def Past (t nr i n : Nat) : Prop := i + 2 < t ∨ (i + 2 = t ∧ n < nr)
def Got (T : Tk) (t : Nat) (x : Sd) (m : Mg) : Prop := Past t x.nr m.i m.n ∧ ∀ k ∈ x.saved, ¬ (k.pt = pubF (T.K (m.i + 2)) ∧ k.n = m.n)
def Kpt (T : Tk) (t : Nat) (x : Sd) (m : Mg) : Prop := Past t x.nr m.i m.n → kpK T m.i m.n ∈ x.saved
structure Dst (T : Tk) (A B : List ByteArray) : Prop where
  inj : ∀ i j, 1 ≤ i → i ≤ T.e + 2 → 1 ≤ j → j ≤ T.e + 2 → pubF (T.K i) = pubF (T.K j) → i = j
  dA : ∀ d ∈ A, ∀ i, 1 ≤ i → i ≤ T.e + 2 → pubF d ≠ pubF (T.K i)
  dB : ∀ d ∈ B, ∀ i, 1 ≤ i → i ≤ T.e + 2 → pubF d ≠ pubF (T.K i)
  pA : A.Pairwise (fun a b => pubF a ≠ pubF b)
  pB : B.Pairwise (fun a b => pubF a ≠ pubF b)
  ab : ∀ a ∈ A, ∀ b ∈ B, pubF a ≠ pubF b
structure Snc (T : Tk) (A B : Sd) (l : List Mg) : Prop where
  wa : A.Wf
  wb : B.Wf
  sa : SI T (T.e + 2) A
  ra : RI T (T.e + 1) A
  sb : SI T (T.e + 1) B
  rb : RI T T.e B
  roA : A.root = rootA T.R (dhF (T.K (T.e + 2)) (pubF (T.K (T.e + 1))))
  roB : B.root = T.R
  ch : T.C T.e = rootC T.R (dhF (T.K (T.e + 2)) (pubF (T.K (T.e + 1))))
  ms : ∀ m ∈ l, MI T m
  uq : l.Pairwise (fun a b => ¬ (a.i = b.i ∧ a.n = b.n))
  len : l.length = sumN T.N (T.e + 1)
  pos : ∀ i, i < T.e → 1 ≤ T.N i
  top : ∀ i, T.N i ≤ 300
  dst : Dst T A.draws B.draws
  oldA : ∀ m ∈ l, m.read = true → m.i % 2 = (T.e + 1) % 2 → Got T (T.e + 1) A m
  oldB : ∀ m ∈ l, m.read = true → m.i % 2 = T.e % 2 → Got T T.e B m
  newA : l.length ≤ 20 → ∀ m ∈ l, m.read = false → m.i % 2 = (T.e + 1) % 2 → Kpt T (T.e + 1) A m
  newB : l.length ≤ 20 → ∀ m ∈ l, m.read = false → m.i % 2 = T.e % 2 → Kpt T T.e B m
theorem pastK_mem (K : Nat → ByteArray) : ∀ t p, p ∈ pastK K t ↔ ∃ j, 1 ≤ j ∧ j < t ∧ j % 2 = t % 2 ∧ p = pubF (K j) := by
  intro t
  induction t using Nat.strongRecOn with
  | ind t ih =>
    intro p
    match t, ih with
    | 0, _ =>
      constructor
      · intro h; cases h
      · rintro ⟨j, h1, h2, _⟩; omega
    | 1, _ =>
      constructor
      · intro h; cases h
      · rintro ⟨j, h1, h2, _⟩; omega
    | t + 2, ih =>
      rw [pastK, List.mem_append, ih t (by omega)]
      constructor
      · rintro (⟨j, h1, h2, h3, h4⟩ | h)
        · exact ⟨j, h1, by omega, by omega, h4⟩
        · split at h
          · cases h
          · rw [List.mem_singleton] at h
            exact ⟨t, by omega, by omega, by omega, h⟩
      · rintro ⟨j, h1, h2, h3, h4⟩
        by_cases e : j = t
        · subst e
          right; rw [if_neg (by omega), List.mem_singleton]; exact h4
        · left; exact ⟨j, h1, by omega, by omega, h4⟩
theorem pastK_len (K : Nat → ByteArray) : ∀ t, (pastK K t).length ≤ t / 2 := by
  intro t
  induction t using Nat.strongRecOn with
  | ind t ih =>
    match t, ih with
    | 0, _ => exact Nat.zero_le _
    | 1, _ => exact Nat.zero_le _
    | t + 2, ih =>
      have := ih t (by omega)
      rw [pastK, List.length_append]
      split <;> simp <;> omega
theorem ptK_pos (K : Nat → ByteArray) {t : Nat} (h : 0 < t) : ptK K t = pubF (K t) := by unfold ptK; rw [if_neg (by omega)]
theorem ptK_size (K : Nat → ByteArray) {t : Nat} (h : 0 < t) : (ptK K t).size = 32 := by rw [ptK_pos K h]; exact pubF_size _
theorem ptK_zero (K : Nat → ByteArray) : ptK K 0 = ⟨#[]⟩ := rfl
def keyM (T : Tk) (i n : Nat) : ByteArray := keyF (chn (T.C i) n)
structure Still (x y : Sd) : Prop where
  root : y.root = x.root
  self : y.self = x.self
  theirs : y.theirs = x.theirs
  send : y.send = x.send
  ns : y.ns = x.ns
  pn : y.pn = x.pn
  past : y.past = x.past
  draws : y.draws = x.draws
theorem Still.si {T : Tk} {s : Nat} {x y : Sd} (h : Still x y) (k : SI T s x) : SI T s y :=
  ⟨by rw [h.self]; exact k.self, fun q => by rw [h.send, h.ns, h.pn]; exact k.sd0 q, fun q => by rw [h.send, h.ns, h.pn]; exact k.sd q⟩
section
variable {T : Tk} {t : Nat} {x : Sd} {i n : Nat}
def Inj (T : Tk) (b : Nat) : Prop := ∀ i j, 1 ≤ i → i ≤ b → 1 ≤ j → j ≤ b → pubF (T.K i) = pubF (T.K j) → i = j
theorem RI.key (h : RI T t x) {b : Nat} (hi : Inj T b) (ht : t ≤ b) (hib : i + 2 ≤ b) {k : Kp} (hk : k ∈ x.saved) (e : isK (pubF (T.K (i + 2))) n k = true) : k = kpK T i n ∧ i + 2 ≤ t ∧ i % 2 = t % 2 ∧ n < limK T t x.nr i := by
  obtain ⟨i', n', h1, h2, h3, rfl⟩ := h.sv k hk
  unfold isK at e
  have e' := of_decide_eq_true e
  have e1 : i' + 2 = i + 2 := hi (i' + 2) (i + 2) (by omega) (by omega) (by omega) hib e'.1
  have e2 : n' = n := e'.2
  have e3 : i' = i := by omega
  subst e2 e3
  exact ⟨rfl, h1, h2, h3⟩
theorem RI.theirs_eq (h : RI T t x) {b : Nat} (hi : Inj T b) (ht : t ≤ b) (hib : i + 2 ≤ b) : x.theirs = pubF (T.K (i + 2)) ↔ i + 2 = t := by
  rw [h.th]
  constructor
  · intro e
    by_cases h0 : t = 0
    · subst h0
      have := congrArg ByteArray.size e
      rw [ptK_zero, pubF_size] at this
      exact absurd this (by decide)
    · rw [ptK_pos _ (by omega)] at e
      exact (hi t (i + 2) (by omega) ht (by omega) hib e).symm
  · intro e
    subst e
    exact ptK_pos _ (by omega)
theorem RI.been_iff (h : RI T t x) {b : Nat} (hi : Inj T b) (ht : t ≤ b) (hib : i + 2 ≤ b) (hp : i % 2 = t % 2) : been x (pubF (T.K (i + 2))) = true ↔ i + 2 < t := by
  unfold been
  rw [h.pa, List.any_eq_true]
  constructor
  · rintro ⟨p, hp, e⟩
    obtain ⟨j, h1, h2, h3, rfl⟩ := (pastK_mem _ _ _).1 hp
    have := hi j (i + 2) (by omega) (by omega) (by omega) hib (of_decide_eq_true e)
    omega
  · intro hlt
    exact ⟨_, (pastK_mem _ _ _).2 ⟨i + 2, by omega, hlt, by omega, rfl⟩, by simp⟩
end
end Go.Msg
namespace Go.Msg
open Go.RowKit Go.Proofs.YteghoooelgcpkaaGreatDoor
def rdC (x : Sd) (n : Nat) (pt : ByteArray) : Sd := { x with saved := lastL x.saved (leftL x.read pt x.nr (n - x.nr)), read := behF (chn x.read (n - x.nr)), nr := n + 1 }
def rdK (x : Sd) (j : Nat) : Sd := { x with saved := x.saved.take j ++ x.saved.drop (j + 1) }
structure Adv (T : Tk) (t : Nat) (x y : Sd) (i n : Nat) : Prop where
  ri : RI T t y
  st : Still x y
  nr : x.nr ≤ y.nr
  past : Past t y.nr i n
  got : ∀ k ∈ y.saved, ¬ (k.pt = pubF (T.K (i + 2)) ∧ k.n = n)
  was : kpK T i n ∈ x.saved ∨ ¬ Past t x.nr i n
  sub : ∀ k ∈ y.saved, k ∈ x.saved ∨ ∃ q, i + 2 = t ∧ x.nr ≤ q ∧ q < n ∧ k = kpK T i q
  kee : sumN T.N (t - 1) ≤ 32 → (∀ k ∈ x.saved, k ≠ kpK T i n → k ∈ y.saved) ∧ ∀ q, x.nr ≤ q → q < y.nr → q ≠ n → kpK T i q ∈ y.saved
  nrc : i + 2 ≠ t → y.nr = x.nr
section
variable {T : Tk} {t : Nat} {x : Sd} {i n b : Nat}
theorem left_kp (h : RI T t x) (hit : i + 2 = t) (j : Nat) (k : Kp) : k ∈ leftL x.read (pubF (T.K (i + 2))) x.nr j ↔ ∃ q, x.nr ≤ q ∧ q < x.nr + j ∧ k = kpK T i q := by
  have hr := (h.rd (by omega)).1
  have ei : t - 2 = i := by omega
  rw [ei] at hr
  rw [mem_leftL]
  constructor
  · rintro ⟨q, hq, rfl⟩
    refine ⟨x.nr + q, by omega, by omega, ?_⟩
    unfold kpK
    rw [hr, chn_add]
  · rintro ⟨q, h1, h2, rfl⟩
    refine ⟨q - x.nr, by omega, ?_⟩
    unfold kpK
    rw [hr, chn_add, show x.nr + (q - x.nr) = q by omega]
theorem RI.chain (h : RI T t x) (hi : Inj T b) (ht : t ≤ b) (hit : i + 2 = t) (hn : x.nr ≤ n) (hN : n < T.N i) (hno : ∀ k ∈ x.saved, ¬ (k.pt = pubF (T.K (i + 2)) ∧ k.n = n)) : Adv T t x (rdC x n (pubF (T.K (i + 2)))) i n := by
  obtain ⟨r1, r2, r3⟩ := h.rd (by omega)
  have ei : t - 2 = i := by omega
  have hL := left_kp h hit (n - x.nr)
  have hLl := leftL_length x.read (pubF (T.K (i + 2))) x.nr (n - x.nr)
  have sub : ∀ k ∈ (rdC x n (pubF (T.K (i + 2)))).saved, k ∈ x.saved ∨ ∃ q, i + 2 = t ∧ x.nr ≤ q ∧ q < n ∧ k = kpK T i q := by
    intro k hk
    rcases lastL_mem hk with q | q
    · exact Or.inl q
    · obtain ⟨q, q1, q2, q3⟩ := (hL k).1 q
      exact Or.inr ⟨q, hit, q1, by omega, q3⟩
  have old : ∀ k ∈ x.saved, ∀ q, x.nr ≤ q → ¬ (k.pt = pubF (T.K (i + 2)) ∧ k.n = q) := by
    intro k hk q hq e
    obtain ⟨i', n', h1, h2, h3, rfl⟩ := h.sv k hk
    have e1 : i' + 2 = i + 2 := hi (i' + 2) (i + 2) (by omega) (by omega) (by omega) (by omega) e.1
    have e2 : n' = q := e.2
    unfold limK at h3
    rw [if_pos (by omega)] at h3
    omega
  refine ⟨⟨h.th, h.pa, fun q => by omega, fun _ => ⟨?_, ?_, behF_size _⟩, ?_, ?_, ?_⟩, ⟨rfl, rfl, rfl, rfl, rfl, rfl, rfl, rfl⟩, ?_, ?_, ?_, ?_, sub, ?_, fun q => absurd hit q⟩
  · show behF (chn x.read (n - x.nr)) = chn (T.C (t - 2)) (n + 1)
    rw [r1, chn_add, show x.nr + (n - x.nr) = n by omega]; rfl
  · show n + 1 ≤ T.N (t - 2)
    rw [ei]; exact hN
  · intro k hk
    rcases sub k hk with q | ⟨q, q1, q2, q3, q4⟩
    · obtain ⟨i', n', h1, h2, h3, h4⟩ := h.sv k q
      refine ⟨i', n', h1, h2, ?_, h4⟩
      unfold limK at h3 ⊢
      split
      · next e => rw [if_pos e] at h3; show n' < n + 1; omega
      · next e => rw [if_neg e] at h3; exact h3
    · refine ⟨i, q, by omega, by omega, ?_, q4⟩
      unfold limK
      rw [if_pos hit]
      show q < n + 1
      omega
  · refine lastL_dist h.nd (leftL_dist _ _ _ _) (fun p hp q hq e => ?_)
    obtain ⟨q', q1, q2, rfl⟩ := (hL q).1 hq
    exact old p hp q' q1 e
  · show (lastL x.saved (leftL x.read (pubF (T.K (i + 2))) x.nr (n - x.nr))).length ≤ sumN T.N (t - 2) + (n + 1)
    have := lastL_len x.saved (leftL x.read (pubF (T.K (i + 2))) x.nr (n - x.nr))
    have := h.ln
    omega
  · show x.nr ≤ n + 1
    omega
  · exact Or.inr ⟨hit, Nat.lt_succ_self n⟩
  · intro k hk e
    rcases sub k hk with q | ⟨q, q1, q2, q3, rfl⟩
    · exact hno k q e
    · have := e.2
      have e2 : q = n := this
      omega
  · right
    rintro (q | ⟨_, q⟩) <;> omega
  · intro hs
    have hsum : sumN T.N (t - 1) = sumN T.N (t - 2) + T.N i := by rw [show t - 1 = (t - 2) + 1 by omega, sumN, ei]
    have hl := h.ln
    have e : (rdC x n (pubF (T.K (i + 2)))).saved = x.saved ++ leftL x.read (pubF (T.K (i + 2))) x.nr (n - x.nr) := lastL_short (by omega)
    rw [e]
    refine ⟨fun k hk _ => List.mem_append.2 (Or.inl hk), fun q q1 q2 q3 => List.mem_append.2 (Or.inr ((hL _).2 ⟨q, q1, ?_, rfl⟩))⟩
    have q2' : q < n + 1 := q2
    omega
theorem mem_rdK {x : Sd} {j : Nat} {k : Kp} (h : k ∈ (rdK x j).saved) : k ∈ x.saved := by
  rcases List.mem_append.1 h with q | q
  · exact List.mem_of_mem_take q
  · exact List.mem_of_mem_drop q
theorem rdK_split {x : Sd} {j : Nat} {k : Kp} (hj : x.saved[j]? = some k) : x.saved = x.saved.take j ++ k :: x.saved.drop (j + 1) := by
  have hlt := (List.getElem?_eq_some_iff.1 hj).1
  have he := (List.getElem?_eq_some_iff.1 hj).2
  rw [← he, ← List.drop_eq_getElem_cons hlt, List.take_append_drop]
theorem RI.kept (h : RI T t x) (hit : i + 2 ≤ t) (hp : i % 2 = t % 2) {j : Nat} (hj : x.saved[j]? = some (kpK T i n)) (hlim : n < limK T t x.nr i) : Adv T t x (rdK x j) i n := by
  have hsp := rdK_split hj
  have hnd := h.nd
  unfold KDist at hnd
  rw [hsp, List.pairwise_append, List.pairwise_cons] at hnd
  obtain ⟨n1, ⟨n2, n3⟩, n4⟩ := hnd
  have past : Past t x.nr i n := by
    unfold limK at hlim
    split at hlim
    · next e => exact Or.inr ⟨e, hlim⟩
    · left; omega
  refine ⟨⟨h.th, h.pa, h.rd0, h.rd, fun k hk => h.sv k (mem_rdK hk), ?_, ?_⟩, ⟨rfl, rfl, rfl, rfl, rfl, rfl, rfl, rfl⟩, Nat.le_refl _, past, ?_, Or.inl (List.mem_of_getElem? hj), fun k hk => Or.inl (mem_rdK hk), ?_, fun _ => rfl⟩
  · exact List.pairwise_append.2 ⟨n1, n3, fun p hp q hq => n4 p hp q (List.mem_cons_of_mem _ hq)⟩
  · have hl := h.ln
    rw [hsp] at hl
    show (x.saved.take j ++ x.saved.drop (j + 1)).length ≤ _
    rw [List.length_append] at hl ⊢
    rw [List.length_cons] at hl
    show _ ≤ sumN T.N (t - 2) + x.nr
    omega
  · intro k hk e
    rcases List.mem_append.1 hk with q | q
    · exact n4 k q (kpK T i n) (List.mem_cons_self ..) ⟨e.1, e.2⟩
    · exact n2 k q ⟨e.1.symm, e.2.symm⟩
  · intro _
    refine ⟨fun k hk hne => ?_, fun q q1 q2 _ => ?_⟩
    · rw [hsp] at hk
      rcases List.mem_append.1 hk with q | q
      · exact List.mem_append.2 (Or.inl q)
      · rcases List.mem_cons.1 q with q | q
        · exact absurd q hne
        · exact List.mem_append.2 (Or.inr q)
    · have q2' : q < x.nr := q2
      omega
theorem hear_pass (h : RI T t x) (hi : Inj T b) (ht : t ≤ b) (hit : i + 2 ≤ t) (hp : i % 2 = t % 2) (hN : n < T.N i) {m : ByteArray} (hm : IsMsg m) (hpt : (ptF m).point = pubF (T.K (i + 2))) (hn : (ptF m).n = n) (data : ByteArray) :
    (hearS x m data = (x, ⟨#[]⟩, 6) ∧ Past t x.nr i n ∧ kpK T i n ∉ x.saved) ∨ (hearS x m data = (x, ⟨#[]⟩, 7) ∧ x.nr + 20 < n ∧ i + 2 = t) ∨
    (hearS x m data = (x, ⟨#[]⟩, 10) ∧ tagF (keyM T i n) (data ++ (ptF m).head) (ptF m).turned ≠ (ptF m).tag) ∨
    ∃ y, hearS x m data = (y, turnF (keyM T i n) (ptF m).turned, 0) ∧ tagF (keyM T i n) (data ++ (ptF m).head) (ptF m).turned = (ptF m).tag ∧ Adv T t x y i n := by
  unfold hearS
  rw [if_neg (by simpa using hm), hpt, hn]
  cases hf : x.saved.findIdx? (isK (pubF (T.K (i + 2))) n) with
  | some j =>
    obtain ⟨hj1, hj2, _⟩ := List.findIdx?_eq_some_iff_getElem.1 hf
    have hg : x.saved[j]? = some x.saved[j] := List.getElem?_eq_getElem hj1
    obtain ⟨k1, _, _, k4⟩ := h.key hi ht (by omega) (List.getElem_mem hj1) hj2
    rw [k1] at hg
    simp only [hg]
    unfold hearK okK
    have ek : (kpK T i n).key = keyM T i n := rfl
    rw [ek]
    by_cases hq : tagF (keyM T i n) (data ++ (ptF m).head) (ptF m).turned = (ptF m).tag
    · rw [if_pos (by simpa using hq)]
      exact Or.inr (Or.inr (Or.inr ⟨_, rfl, hq, h.kept hit hp hg k4⟩))
    · rw [if_neg (by simpa using hq)]
      exact Or.inr (Or.inr (Or.inl ⟨rfl, hq⟩))
  | none =>
    have hno : ∀ k ∈ x.saved, ¬ (k.pt = pubF (T.K (i + 2)) ∧ k.n = n) := fun k hk e => by
      have := List.findIdx?_eq_none_iff.1 hf k hk
      unfold isK at this
      simp only [decide_eq_false_iff_not] at this
      exact this e
    have hnk : kpK T i n ∉ x.saved := fun q => hno _ q ⟨rfl, rfl⟩
    simp only
    by_cases hth : i + 2 = t
    · rw [if_pos ((h.theirs_eq hi ht (by omega)).2 hth)]
      obtain ⟨r1, r2, r3⟩ := h.rd (by omega)
      by_cases hlt : n < x.nr
      · rw [if_pos (Or.inr hlt)]
        exact Or.inl ⟨rfl, Or.inr ⟨hth, hlt⟩, hnk⟩
      · rw [if_neg (by rintro (q | q) <;> omega)]
        by_cases hsk : n > x.nr + 20
        · rw [if_pos hsk]
          exact Or.inr (Or.inl ⟨rfl, hsk, hth⟩)
        · rw [if_neg hsk]
          unfold hearC okK
          rw [hn, hpt]
          have ek : keyF (chn x.read (n - x.nr)) = keyM T i n := by
            unfold keyM
            rw [r1, chn_add, show x.nr + (n - x.nr) = n by omega, show t - 2 = i by omega]
          rw [ek]
          by_cases hq : tagF (keyM T i n) (data ++ (ptF m).head) (ptF m).turned = (ptF m).tag
          · rw [if_pos (by simpa using hq)]
            exact Or.inr (Or.inr (Or.inr ⟨_, rfl, hq, h.chain hi ht hth (by omega) hN hno⟩))
          · rw [if_neg (by simpa using hq)]
            exact Or.inr (Or.inr (Or.inl ⟨rfl, hq⟩))
    · rw [if_neg (fun q => hth ((h.theirs_eq hi ht (by omega)).1 q)), if_pos ((h.been_iff hi ht (by omega) hp).2 (by omega))]
      exact Or.inl ⟨rfl, Or.inl (by omega), hnk⟩
end
end Go.Msg
namespace Go.Msg
open Go.RowKit Go.Proofs.YteghoooelgcpkaaGreatDoor
def updA {α : Type} (f : Nat → α) (i : Nat) (z : α) : Nat → α := fun j => if j = i then z else f j
theorem updA_same {α : Type} (f : Nat → α) (i : Nat) (z : α) : updA f i z i = z := by simp [updA]
theorem updA_ne {α : Type} (f : Nat → α) {i j : Nat} (z : α) (h : j ≠ i) : updA f i z j = f j := by simp [updA, h]
structure Agr (T T' : Tk) (b : Nat) : Prop where
  K : ∀ j, j ≤ b → T'.K j = T.K j
  C : ∀ i, i + 2 ≤ b → T'.C i = T.C i
  N : ∀ i, i + 2 ≤ b → T.N i ≤ T'.N i
theorem kpK_agr {T T' : Tk} {b i : Nat} (h : Agr T T' b) (hi : i + 2 ≤ b) (n : Nat) : kpK T' i n = kpK T i n := by unfold kpK; rw [h.K _ hi, h.C _ hi]
theorem pastK_congr {K K' : Nat → ByteArray} : ∀ t, (∀ j, j < t → K' j = K j) → pastK K' t = pastK K t := by
  intro t
  induction t using Nat.strongRecOn with
  | ind t ih =>
    intro h
    match t, ih, h with
    | 0, _, _ => rfl
    | 1, _, _ => rfl
    | t + 2, ih, h => rw [pastK, pastK, ih t (by omega) (fun j hj => h j (by omega)), h t (by omega)]
theorem sumN_le {N N' : Nat → Nat} (k : Nat) (h : ∀ i, i < k → N i ≤ N' i) : sumN N k ≤ sumN N' k := by
  induction k with
  | zero => exact Nat.le_refl _
  | succ k ih => have h1 := ih (fun i hi => h i (by omega)); have h2 := h k (by omega); rw [sumN, sumN]; omega
theorem RI.le {T T' : Tk} {t : Nat} {x : Sd} (h : RI T t x) (a : Agr T T' t) : RI T' t x := by
  refine ⟨?_, ?_, h.rd0, fun q => ?_, fun k hk => ?_, h.nd, ?_⟩
  · rw [h.th]; unfold ptK; rw [a.K t (Nat.le_refl _)]
  · rw [h.pa, pastK_congr t (fun j hj => a.K j (by omega))]
  · obtain ⟨r1, r2, r3⟩ := h.rd q
    exact ⟨by rw [a.C _ (by omega)]; exact r1, Nat.le_trans r2 (a.N _ (by omega)), r3⟩
  · obtain ⟨i, n, h1, h2, h3, h4⟩ := h.sv k hk
    refine ⟨i, n, h1, h2, ?_, by rw [kpK_agr a h1]; exact h4⟩
    unfold limK at h3 ⊢
    split
    · next e => rw [if_pos e] at h3; exact h3
    · next e => rw [if_neg e] at h3; exact Nat.lt_of_lt_of_le h3 (a.N i h1)
  · have := sumN_le (t - 2) (N := T.N) (N' := T'.N) (fun i hi => a.N i (by omega))
    have := h.ln
    omega
theorem Got.agr {T T' : Tk} {t : Nat} {x : Sd} {m : Mg} (h : Got T t x m) (a : Agr T T' t) : Got T' t x m := by
  refine ⟨h.1, fun k hk e => h.2 k hk ?_⟩
  rw [a.K _ (by rcases h.1 with q | q <;> omega)] at e
  exact e
theorem Kpt.agr {T T' : Tk} {t : Nat} {x : Sd} {m : Mg} (h : Kpt T t x m) (a : Agr T T' t) : Kpt T' t x m := fun q => by
  rw [kpK_agr a (by rcases q with q | q <;> omega)]
  exact h q
def Tk.turn (T : Tk) (d r : ByteArray) : Tk := ⟨T.e + 1, updA T.K (T.e + 3) d, updA T.C (T.e + 1) (rootC r (dhF d (pubF (T.K (T.e + 2))))), updA T.N (T.e + 1) 0, r⟩
section
variable (T : Tk) (d r : ByteArray)
theorem turn_K {j : Nat} (h : j ≤ T.e + 2) : (T.turn d r).K j = T.K j := updA_ne _ _ (by omega)
theorem turn_Kd : (T.turn d r).K (T.e + 3) = d := updA_same _ _ _
theorem turn_C {i : Nat} (h : i ≤ T.e) : (T.turn d r).C i = T.C i := updA_ne _ _ (by omega)
theorem turn_Cd : (T.turn d r).C (T.e + 1) = rootC r (dhF d (pubF (T.K (T.e + 2)))) := updA_same _ _ _
theorem turn_N {i : Nat} (h : i ≤ T.e) : (T.turn d r).N i = T.N i := updA_ne _ _ (by omega)
theorem turn_Nd : (T.turn d r).N (T.e + 1) = 0 := updA_same _ _ _
theorem turn_agr {b : Nat} (hb : b ≤ T.e + 2) : Agr T (T.turn d r) b := ⟨fun j hj => turn_K T d r (by omega), fun i hi => turn_C T d r (by omega), fun i hi => Nat.le_of_eq (turn_N T d r (by omega)).symm⟩
theorem turn_pn {i : Nat} (h : i ≤ T.e + 1) : pnN (T.turn d r).N i = pnN T.N i := by
  unfold pnN
  split
  · rfl
  · exact turn_N T d r (by omega)
end
theorem SI.agr {T T' : Tk} {s : Nat} {x : Sd} (h : SI T s x) (hK : T'.K s = T.K s) (hC : 2 ≤ s → T'.C (s - 2) = T.C (s - 2)) (hN : 2 ≤ s → T'.N (s - 2) = T.N (s - 2)) (hp : 2 ≤ s → pnN T'.N (s - 2) = pnN T.N (s - 2)) : SI T' s x :=
  ⟨by rw [hK]; exact h.self, h.sd0, fun q => by rw [hC q, hN q, hp q]; exact h.sd q⟩
theorem MI.agr {T T' : Tk} {m : Mg} (h : MI T m) (he : T.e ≤ T'.e) (hK : T'.K (m.i + 2) = T.K (m.i + 2)) (hC : T'.C m.i = T.C m.i) (hN : T.N m.i ≤ T'.N m.i) (hp : pnN T'.N m.i = pnN T.N m.i) : MI T' m :=
  ⟨Nat.le_trans h.ie he, Nat.lt_of_lt_of_le h.nn hN, h.wf, by rw [hK]; exact h.self, by rw [hC]; exact h.send, h.ns, by rw [hp]; exact h.pn, h.tx, h.dt⟩
theorem Snc.inj {T : Tk} {A B : Sd} {l : List Mg} (h : Snc T A B l) : Inj T (T.e + 2) := h.dst.inj
theorem mark_mem {l : List Mg} {k : Nat} {m m' : Mg} (hm : m' ∈ l.set k { m with read := true }) (_hk : l[k]? = some m) : (m' = { m with read := true }) ∨ (m' ∈ l ∧ ∃ j, j ≠ k ∧ l[j]? = some m') := by
  obtain ⟨j, hj⟩ := List.getElem?_of_mem hm
  rw [List.getElem?_set] at hj
  by_cases e : k = j
  · rw [if_pos e] at hj
    split at hj
    · left; exact (Option.some.inj hj).symm
    · cases hj
  · rw [if_neg e] at hj
    exact Or.inr ⟨List.mem_of_getElem? hj, j, Ne.symm e, hj⟩
theorem uq_ne {l : List Mg} (h : l.Pairwise (fun a b => ¬ (a.i = b.i ∧ a.n = b.n))) {j k : Nat} {a b : Mg} (hj : l[j]? = some a) (hk : l[k]? = some b) (hne : j ≠ k) : ¬ (a.i = b.i ∧ a.n = b.n) := by
  obtain ⟨j1, rfl⟩ := List.getElem?_eq_some_iff.1 hj
  obtain ⟨k1, rfl⟩ := List.getElem?_eq_some_iff.1 hk
  rw [List.pairwise_iff_getElem] at h
  by_cases q : j < k
  · exact h j k j1 k1 q
  · intro e
    exact h k j k1 j1 (by omega) ⟨e.1.symm, e.2.symm⟩
theorem uq_set {l : List Mg} (h : l.Pairwise (fun a b => ¬ (a.i = b.i ∧ a.n = b.n))) {k : Nat} {m : Mg} (hk : l[k]? = some m) : (l.set k { m with read := true }).Pairwise (fun a b => ¬ (a.i = b.i ∧ a.n = b.n)) := by
  rw [List.pairwise_iff_getElem] at h ⊢
  intro p q hp hq hpq
  rw [List.length_set] at hp hq
  obtain ⟨k1, hkm⟩ := List.getElem?_eq_some_iff.1 hk
  have e : ∀ p (hp : p < l.length), ((l.set k { m with read := true })[p]'(by rw [List.length_set]; exact hp)).i = l[p].i ∧ ((l.set k { m with read := true })[p]'(by rw [List.length_set]; exact hp)).n = l[p].n := by
    intro p hp
    rw [List.getElem_set]
    split
    · next e => subst e; rw [hkm]; exact ⟨rfl, rfl⟩
    · exact ⟨rfl, rfl⟩
  rw [(e p hp).1, (e p hp).2, (e q hq).1, (e q hq).2]
  exact h p q hp hq hpq
theorem kpK_ne {T : Tk} {b i n i' n' : Nat} (hi : Inj T b) (h1 : i + 2 ≤ b) (h2 : i' + 2 ≤ b) (h : ¬ (i' = i ∧ n' = n)) : kpK T i' n' ≠ kpK T i n := fun e => h (by
  have e1 := congrArg Kp.pt e
  have e2 := congrArg Kp.n e
  have := hi (i' + 2) (i + 2) (by omega) h2 (by omega) h1 e1
  exact ⟨by omega, e2⟩)
theorem Adv.old {T : Tk} {t b : Nat} {x y : Sd} {i n : Nat} (a : Adv T t x y i n) (hi : Inj T b) (_ht : t ≤ b) (hib : i + 2 ≤ b) {m : Mg} (h : Got T t x m) : Got T t y m := by
  have hnr := a.nr
  refine ⟨?_, fun k hk e => ?_⟩
  · rcases h.1 with q | ⟨q1, q2⟩
    · exact Or.inl q
    · exact Or.inr ⟨q1, by omega⟩
  · rcases a.sub k hk with q | ⟨q, q1, q2, q3, rfl⟩
    · exact h.2 k q e
    · have hm2 : m.i + 2 ≤ b := by rcases h.1 with q | q <;> omega
      have e1 : i + 2 = m.i + 2 := hi (i + 2) (m.i + 2) (by omega) hib (by omega) hm2 e.1
      have e2 : q = m.n := e.2
      rcases h.1 with p | ⟨p1, p2⟩ <;> omega
theorem Adv.new {T : Tk} {t b : Nat} {x y : Sd} {i n : Nat} (a : Adv T t x y i n) (hi : Inj T b) (ht : t ≤ b) (hib : i + 2 ≤ b) (hs : sumN T.N (t - 1) ≤ 32) {m : Mg} (hne : ¬ (m.i = i ∧ m.n = n)) (h : Kpt T t x m) : Kpt T t y m := by
  intro hp
  obtain ⟨k1, k2⟩ := a.kee hs
  by_cases hq : Past t x.nr m.i m.n
  · exact k1 _ (h hq) (kpK_ne hi hib (by rcases hp with q | q <;> omega) hne)
  · rcases hp with q | ⟨q1, q2⟩
    · exact absurd (Or.inl q) hq
    · have hge : x.nr ≤ m.n := by
        apply Classical.byContradiction
        intro c
        exact hq (Or.inr ⟨q1, by omega⟩)
      have hit : i + 2 = t := by
        apply Classical.byContradiction
        intro c
        have := a.nrc c
        omega
      have e : m.i = i := by omega
      have := k2 m.n hge q2 (fun e2 => hne ⟨e, e2⟩)
      rw [e]; exact this
end Go.Msg
namespace Go.Msg
open Go.RowKit Go.Proofs.YteghoooelgcpkaaGreatDoor
section
variable {T : Tk} {A B : Sd} {l : List Mg} {n : Nat}
theorem hear_new (h : Snc T A B l) (_hN : n < T.N T.e) {m : ByteArray} (hm : IsMsg m) (hpt : (ptF m).point = pubF (T.K (T.e + 2))) (hn : (ptF m).n = n) (data : ByteArray) :
    (∃ c : Int, c ≠ 0 ∧ c ≠ 6 ∧ hearS B m data = (B, ⟨#[]⟩, c) ∧ (B.nr + 20 < (ptF m).ahead ∨ 20 < n ∨ 24 ≤ B.past.length ∨ B.draws = [])) ∨
    (hearS B m data = (B, ⟨#[]⟩, 10) ∧ tagF (keyM T T.e n) (data ++ (ptF m).head) (ptF m).turned ≠ (ptF m).tag) ∨
    ∃ d rest, B.draws = d :: rest ∧ hearS B m data = (newSide B (ptF m) d, turnF (keyM T T.e n) (ptF m).turned, 0) ∧ tagF (keyM T T.e n) (data ++ (ptF m).head) (ptF m).turned = (ptF m).tag := by
  have hi := h.inj
  have hf : B.saved.findIdx? (isK (pubF (T.K (T.e + 2))) n) = none := by
    rw [List.findIdx?_eq_none_iff]
    intro k hk
    cases hq : isK (pubF (T.K (T.e + 2))) n k with
    | false => rfl
    | true => obtain ⟨_, q, _⟩ := h.rb.key hi (by omega) (by omega) hk hq; omega
  have hth : ¬ B.theirs = pubF (T.K (T.e + 2)) := fun q => by have := (h.rb.theirs_eq hi (by omega) (by omega)).1 q; omega
  have hbe : ¬ been B (pubF (T.K (T.e + 2))) = true := fun q => by have := (h.rb.been_iff hi (by omega) (by omega) rfl).1 q; omega
  have hdh : dhF B.self (pubF (T.K (T.e + 2))) = dhF (T.K (T.e + 2)) (pubF (T.K (T.e + 1))) := by rw [h.sb.self]; exact dh_comm _ _
  have hz : ¬ dhF (T.K (T.e + 2)) (pubF (T.K (T.e + 1))) = zeros 32 := dh_ne _ _
  have hkey : keyF (chn (rootC B.root (dhF B.self (pubF (T.K (T.e + 2))))) n) = keyM T T.e n := by unfold keyM; rw [hdh, h.roB, ← h.ch]
  unfold hearS
  rw [if_neg (by simpa using hm), hpt, hn, hf]
  simp only
  rw [if_neg hth, if_neg hbe]
  by_cases c1 : B.read.size ≠ 0 ∧ (ptF m).ahead > B.nr + 20
  · rw [if_pos c1]
    exact Or.inl ⟨7, by decide, by decide, rfl, Or.inl c1.2⟩
  rw [if_neg c1]
  by_cases c2 : n > 20
  · rw [if_pos c2]
    exact Or.inl ⟨7, by decide, by decide, rfl, Or.inr (Or.inl c2)⟩
  rw [if_neg c2]
  by_cases c3 : B.theirs.size ≠ 0 ∧ 24 ≤ B.past.length
  · rw [if_pos c3]
    exact Or.inl ⟨4, by decide, by decide, rfl, Or.inr (Or.inr (Or.inl c3.2))⟩
  rw [if_neg c3]
  cases hd : B.draws with
  | nil => exact Or.inl ⟨8, by decide, by decide, rfl, Or.inr (Or.inr (Or.inr rfl))⟩
  | cons d rest =>
    simp only
    rw [hdh, if_neg hz]
    unfold hearN okK
    rw [hpt, hn, hkey]
    by_cases hq : tagF (keyM T T.e n) (data ++ (ptF m).head) (ptF m).turned = (ptF m).tag
    · rw [if_pos (by simpa using hq)]
      exact Or.inr (Or.inr ⟨d, rest, rfl, rfl, hq⟩)
    · rw [if_neg (by simpa using hq)]
      exact Or.inr (Or.inl ⟨rfl, hq⟩)
theorem turn_saved (h : Snc T A B l) {p : Pt} (hp : p.point = pubF (T.K (T.e + 2))) (hpn : p.n = n) (_hN : n < T.N T.e) (ha : p.ahead = pnN T.N T.e) (k : Kp) :
    (k ∈ newSaved B p → k ∈ B.saved ∨ ∃ q, 2 ≤ T.e ∧ B.nr ≤ q ∧ q < T.N (T.e - 2) ∧ k = kpK T (T.e - 2) q) ∧
    (k ∈ leftL (rootC B.root (dhF B.self p.point)) p.point 0 p.n ↔ ∃ q, q < n ∧ k = kpK T T.e q) := by
  have hdh : dhF B.self (pubF (T.K (T.e + 2))) = dhF (T.K (T.e + 2)) (pubF (T.K (T.e + 1))) := by rw [h.sb.self]; exact dh_comm _ _
  constructor
  · intro hk
    unfold newSaved at hk
    split at hk
    · exact Or.inl hk
    · next hr =>
      have he : 2 ≤ T.e := by
        apply Classical.byContradiction
        intro c
        have := (h.rb.rd0 (by omega)).1
        rw [this] at hr
        exact hr rfl
      rcases lastL_mem hk with q | q
      · exact Or.inl q
      · right
        have hth : B.theirs = pubF (T.K (T.e - 2 + 2)) := (h.rb.theirs_eq h.inj (by omega) (by omega)).2 (by omega)
        rw [hth] at q
        obtain ⟨q', q1, q2, q3⟩ := (left_kp h.rb (i := T.e - 2) (by omega) _ k).1 q
        have hpn : pnN T.N T.e = T.N (T.e - 2) := by unfold pnN; rw [if_neg (by omega)]
        exact ⟨q', he, q1, by omega, q3⟩
  · rw [mem_leftL, hp, hpn, hdh, h.roB, ← h.ch]
    constructor
    · rintro ⟨q, q1, rfl⟩
      exact ⟨q, q1, by unfold kpK; rw [Nat.zero_add]⟩
    · rintro ⟨q, q1, rfl⟩
      exact ⟨q, q1, by unfold kpK; rw [Nat.zero_add]⟩
theorem turn_keep (h : Snc T A B l) {p : Pt} (hp : p.point = pubF (T.K (T.e + 2))) (hpn : p.n = n) (hN : n < T.N T.e) (ha : p.ahead = pnN T.N T.e) (hs : l.length ≤ 20) (d : ByteArray) :
    (∀ k ∈ B.saved, k ∈ (newSide B p d).saved) ∧ (∀ q, 2 ≤ T.e → B.nr ≤ q → q < T.N (T.e - 2) → kpK T (T.e - 2) q ∈ (newSide B p d).saved) ∧ ∀ q, q < n → kpK T T.e q ∈ (newSide B p d).saved := by
  have hlen := h.len
  have hln := h.rb.ln
  have h1 := sumN_ge T.N (show T.e < T.e + 1 by omega)
  have hsv := h.rb.ln
  have e2 : sumN T.N (T.e - 2) + B.nr ≤ sumN T.N T.e := by
    by_cases he : 2 ≤ T.e
    · have := (h.rb.rd he).2.1
      have := sumN_ge T.N (show T.e - 2 < T.e by omega)
      omega
    · have := (h.rb.rd0 (by omega)).2
      have := sumN_mono T.N (show T.e - 2 ≤ T.e by omega)
      omega
  have hns : (∀ k ∈ B.saved, k ∈ newSaved B p) ∧ (∀ q, 2 ≤ T.e → B.nr ≤ q → q < T.N (T.e - 2) → kpK T (T.e - 2) q ∈ newSaved B p) ∧ (newSaved B p).length ≤ sumN T.N T.e := by
    unfold newSaved
    by_cases he : 2 ≤ T.e
    · obtain ⟨r1, r2, r3⟩ := h.rb.rd he
      have hpn2 : pnN T.N T.e = T.N (T.e - 2) := by unfold pnN; rw [if_neg (by omega)]
      have hL := leftL_length B.read B.theirs B.nr (p.ahead - B.nr)
      have g := sumN_ge T.N (show T.e - 2 < T.e by omega)
      rw [if_neg (by omega), lastL_short (by omega)]
      have hth : B.theirs = pubF (T.K (T.e - 2 + 2)) := (h.rb.theirs_eq h.inj (by omega) (by omega)).2 (by omega)
      refine ⟨fun k hk => List.mem_append.2 (Or.inl hk), fun q _ q1 q2 => List.mem_append.2 (Or.inr ?_), by rw [List.length_append]; omega⟩
      rw [hth]
      exact (left_kp h.rb (i := T.e - 2) (by omega) _ _).2 ⟨q, q1, by omega, rfl⟩
    · have hr := (h.rb.rd0 (by omega)).1
      rw [if_pos (by rw [hr]; rfl)]
      exact ⟨fun k hk => hk, fun q q0 => absurd q0 he, by omega⟩
  have hL2 := leftL_length (rootC B.root (dhF B.self p.point)) p.point 0 p.n
  have e : (newSide B p d).saved = newSaved B p ++ leftL (rootC B.root (dhF B.self p.point)) p.point 0 p.n := lastL_short (by omega)
  rw [e]
  refine ⟨fun k hk => List.mem_append.2 (Or.inl (hns.1 k hk)), fun q q0 q1 q2 => List.mem_append.2 (Or.inl (hns.2.1 q q0 q1 q2)), fun q q1 => List.mem_append.2 (Or.inr ((turn_saved h hp hpn hN ha _).2.2 ⟨q, q1, rfl⟩))⟩
end
end Go.Msg
namespace Go.Msg
open Go.RowKit Go.Proofs.YteghoooelgcpkaaGreatDoor
theorem MI.mark {T : Tk} {m : Mg} (h : MI T m) : MI T { m with read := true } := ⟨h.ie, h.nn, h.wf, h.self, h.send, h.ns, h.pn, h.tx, h.dt⟩
section
variable {T : Tk} {A B : Sd} {l : List Mg}
theorem Snc.turned (h : Snc T A B l) {k : Nat} {m : Mg} (hk : l[k]? = some m) (hmi : m.i = T.e) {p : Pt} (hp : p.point = pubF (T.K (T.e + 2))) (hpn : p.n = m.n) (ha : p.ahead = pnN T.N T.e) {d : ByteArray} {rest : List ByteArray} (hd : B.draws = d :: rest) (hwf : (newSide B p d).Wf) :
    Snc (T.turn d A.root) (newSide B p d) A (l.set k { m with read := true }) := by
  have hm := h.ms m (List.mem_of_getElem? hk)
  have hN : m.n < T.N T.e := by have := hm.nn; rwa [hmi] at this
  have hdh : dhF B.self p.point = dhF (T.K (T.e + 2)) (pubF (T.K (T.e + 1))) := by rw [h.sb.self, hp]; exact dh_comm _ _
  have hr : rootA B.root (dhF B.self p.point) = A.root := by rw [hdh, h.roB, h.roA]
  have hc : rootC B.root (dhF B.self p.point) = T.C T.e := by rw [hdh, h.roB, h.ch]
  have yroot : (newSide B p d).root = rootA A.root (dhF d p.point) := by show rootA (rootA B.root (dhF B.self p.point)) (dhF d p.point) = _; rw [hr]
  have ysend : (newSide B p d).send = rootC A.root (dhF d p.point) := by show rootC (rootA B.root (dhF B.self p.point)) (dhF d p.point) = _; rw [hr]
  have yread : (newSide B p d).read = chn (T.C T.e) (m.n + 1) := by show behF (chn (rootC B.root (dhF B.self p.point)) p.n) = _; rw [hc, hpn]; rfl
  have ynr : (newSide B p d).nr = m.n + 1 := by show p.n + 1 = _; rw [hpn]
  have ysv : ∀ q ∈ (newSide B p d).saved, q ∈ B.saved ∨ (∃ j, 2 ≤ T.e ∧ B.nr ≤ j ∧ j < T.N (T.e - 2) ∧ q = kpK T (T.e - 2) j) ∨ ∃ j, j < m.n ∧ q = kpK T T.e j := by
    intro q hq
    have ts := turn_saved h hp hpn hN ha q
    rcases lastL_mem hq with e | e
    · rcases ts.1 e with e | e
      · exact Or.inl e
      · exact Or.inr (Or.inl e)
    · exact Or.inr (Or.inr (ts.2.1 e))
  have bsv : ∀ q ∈ B.saved, ∃ i n, i + 2 ≤ T.e ∧ i % 2 = T.e % 2 ∧ n < T.N i ∧ (i + 2 = T.e → n < B.nr) ∧ q = kpK T i n := by
    intro q hq
    obtain ⟨i, n, h1, h2, h3, h4⟩ := h.rb.sv q hq
    refine ⟨i, n, h1, h2, ?_, ?_, h4⟩
    · unfold limK at h3
      split at h3
      · next e => have := (h.rb.rd (by omega)).2.1; rw [show T.e - 2 = i by omega] at this; omega
      · exact h3
    · intro e
      unfold limK at h3
      rw [if_pos e] at h3
      exact h3
  have ag := turn_agr T d A.root (Nat.le_refl _)
  have kp : ∀ i n, i ≤ T.e → kpK (T.turn d A.root) i n = kpK T i n := fun i n hi => kpK_agr ag (by omega) n
  have hln := h.rb.ln
  have hT'N : ∀ i, i ≤ T.e → (T.turn d A.root).N i = T.N i := fun i hi => turn_N T d A.root hi
  have hsN : ∀ b, b ≤ T.e + 1 → sumN (T.turn d A.root).N b = sumN T.N b := fun b hb => sumN_congr b (fun i hi => hT'N i (by omega))
  have e2 : sumN T.N (T.e - 2) + B.nr ≤ sumN T.N T.e := by
    by_cases he : 2 ≤ T.e
    · have := (h.rb.rd he).2.1
      have := sumN_ge T.N (show T.e - 2 < T.e by omega)
      omega
    · have := (h.rb.rd0 (by omega)).2
      have := sumN_mono T.N (show T.e - 2 ≤ T.e by omega)
      omega
  have hi := h.inj
  have hdr : ∀ q ∈ rest, q ∈ B.draws := fun q hq => by rw [hd]; exact List.mem_cons_of_mem _ hq
  have hdB : d ∈ B.draws := by rw [hd]; exact List.mem_cons_self ..
  have ydraws : (newSide B p d).draws = rest := by show B.draws.drop 1 = rest; rw [hd]; rfl
  have hpB := h.dst.pB
  rw [hd, List.pairwise_cons] at hpB
  refine ⟨hwf, h.wa, ?_, ?_, ?_, h.ra.le (turn_agr T d A.root (by omega)), ?_, rfl, ?_, ?_, uq_set h.uq hk, ?_, ?_, ?_, ?_, ?_, ?_, ?_, ?_⟩
  · -- the side ahead sends
    refine ⟨(turn_Kd T d A.root).symm, fun q => ?_, fun _ => ⟨?_, ?_, ?_⟩⟩
    · have q' : T.e + 3 < 2 := q
      omega
    · show (newSide B p d).send = chn ((T.turn d A.root).C (T.e + 1)) ((T.turn d A.root).N (T.e + 1))
      rw [turn_Nd, turn_Cd, ysend, hp]; rfl
    · show 0 = (T.turn d A.root).N (T.e + 1)
      rw [turn_Nd]
    · show B.ns = pnN (T.turn d A.root).N (T.e + 1)
      rw [turn_pn T d A.root (Nat.le_refl _)]
      unfold pnN
      split
      · next q => exact (h.sb.sd0 (by omega)).2.1
      · next q => exact (h.sb.sd (by omega)).2.1
  · -- .. and reads
    show RI (T.turn d A.root) (T.e + 2) (newSide B p d)
    refine ⟨?_, ?_, fun q => by omega, fun _ => ⟨?_, ?_, ?_⟩, fun q hq => ?_, ?_, ?_⟩
    · show p.point = _
      rw [ptK_pos _ (by omega), turn_K T d A.root (Nat.le_refl _), hp]
    · show newPast B = pastK (T.turn d A.root).K (T.e + 2)
      rw [pastK, pastK_congr T.e (fun j hj => turn_K T d A.root (by omega)), ← h.rb.pa, turn_K T d A.root (by omega)]
      unfold newPast
      rw [h.rb.th]
      by_cases he : T.e = 0
      · rw [he, ptK_zero, if_pos (show (⟨#[]⟩ : ByteArray).size = 0 from rfl), if_pos rfl, List.append_nil]
      · rw [if_neg (by rw [ptK_size _ (by omega)]; decide), if_neg he, ptK_pos _ (by omega)]
    · show (newSide B p d).read = chn ((T.turn d A.root).C (T.e + 2 - 2)) (newSide B p d).nr
      rw [yread, ynr, show T.e + 2 - 2 = T.e by omega, turn_C T d A.root (Nat.le_refl _)]
    · show (newSide B p d).nr ≤ (T.turn d A.root).N (T.e + 2 - 2)
      rw [ynr, show T.e + 2 - 2 = T.e by omega, hT'N _ (Nat.le_refl _)]; exact hN
    · show (newSide B p d).read.size = 32
      rw [yread]; exact behF_size _
    · rcases ysv q hq with e | ⟨j, e1, e2', e3, e4⟩ | ⟨j, e1, e4⟩
      · obtain ⟨i, n, h1, h2, h3, _, h4⟩ := bsv q e
        refine ⟨i, n, by omega, by omega, ?_, by rw [kp i n (by omega)]; exact h4⟩
        unfold limK
        rw [if_neg (by omega), hT'N i (by omega)]; exact h3
      · refine ⟨T.e - 2, j, by omega, by omega, ?_, by rw [kp _ j (by omega)]; exact e4⟩
        unfold limK
        rw [if_neg (by omega), hT'N _ (by omega)]; exact e3
      · refine ⟨T.e, j, Nat.le_refl _, by omega, ?_, by rw [kp _ j (Nat.le_refl _)]; exact e4⟩
        unfold limK
        rw [if_pos rfl, ynr]; omega
    · -- no two of them
      have d1 : KDist (newSaved B p) := by
        unfold newSaved
        split
        · exact h.rb.nd
        · next hr0 =>
          refine lastL_dist h.rb.nd (leftL_dist _ _ _ _) (fun a ha' b hb' e => ?_)
          have he : 2 ≤ T.e := by
            apply Classical.byContradiction
            intro c
            have := (h.rb.rd0 (by omega)).1
            rw [this] at hr0
            exact hr0 rfl
          have hth : B.theirs = pubF (T.K (T.e - 2 + 2)) := (h.rb.theirs_eq hi (by omega) (by omega)).2 (by omega)
          rw [hth] at hb'
          obtain ⟨q', q1, q2, rfl⟩ := (left_kp h.rb (i := T.e - 2) (by omega) _ b).1 hb'
          obtain ⟨i, n, h1, h2, h3, h5, rfl⟩ := bsv a ha'
          have e1 : i + 2 = T.e - 2 + 2 := hi (i + 2) (T.e - 2 + 2) (by omega) (by omega) (by omega) (by omega) e.1
          have e3 : n = q' := e.2
          have := h5 (by omega)
          omega
      refine lastL_dist d1 (leftL_dist _ _ _ _) (fun a ha' b hb' e => ?_)
      obtain ⟨q', q1, rfl⟩ := (turn_saved h hp hpn hN ha b).2.1 hb'
      rcases (turn_saved h hp hpn hN ha a).1 ha' with e0 | ⟨j, j1, j2, j3, rfl⟩
      · obtain ⟨i, n, h1, h2, h3, h5, rfl⟩ := bsv a e0
        have e1 : i + 2 = T.e + 2 := hi (i + 2) (T.e + 2) (by omega) (by omega) (by omega) (by omega) e.1
        omega
      · have e1 : T.e - 2 + 2 = T.e + 2 := hi (T.e - 2 + 2) (T.e + 2) (by omega) (by omega) (by omega) (by omega) e.1
        omega
    · show (newSide B p d).saved.length ≤ sumN (T.turn d A.root).N (T.e + 2 - 2) + (newSide B p d).nr
      rw [ynr, show T.e + 2 - 2 = T.e by omega, hsN T.e (by omega)]
      have l1 := lastL_len (newSaved B p) (leftL (rootC B.root (dhF B.self p.point)) p.point 0 p.n)
      have l2 := leftL_length (rootC B.root (dhF B.self p.point)) p.point 0 p.n
      have l3 : (newSaved B p).length ≤ sumN T.N T.e := by
        unfold newSaved
        split
        · omega
        · next hr0 =>
          have he : 2 ≤ T.e := by
            apply Classical.byContradiction
            intro c
            have := (h.rb.rd0 (by omega)).1
            rw [this] at hr0
            exact hr0 rfl
          have l4 := lastL_len B.saved (leftL B.read B.theirs B.nr (p.ahead - B.nr))
          have l5 := leftL_length B.read B.theirs B.nr (p.ahead - B.nr)
          have hpn2 : pnN T.N T.e = T.N (T.e - 2) := by unfold pnN; rw [if_neg (by omega)]
          have g := sumN_ge T.N (show T.e - 2 < T.e by omega)
          have := (h.rb.rd he).2.1
          omega
      show (lastL (newSaved B p) (leftL (rootC B.root (dhF B.self p.point)) p.point 0 p.n)).length ≤ _
      omega
  · -- the side behind sends
    exact h.sa.agr (turn_K T d A.root (Nat.le_refl _)) (fun _ => turn_C T d A.root (by omega)) (fun _ => hT'N _ (by omega)) (fun _ => turn_pn T d A.root (by omega))
  · show (newSide B p d).root = rootA A.root (dhF ((T.turn d A.root).K (T.e + 3)) (pubF ((T.turn d A.root).K (T.e + 2))))
    rw [turn_Kd, turn_K T d A.root (Nat.le_refl _), yroot, hp]
  · show (T.turn d A.root).C (T.e + 1) = rootC A.root (dhF ((T.turn d A.root).K (T.e + 3)) (pubF ((T.turn d A.root).K (T.e + 2))))
    rw [turn_Kd, turn_K T d A.root (Nat.le_refl _), turn_Cd]
  · intro m' hm'
    have key : ∀ m'' : Mg, MI T m'' → MI (T.turn d A.root) m'' := fun m'' q => q.agr (Nat.le_succ _) (turn_K T d A.root (by have := q.ie; omega)) (turn_C T d A.root q.ie) (Nat.le_of_eq (hT'N _ q.ie).symm) (turn_pn T d A.root (by have := q.ie; omega))
    rcases mark_mem hm' hk with e | ⟨e, _⟩
    · rw [e]; exact key _ hm.mark
    · exact key _ (h.ms m' e)
  · rw [List.length_set, h.len]
    have es : sumN (T.turn d A.root).N (T.e + 1 + 1) = sumN (T.turn d A.root).N (T.e + 1) + (T.turn d A.root).N (T.e + 1) := rfl
    show _ = sumN (T.turn d A.root).N (T.e + 1 + 1)
    rw [es, turn_Nd, hsN _ (Nat.le_refl _)]; rfl
  · intro i hi'
    have hi2 : i < T.e + 1 := hi'
    rw [hT'N i (by omega)]
    by_cases e : i = T.e
    · rw [e]; omega
    · exact h.pos i (by omega)
  · intro i
    by_cases e : i = T.e + 1
    · rw [e, turn_Nd]; omega
    · have : (T.turn d A.root).N i = T.N i := updA_ne _ _ e
      rw [this]; exact h.top i
  · -- no two keys have one point
    rw [ydraws]
    have K' : ∀ i, i ≤ T.e + 2 → (T.turn d A.root).K i = T.K i := fun i hi => turn_K T d A.root hi
    refine ⟨fun i j i1 i2 j1 j2 e => ?_, fun q hq i i1 i2 => ?_, fun q hq i i1 i2 => ?_, hpB.2, h.dst.pA, fun a ha' b hb' => Ne.symm (h.dst.ab b hb' a (hdr a ha'))⟩
    · have i2' : i ≤ T.e + 3 := i2
      have j2' : j ≤ T.e + 3 := j2
      by_cases ei : i = T.e + 3
      · by_cases ej : j = T.e + 3
        · omega
        · rw [ei, turn_Kd, K' j (by omega)] at e
          exact absurd e (h.dst.dB d hdB j j1 (by omega))
      · by_cases ej : j = T.e + 3
        · rw [ej, turn_Kd, K' i (by omega)] at e
          exact absurd e.symm (h.dst.dB d hdB i i1 (by omega))
        · rw [K' i (by omega), K' j (by omega)] at e
          exact h.dst.inj i j i1 (by omega) j1 (by omega) e
    · have i2' : i ≤ T.e + 3 := i2
      by_cases ei : i = T.e + 3
      · rw [ei, turn_Kd]; exact Ne.symm (hpB.1 q hq)
      · rw [K' i (by omega)]; exact h.dst.dB q (hdr q hq) i i1 (by omega)
    · have i2' : i ≤ T.e + 3 := i2
      by_cases ei : i = T.e + 3
      · rw [ei, turn_Kd]; exact h.dst.ab q hq d hdB
      · rw [K' i (by omega)]; exact h.dst.dA q hq i i1 (by omega)
  · -- read by the side ahead
    intro m' hm' hr' hpar
    have hpar' : m'.i % 2 = (T.e + 2) % 2 := hpar
    show Got (T.turn d A.root) (T.e + 2) (newSide B p d) m'
    rcases mark_mem hm' hk with e | ⟨e, j, hj, hjm⟩
    · have ei : m'.i = T.e := by rw [e]; exact hmi
      have en : m'.n = m.n := by rw [e]
      refine ⟨Or.inr ⟨by omega, by rw [ynr]; omega⟩, fun q hq e' => ?_⟩
      rw [ei, turn_K T d A.root (Nat.le_refl _), en] at e'
      rcases ysv q hq with e0 | ⟨j, e1, e2', e3, rfl⟩ | ⟨j, e1, rfl⟩
      · obtain ⟨i, n, h1, h2, h3, h5, rfl⟩ := bsv q e0
        have e1 : i + 2 = T.e + 2 := hi (i + 2) (T.e + 2) (by omega) (by omega) (by omega) (by omega) e'.1
        omega
      · have e1 : T.e - 2 + 2 = T.e + 2 := hi (T.e - 2 + 2) (T.e + 2) (by omega) (by omega) (by omega) (by omega) e'.1
        omega
      · have : j = m.n := e'.2
        omega
    · obtain ⟨g1, g2⟩ := h.oldB m' e hr' (by omega)
      have hle : m'.i + 2 ≤ T.e := by rcases g1 with q | q <;> omega
      refine ⟨Or.inl (by omega), fun q hq e' => ?_⟩
      rw [turn_K T d A.root (by omega)] at e'
      rcases ysv q hq with e0 | ⟨j, e1, e2', e3, rfl⟩ | ⟨j, e1, rfl⟩
      · exact g2 q e0 e'
      · have e1 : T.e - 2 + 2 = m'.i + 2 := hi (T.e - 2 + 2) (m'.i + 2) (by omega) (by omega) (by omega) (by omega) e'.1
        have e4 : j = m'.n := e'.2
        rcases g1 with q | q <;> omega
      · have e1 : T.e + 2 = m'.i + 2 := hi (T.e + 2) (m'.i + 2) (by omega) (by omega) (by omega) (by omega) e'.1
        omega
  · -- .. by the side behind
    intro m' hm' hr' hpar
    have hpar' : m'.i % 2 = (T.e + 1) % 2 := hpar
    rcases mark_mem hm' hk with e | ⟨e, _⟩
    · have ei : m'.i = T.e := by rw [e]; exact hmi
      omega
    · exact (h.oldA m' e hr' hpar').agr (turn_agr T d A.root (by omega))
  · -- kept by the side ahead
    intro hs m' hm' hr' hpar hpast
    have hpar' : m'.i % 2 = (T.e + 2) % 2 := hpar
    rw [List.length_set] at hs
    have hpast' : Past (T.e + 2) (newSide B p d).nr m'.i m'.n := hpast
    rw [ynr] at hpast'
    obtain ⟨t1, t2, t3⟩ := turn_keep h hp hpn hN ha hs d
    rcases mark_mem hm' hk with e | ⟨e, j, hj, hjm⟩
    · rw [e] at hr'; cases hr'
    · have hie := (h.ms m' e).ie
      have hnn := (h.ms m' e).nn
      rw [kp _ _ hie]
      by_cases ee : m'.i = T.e
      · rw [ee]
        refine t3 _ ?_
        have := uq_ne h.uq hjm hk hj
        rcases hpast' with q | ⟨q1, q2⟩
        · omega
        · have : m'.n ≠ m.n := fun c => this ⟨by omega, c⟩
          omega
      · by_cases hq : Past T.e B.nr m'.i m'.n
        · exact t1 _ (h.newB hs m' e hr' (by omega) hq)
        · have : m'.i + 2 = T.e := by
            apply Classical.byContradiction
            intro c
            exact hq (Or.inl (by omega))
          have ei : m'.i = T.e - 2 := by omega
          have hge : B.nr ≤ m'.n := by
            apply Classical.byContradiction
            intro c
            exact hq (Or.inr ⟨this, by omega⟩)
          rw [ei] at hnn ⊢
          exact t2 _ (by omega) hge hnn
  · -- .. by the side behind
    intro hs m' hm' hr' hpar
    have hpar' : m'.i % 2 = (T.e + 1) % 2 := hpar
    rw [List.length_set] at hs
    rcases mark_mem hm' hk with e | ⟨e, _⟩
    · rw [e] at hr'; cases hr'
    · exact (h.newA hs m' e hr' hpar').agr (turn_agr T d A.root (by omega))
end
end Go.Msg
namespace Go.Msg
open Go.RowKit Go.Proofs.YteghoooelgcpkaaGreatDoor
section
variable {T : Tk} {A B : Sd} {l : List Mg} {k : Nat} {m : Mg}
theorem sum_le (h : Snc T A B l) {i : Nat} (hi : i ≤ T.e) : sumN T.N i + T.N i ≤ l.length := by rw [h.len]; exact sumN_ge T.N (by omega)
theorem Snc.hearA (h : Snc T A B l) (hk : l[k]? = some m) (hpar : m.i % 2 = (T.e + 1) % 2) {b : ByteArray} (hm : IsMsg b) (hpt : (ptF b).point = pubF (T.K (m.i + 2))) (hn : (ptF b).n = m.n) (data : ByteArray) :
    (∃ c : Int, c ≠ 0 ∧ hearS A b data = (A, ⟨#[]⟩, c) ∧ (tagF (keyM T m.i m.n) (data ++ (ptF b).head) (ptF b).turned ≠ (ptF b).tag ∨ ((m.read = true → c = 6) ∧ (l.length ≤ 20 → m.read = true)))) ∨
    ∃ y, hearS A b data = (y, turnF (keyM T m.i m.n) (ptF b).turned, 0) ∧ tagF (keyM T m.i m.n) (data ++ (ptF b).head) (ptF b).turned = (ptF b).tag ∧ m.read = false ∧ Still A y ∧ Snc T y B (l.set k { m with read := true }) := by
  have hml := List.mem_of_getElem? hk
  have hmi := h.ms m hml
  have hie := hmi.ie
  have hle : m.i + 2 ≤ T.e + 1 := by omega
  have hi := h.inj
  have hsum := sum_le h hie
  rcases hear_pass h.ra hi (by omega) hle hpar hmi.nn hm hpt hn data with ⟨e, hp, hns⟩ | ⟨e, hs, ht⟩ | ⟨e, ht⟩ | ⟨y, e, ht, a⟩
  · refine Or.inl ⟨6, by decide, e, Or.inr ⟨fun _ => rfl, fun hs => ?_⟩⟩
    cases hr : m.read with
    | true => rfl
    | false => exact absurd (h.newA hs m hml hr hpar hp) hns
  · refine Or.inl ⟨7, by decide, e, Or.inr ⟨fun hr => ?_, fun hs' => ?_⟩⟩
    · obtain ⟨g, _⟩ := h.oldA m hml hr hpar
      rcases g with q | q <;> omega
    · have := hmi.nn; omega
  · exact Or.inl ⟨10, by decide, e, Or.inl ht⟩
  · refine Or.inr ⟨y, e, ht, ?_, a.st, ?_⟩
    · cases hr : m.read with
      | false => rfl
      | true =>
        obtain ⟨g1, g2⟩ := h.oldA m hml hr hpar
        rcases a.was with q | q
        · exact absurd ⟨rfl, rfl⟩ (g2 _ q)
        · exact absurd g1 q
    · have ywf : y.Wf := by
        have := hearS_wf h.wa b data
        rw [e] at this
        exact this
      refine ⟨ywf, h.wb, a.st.si h.sa, a.ri, h.sb, h.rb, by rw [a.st.root]; exact h.roA, h.roB, h.ch, ?_, uq_set h.uq hk, by rw [List.length_set]; exact h.len, h.pos, h.top, by rw [a.st.draws]; exact h.dst, ?_, ?_, ?_, ?_⟩
      · intro m' hm'
        rcases mark_mem hm' hk with q | ⟨q, _⟩
        · rw [q]; exact hmi.mark
        · exact h.ms m' q
      · intro m' hm' hr' hp'
        rcases mark_mem hm' hk with q | ⟨q, _⟩
        · rw [q]; exact ⟨a.past, a.got⟩
        · exact a.old hi (by omega) (by omega) (h.oldA m' q hr' hp')
      · intro m' hm' hr' hp'
        rcases mark_mem hm' hk with q | ⟨q, _⟩
        · have ei : m'.i = m.i := by rw [q]
          omega
        · exact h.oldB m' q hr' hp'
      · intro hs m' hm' hr' hp'
        rw [List.length_set] at hs
        rcases mark_mem hm' hk with q | ⟨q, j, hj, hjm⟩
        · rw [q] at hr'; cases hr'
        · refine a.new hi (by omega) (by omega) ?_ (uq_ne h.uq hjm hk hj) (h.newA hs m' q hr' hp')
          have := sumN_mono T.N (show T.e + 1 - 1 ≤ T.e + 1 by omega)
          rw [← h.len] at this
          omega
      · intro hs m' hm' hr' hp'
        rw [List.length_set] at hs
        rcases mark_mem hm' hk with q | ⟨q, _⟩
        · rw [q] at hr'; cases hr'
        · exact h.newB hs m' q hr' hp'
theorem Snc.hearB (h : Snc T A B l) (hk : l[k]? = some m) (hpar : m.i % 2 = T.e % 2) (hlt : m.i < T.e) {b : ByteArray} (hm : IsMsg b) (hpt : (ptF b).point = pubF (T.K (m.i + 2))) (hn : (ptF b).n = m.n) (data : ByteArray) :
    (∃ c : Int, c ≠ 0 ∧ hearS B b data = (B, ⟨#[]⟩, c) ∧ (tagF (keyM T m.i m.n) (data ++ (ptF b).head) (ptF b).turned ≠ (ptF b).tag ∨ ((m.read = true → c = 6) ∧ (l.length ≤ 20 → m.read = true)))) ∨
    ∃ y, hearS B b data = (y, turnF (keyM T m.i m.n) (ptF b).turned, 0) ∧ tagF (keyM T m.i m.n) (data ++ (ptF b).head) (ptF b).turned = (ptF b).tag ∧ m.read = false ∧ Still B y ∧ Snc T A y (l.set k { m with read := true }) := by
  have hml := List.mem_of_getElem? hk
  have hmi := h.ms m hml
  have hie := hmi.ie
  have hle : m.i + 2 ≤ T.e := by omega
  have hi := h.inj
  have hsum := sum_le h hie
  rcases hear_pass h.rb hi (by omega) hle hpar hmi.nn hm hpt hn data with ⟨e, hp, hns⟩ | ⟨e, hs, ht⟩ | ⟨e, ht⟩ | ⟨y, e, ht, a⟩
  · refine Or.inl ⟨6, by decide, e, Or.inr ⟨fun _ => rfl, fun hs => ?_⟩⟩
    cases hr : m.read with
    | true => rfl
    | false => exact absurd (h.newB hs m hml hr hpar hp) hns
  · refine Or.inl ⟨7, by decide, e, Or.inr ⟨fun hr => ?_, fun hs' => ?_⟩⟩
    · obtain ⟨g, _⟩ := h.oldB m hml hr hpar
      rcases g with q | q <;> omega
    · have := hmi.nn; omega
  · exact Or.inl ⟨10, by decide, e, Or.inl ht⟩
  · refine Or.inr ⟨y, e, ht, ?_, a.st, ?_⟩
    · cases hr : m.read with
      | false => rfl
      | true =>
        obtain ⟨g1, g2⟩ := h.oldB m hml hr hpar
        rcases a.was with q | q
        · exact absurd ⟨rfl, rfl⟩ (g2 _ q)
        · exact absurd g1 q
    · have ywf : y.Wf := by
        have := hearS_wf h.wb b data
        rw [e] at this
        exact this
      refine ⟨h.wa, ywf, h.sa, h.ra, a.st.si h.sb, a.ri, h.roA, by rw [a.st.root]; exact h.roB, h.ch, ?_, uq_set h.uq hk, by rw [List.length_set]; exact h.len, h.pos, h.top, by rw [a.st.draws]; exact h.dst, ?_, ?_, ?_, ?_⟩
      · intro m' hm'
        rcases mark_mem hm' hk with q | ⟨q, _⟩
        · rw [q]; exact hmi.mark
        · exact h.ms m' q
      · intro m' hm' hr' hp'
        rcases mark_mem hm' hk with q | ⟨q, _⟩
        · have ei : m'.i = m.i := by rw [q]
          omega
        · exact h.oldA m' q hr' hp'
      · intro m' hm' hr' hp'
        rcases mark_mem hm' hk with q | ⟨q, _⟩
        · rw [q]; exact ⟨a.past, a.got⟩
        · exact a.old hi (by omega) (by omega) (h.oldB m' q hr' hp')
      · intro hs m' hm' hr' hp'
        rw [List.length_set] at hs
        rcases mark_mem hm' hk with q | ⟨q, _⟩
        · rw [q] at hr'; cases hr'
        · exact h.newA hs m' q hr' hp'
      · intro hs m' hm' hr' hp'
        rw [List.length_set] at hs
        rcases mark_mem hm' hk with q | ⟨q, j, hj, hjm⟩
        · rw [q] at hr'; cases hr'
        · refine a.new hi (by omega) (by omega) ?_ (uq_ne h.uq hjm hk hj) (h.newB hs m' q hr' hp')
          have := sumN_mono T.N (show T.e - 1 ≤ T.e + 1 by omega)
          rw [← h.len] at this
          omega
theorem Snc.hearN (h : Snc T A B l) (hk : l[k]? = some m) (hmi : m.i = T.e) {b : ByteArray} (hm : IsMsg b) (hpt : (ptF b).point = pubF (T.K (m.i + 2))) (hn : (ptF b).n = m.n) (ha : (ptF b).ahead = pnN T.N m.i) (data : ByteArray) :
    (∃ c : Int, c ≠ 0 ∧ hearS B b data = (B, ⟨#[]⟩, c) ∧ (tagF (keyM T m.i m.n) (data ++ (ptF b).head) (ptF b).turned ≠ (ptF b).tag ∨ ((m.read = true → c = 6) ∧ (l.length ≤ 20 → B.draws ≠ [] → m.read = true)))) ∨
    ∃ d rest, B.draws = d :: rest ∧ hearS B b data = (newSide B (ptF b) d, turnF (keyM T m.i m.n) (ptF b).turned, 0) ∧ tagF (keyM T m.i m.n) (data ++ (ptF b).head) (ptF b).turned = (ptF b).tag ∧ m.read = false ∧ Snc (T.turn d A.root) (newSide B (ptF b) d) A (l.set k { m with read := true }) := by
  have hml := List.mem_of_getElem? hk
  have hmm := h.ms m hml
  have hnn := hmm.nn
  rw [hmi] at hpt ha hnn ⊢
  have hunread : m.read = false := by
    cases hr : m.read with
    | false => rfl
    | true =>
      obtain ⟨g, _⟩ := h.oldB m hml hr (by omega)
      rcases g with q | q <;> omega
  have hsum := sum_le h (Nat.le_refl T.e)
  rcases hear_new h hnn hm hpt hn data with ⟨c, c0, c6, e, w⟩ | ⟨e, ht⟩ | ⟨d, rest, hd, e, ht⟩
  · refine Or.inl ⟨c, c0, e, Or.inr ⟨fun q => (by rw [hunread] at q; cases q), fun hs hne => ?_⟩⟩
    exfalso
    rcases w with q | q | q | q
    · rw [ha] at q
      unfold pnN at q
      split at q
      · omega
      · have := sumN_ge T.N (show T.e - 2 < T.e by omega); omega
    · omega
    · have h1 := pastK_len T.K T.e
      have h2 := sumN_pos T.N T.e h.pos
      rw [h.rb.pa] at q
      omega
    · exact hne q
  · exact Or.inl ⟨10, by decide, e, Or.inl ht⟩
  · have ywf : (newSide B (ptF b) d).Wf := by
      have := hearS_wf h.wb b data
      rw [e] at this
      exact this
    have tn := h.turned hk hmi hpt hn ha hd ywf
    rw [hmi] at tn
    exact Or.inr ⟨d, rest, hd, e, ht, hunread, tn⟩
end
end Go.Msg
namespace Go.Msg
open Go.RowKit Go.Proofs.YteghoooelgcpkaaGreatDoor
def Tk.say (T : Tk) (i : Nat) : Tk := { T with N := updA T.N i (T.N i + 1) }
theorem say_N (T : Tk) (i : Nat) : (T.say i).N i = T.N i + 1 := updA_same _ _ _
theorem say_Nne (T : Tk) {i j : Nat} (h : j ≠ i) : (T.say i).N j = T.N j := updA_ne _ _ h
theorem say_le (T : Tk) (i j : Nat) : T.N j ≤ (T.say i).N j := by
  by_cases h : j = i
  · rw [h, say_N]; omega
  · rw [say_Nne T h]; exact Nat.le_refl _
theorem say_agr (T : Tk) (i b : Nat) : Agr T (T.say i) b := ⟨fun _ _ => rfl, fun _ _ => rfl, fun j _ => say_le T i j⟩
theorem say_pn (T : Tk) {i j : Nat} (h : j ≤ i + 1) : pnN (T.say i).N j = pnN T.N j := by
  unfold pnN
  split
  · rfl
  · exact say_Nne T (by omega)
theorem say_sum (T : Tk) {i b : Nat} (h : i < b) : sumN (T.say i).N b = sumN T.N b + 1 := by
  induction b with
  | zero => omega
  | succ b ih =>
    rw [sumN, sumN]
    by_cases e : b = i
    · subst e
      rw [say_N, sumN_congr b (N := (T.say b).N) (N' := T.N) (fun j hj => say_Nne T (by omega))]; omega
    · rw [ih (by omega), say_Nne T e]; omega
def Mg.of (i : Nat) (x : Sd) (text data : ByteArray) : Mg := ⟨i, x.ns, x, text, data, false⟩
section
variable {T : Tk} {A B : Sd} {l : List Mg}
theorem say_old {l : List Mg} {m' m : Mg} (hm : m' ∈ l ++ [m]) (hr : m'.read = true) (h0 : m.read = false) : m' ∈ l := by
  rcases List.mem_append.1 hm with q | q
  · exact q
  · rw [List.mem_singleton.1 q, h0] at hr; cases hr
theorem Snc.sayA (h : Snc T A B l) (text data : ByteArray) (ht : text.size ≤ 200) (hd : data.size ≤ 100) (hn : A.ns ≠ 300) : Snc (T.say T.e) (saidS A) B (l ++ [Mg.of T.e A text data]) ∧ ∀ m ∈ l, ¬ (pubF m.x0.self = pubF A.self ∧ m.x0.ns = A.ns) := by
  obtain ⟨s1, s2, s3⟩ := h.sa.sd (by omega)
  rw [show T.e + 2 - 2 = T.e by omega] at s1 s2 s3
  have htop := h.top T.e
  have hself := h.sa.self
  refine ⟨⟨saidS_wf h.wa hn, h.wb, ⟨hself, fun q => ?_, fun _ => ⟨?_, ?_, ?_⟩⟩, h.ra.le (say_agr T T.e _) |> fun q => ⟨q.th, q.pa, q.rd0, q.rd, q.sv, q.nd, q.ln⟩, ?_, h.rb.le (say_agr T T.e _), h.roA, h.roB, h.ch, ?_, ?_, ?_, ?_, ?_, ⟨h.dst.inj, h.dst.dA, h.dst.dB, h.dst.pA, h.dst.pB, h.dst.ab⟩, ?_, ?_, ?_, ?_⟩, ?_⟩
  · have q' : T.e + 2 < 2 := q
    omega
  · show behF A.send = chn (T.C (T.e + 2 - 2)) ((T.say T.e).N (T.e + 2 - 2))
    rw [show T.e + 2 - 2 = T.e by omega, say_N, s1]; rfl
  · show A.ns + 1 = (T.say T.e).N (T.e + 2 - 2)
    rw [show T.e + 2 - 2 = T.e by omega, say_N, s2]
  · show A.pn = pnN (T.say T.e).N (T.e + 2 - 2)
    rw [show T.e + 2 - 2 = T.e by omega, say_pn T (Nat.le_succ _)]; exact s3
  · exact h.sb.agr rfl (fun _ => rfl) (fun q => say_Nne T (by omega)) (fun q => say_pn T (by omega))
  · intro m' hm'
    rcases List.mem_append.1 hm' with q | q
    · have hm := h.ms m' q
      exact hm.agr (Nat.le_refl _) rfl rfl (say_le T _ _) (say_pn T (by have := hm.ie; omega))
    · rw [List.mem_singleton.1 q]
      refine ⟨Nat.le_refl _, ?_, h.wa, hself, ?_, rfl, ?_, ht, hd⟩
      · show A.ns < (T.say T.e).N T.e
        rw [say_N, s2]; omega
      · show A.send = chn (T.C T.e) A.ns
        rw [s2]; exact s1
      · show A.pn = pnN (T.say T.e).N T.e
        rw [say_pn T (Nat.le_succ _)]; exact s3
  · refine List.pairwise_append.2 ⟨h.uq, List.pairwise_singleton _ _, fun a ha b hb => ?_⟩
    rw [List.mem_singleton.1 hb]
    rintro ⟨q1, q2⟩
    have q1' : a.i = T.e := q1
    have q2' : a.n = A.ns := q2
    have := (h.ms a ha).nn
    rw [q1', q2', s2] at this
    omega
  · rw [List.length_append, h.len]
    exact (say_sum T (Nat.lt_succ_self _)).symm
  · intro i hi
    exact Nat.le_trans (h.pos i hi) (say_le T _ _)
  · intro i
    by_cases e : i = T.e
    · rw [e, say_N]; omega
    · rw [say_Nne T e]; exact h.top i
  · intro m' hm' hr' hp'
    exact (h.oldA m' (say_old hm' hr' rfl) hr' hp').agr (say_agr T T.e _)
  · intro m' hm' hr' hp'
    exact (h.oldB m' (say_old hm' hr' rfl) hr' hp').agr (say_agr T T.e _)
  · intro hs m' hm' hr' hp'
    rw [List.length_append] at hs
    rcases List.mem_append.1 hm' with q | q
    · exact (h.newA (by omega) m' q hr' hp').agr (say_agr T T.e _)
    · rw [List.mem_singleton.1 q] at hp'
      have : T.e % 2 = (T.e + 1) % 2 := hp'
      omega
  · intro hs m' hm' hr' hp'
    rw [List.length_append] at hs
    rcases List.mem_append.1 hm' with q | q
    · exact (h.newB (by omega) m' q hr' hp').agr (say_agr T T.e _)
    · rw [List.mem_singleton.1 q]
      intro hq
      have hq' : Past T.e B.nr T.e A.ns := hq
      rcases hq' with c | c <;> omega
  · intro m hm hq
    have hmi := h.ms m hm
    rw [hmi.self, hself] at hq
    have e := h.inj (m.i + 2) (T.e + 2) (by omega) (by have := hmi.ie; omega) (by omega) (Nat.le_refl _) hq.1
    have := hmi.nn
    rw [show m.i = T.e by omega] at this
    have e2 := hq.2
    rw [hmi.ns, s2] at e2
    omega
theorem Snc.sayB (h : Snc T A B l) (text data : ByteArray) (ht : text.size ≤ 200) (hd : data.size ≤ 100) (hs0 : B.send ≠ ⟨#[]⟩) (hn : B.ns ≠ 300) : Snc (T.say (T.e - 1)) A (saidS B) (l ++ [Mg.of (T.e - 1) B text data]) ∧ 1 ≤ T.e ∧ ∀ m ∈ l, ¬ (pubF m.x0.self = pubF B.self ∧ m.x0.ns = B.ns) := by
  have he : 1 ≤ T.e := by
    apply Classical.byContradiction
    intro c
    exact hs0 (h.sb.sd0 (by omega)).1
  obtain ⟨s1, s2, s3⟩ := h.sb.sd (by omega)
  have e1 : T.e + 1 - 2 = T.e - 1 := by omega
  rw [e1] at s1 s2 s3
  have htop := h.top (T.e - 1)
  have hself := h.sb.self
  refine ⟨⟨h.wa, saidS_wf h.wb hn, ?_, h.ra.le (say_agr T _ _), ⟨hself, fun q => ?_, fun _ => ⟨?_, ?_, ?_⟩⟩, h.rb.le (say_agr T _ _) |> fun q => ⟨q.th, q.pa, q.rd0, q.rd, q.sv, q.nd, q.ln⟩, h.roA, h.roB, h.ch, ?_, ?_, ?_, ?_, ?_, ⟨h.dst.inj, h.dst.dA, h.dst.dB, h.dst.pA, h.dst.pB, h.dst.ab⟩, ?_, ?_, ?_, ?_⟩, he, ?_⟩
  · exact h.sa.agr rfl (fun _ => rfl) (fun q => say_Nne T (by show T.e + 2 - 2 ≠ _; omega)) (fun q => say_pn T (by show T.e + 2 - 2 ≤ _; omega))
  · have q' : T.e + 1 < 2 := q
    omega
  · show behF B.send = chn (T.C (T.e + 1 - 2)) ((T.say (T.e - 1)).N (T.e + 1 - 2))
    rw [e1, say_N, s1]; rfl
  · show B.ns + 1 = (T.say (T.e - 1)).N (T.e + 1 - 2)
    rw [e1, say_N, s2]
  · show B.pn = pnN (T.say (T.e - 1)).N (T.e + 1 - 2)
    rw [e1, say_pn T (Nat.le_succ _)]; exact s3
  · intro m' hm'
    rcases List.mem_append.1 hm' with q | q
    · have hm := h.ms m' q
      exact hm.agr (Nat.le_refl _) rfl rfl (say_le T _ _) (say_pn T (by have := hm.ie; omega))
    · rw [List.mem_singleton.1 q]
      refine ⟨Nat.sub_le _ _, ?_, h.wb, ?_, ?_, rfl, ?_, ht, hd⟩
      · show B.ns < (T.say (T.e - 1)).N (T.e - 1)
        rw [say_N, s2]; omega
      · show B.self = T.K (T.e - 1 + 2)
        rw [show T.e - 1 + 2 = T.e + 1 by omega]; exact hself
      · show B.send = chn (T.C (T.e - 1)) B.ns
        rw [s2]; exact s1
      · show B.pn = pnN (T.say (T.e - 1)).N (T.e - 1)
        rw [say_pn T (Nat.le_succ _)]; exact s3
  · refine List.pairwise_append.2 ⟨h.uq, List.pairwise_singleton _ _, fun a ha b hb => ?_⟩
    rw [List.mem_singleton.1 hb]
    rintro ⟨q1, q2⟩
    have q1' : a.i = T.e - 1 := q1
    have q2' : a.n = B.ns := q2
    have := (h.ms a ha).nn
    rw [q1', q2', s2] at this
    omega
  · rw [List.length_append, h.len]
    exact (say_sum T (by omega)).symm
  · intro i hi
    exact Nat.le_trans (h.pos i hi) (say_le T _ _)
  · intro i
    by_cases e : i = T.e - 1
    · rw [e, say_N]; omega
    · rw [say_Nne T e]; exact h.top i
  · intro m' hm' hr' hp'
    exact (h.oldA m' (say_old hm' hr' rfl) hr' hp').agr (say_agr T _ _)
  · intro m' hm' hr' hp'
    exact (h.oldB m' (say_old hm' hr' rfl) hr' hp').agr (say_agr T _ _)
  · intro hs m' hm' hr' hp'
    rw [List.length_append] at hs
    rcases List.mem_append.1 hm' with q | q
    · exact (h.newA (by omega) m' q hr' hp').agr (say_agr T _ _)
    · rw [List.mem_singleton.1 q]
      intro hq
      have hq' : Past (T.e + 1) A.nr (T.e - 1) B.ns := hq
      have hr1 := (h.ra.rd (by omega)).2.1
      rw [e1, ← s2] at hr1
      rcases hq' with c | c <;> omega
  · intro hs m' hm' hr' hp'
    rw [List.length_append] at hs
    rcases List.mem_append.1 hm' with q | q
    · exact (h.newB (by omega) m' q hr' hp').agr (say_agr T _ _)
    · rw [List.mem_singleton.1 q] at hp'
      have : (T.e - 1) % 2 = T.e % 2 := hp'
      omega
  · intro m hm hq
    have hmi := h.ms m hm
    rw [hmi.self, hself] at hq
    have e := h.inj (m.i + 2) (T.e + 1) (by omega) (by have := hmi.ie; omega) (by omega) (by omega) hq.1
    have := hmi.nn
    rw [show m.i = T.e - 1 by omega] at this
    have e2 := hq.2
    rw [hmi.ns, s2] at e2
    omega
end
end Go.Msg
namespace Go.Msg
open Go.RowKit Go.Proofs.YteghoooelgcpkaaGreatDoor
theorem hearS_out {x : Sd} (m data : ByteArray) : ((hearS x m data).2.2 ≠ 0 ∧ (hearS x m data).1 = x ∧ (hearS x m data).2.1 = ⟨#[]⟩) ∨ ((hearS x m data).2.2 = 0 ∧ (hearS x m data).1 ≠ x) := by
  unfold hearS
  split
  · exact Or.inl ⟨(by decide : (5 : Int) ≠ 0), rfl, rfl⟩
  · split
    · next i hi =>
      split
      · next k hk =>
        unfold hearK
        split
        · refine Or.inr ⟨rfl, fun q => ?_⟩
          have := congrArg (fun z : Sd => z.saved.length) q
          simp at this
          have hl := (List.getElem?_eq_some_iff.1 hk).1
          omega
        · exact Or.inl ⟨(by decide : (10 : Int) ≠ 0), rfl, rfl⟩
      · exact Or.inl ⟨(by decide : (5 : Int) ≠ 0), rfl, rfl⟩
    · split
      · split
        · exact Or.inl ⟨(by decide : (6 : Int) ≠ 0), rfl, rfl⟩
        · next q1 =>
          split
          · exact Or.inl ⟨(by decide : (7 : Int) ≠ 0), rfl, rfl⟩
          · unfold hearC
            split
            · refine Or.inr ⟨rfl, fun q => ?_⟩
              have := congrArg (fun z : Sd => z.nr) q
              simp at this
              omega
            · exact Or.inl ⟨(by decide : (10 : Int) ≠ 0), rfl, rfl⟩
      · next ht =>
        split
        · exact Or.inl ⟨(by decide : (6 : Int) ≠ 0), rfl, rfl⟩
        · split
          · exact Or.inl ⟨(by decide : (7 : Int) ≠ 0), rfl, rfl⟩
          · split
            · exact Or.inl ⟨(by decide : (7 : Int) ≠ 0), rfl, rfl⟩
            · split
              · exact Or.inl ⟨(by decide : (4 : Int) ≠ 0), rfl, rfl⟩
              · split
                · exact Or.inl ⟨(by decide : (8 : Int) ≠ 0), rfl, rfl⟩
                · split
                  · exact Or.inl ⟨(by decide : (9 : Int) ≠ 0), rfl, rfl⟩
                  · unfold hearN
                    split
                    · exact Or.inr ⟨rfl, fun q => ht (by rw [← congrArg Sd.theirs q]; rfl)⟩
                    · exact Or.inl ⟨(by decide : (10 : Int) ≠ 0), rfl, rfl⟩
end Go.Msg
namespace Go.Msg
open Go.RowKit Go.Proofs.YteghoooelgcpkaaGreatDoor
structure Lm where
  odd : Bool
  bytes : ByteArray
  text : ByteArray
  data : ByteArray
  read : Bool
  before : ByteArray
def Lm.of (m : Mg) : Lm := ⟨decide (m.i % 2 = 1), msgF m.x0 m.text m.data, m.text, m.data, m.read, keptB m.x0⟩
structure Pin (T : Tk) (E O : Sd) (ps : List ByteArray) : Prop where
  k : ∀ i, 1 ≤ i → i ≤ T.e + 2 → pubF (T.K i) ∈ ps
  e : ∀ d ∈ E.draws, pubF d ∈ ps
  o : ∀ d ∈ O.draws, pubF d ∈ ps
def Syn (T : Tk) (E O : Sd) (l : List Mg) : Prop := (T.e % 2 = 0 ∧ Snc T E O l) ∨ (T.e % 2 = 1 ∧ Snc T O E l)
def Talk (E O : Sd) (ls : List Lm) (ps : List ByteArray) : Prop := ∃ T l, Syn T E O l ∧ ls = l.map Lm.of ∧ Pin T E O ps
theorem Snc.layA {T : Tk} {A B : Sd} {l : List Mg} (h : Snc T A B l) {k : ByteArray} (hk : k.size = 32) (hn : A.draws.length < 8) (h1 : ∀ i, 1 ≤ i → i ≤ T.e + 2 → pubF (T.K i) ≠ pubF k) (h2 : ∀ d ∈ A.draws, pubF d ≠ pubF k) (h3 : ∀ d ∈ B.draws, pubF d ≠ pubF k) : Snc T (laidS A k) B l := by
  have hm : ∀ d, d ∈ (laidS A k).draws → d ∈ A.draws ∨ d = k := fun d hd => by
    have hd' : d ∈ A.draws ++ [k] := hd
    rcases List.mem_append.1 hd' with q | q
    · exact Or.inl q
    · exact Or.inr (List.mem_singleton.1 q)
  refine ⟨laidS_wf h.wa k hk hn, h.wb, ⟨h.sa.self, h.sa.sd0, h.sa.sd⟩, ⟨h.ra.th, h.ra.pa, h.ra.rd0, h.ra.rd, h.ra.sv, h.ra.nd, h.ra.ln⟩, h.sb, h.rb, h.roA, h.roB, h.ch, h.ms, h.uq, h.len, h.pos, h.top, ⟨h.dst.inj, ?_, h.dst.dB, ?_, h.dst.pB, ?_⟩, h.oldA, h.oldB, h.newA, h.newB⟩
  · intro d hd i a b
    rcases hm d hd with q | q
    · exact h.dst.dA d q i a b
    · rw [q]; exact fun e => h1 i a b e.symm
  · show (A.draws ++ [k]).Pairwise _
    rw [List.pairwise_append]
    refine ⟨h.dst.pA, List.pairwise_singleton _ _, fun a ha b hb => ?_⟩
    rw [List.mem_singleton.1 hb]; exact h2 a ha
  · intro a ha b hb
    rcases hm a ha with q | q
    · exact h.dst.ab a q b hb
    · rw [q]; exact fun e => h3 b hb e.symm
theorem Snc.layB {T : Tk} {A B : Sd} {l : List Mg} (h : Snc T A B l) {k : ByteArray} (hk : k.size = 32) (hn : B.draws.length < 8) (h1 : ∀ i, 1 ≤ i → i ≤ T.e + 2 → pubF (T.K i) ≠ pubF k) (h2 : ∀ d ∈ B.draws, pubF d ≠ pubF k) (h3 : ∀ d ∈ A.draws, pubF d ≠ pubF k) : Snc T A (laidS B k) l := by
  have hm : ∀ d, d ∈ (laidS B k).draws → d ∈ B.draws ∨ d = k := fun d hd => by
    have hd' : d ∈ B.draws ++ [k] := hd
    rcases List.mem_append.1 hd' with q | q
    · exact Or.inl q
    · exact Or.inr (List.mem_singleton.1 q)
  refine ⟨h.wa, laidS_wf h.wb k hk hn, h.sa, h.ra, ⟨h.sb.self, h.sb.sd0, h.sb.sd⟩, ⟨h.rb.th, h.rb.pa, h.rb.rd0, h.rb.rd, h.rb.sv, h.rb.nd, h.rb.ln⟩, h.roA, h.roB, h.ch, h.ms, h.uq, h.len, h.pos, h.top, ⟨h.dst.inj, h.dst.dA, ?_, h.dst.pA, ?_, ?_⟩, h.oldA, h.oldB, h.newA, h.newB⟩
  · intro d hd i a b
    rcases hm d hd with q | q
    · exact h.dst.dB d q i a b
    · rw [q]; exact fun e => h1 i a b e.symm
  · show (B.draws ++ [k]).Pairwise _
    rw [List.pairwise_append]
    refine ⟨h.dst.pB, List.pairwise_singleton _ _, fun a ha b hb => ?_⟩
    rw [List.mem_singleton.1 hb]; exact h2 a ha
  · intro a ha b hb
    rcases hm b hb with q | q
    · exact h.dst.ab a ha b q
    · rw [q]; exact h3 a ha
theorem ne_of_new {ps : List ByteArray} {p q : ByteArray} (hp : p ∈ ps) (hq : ps.any (fun t => decide (t = q)) = false) : p ≠ q := fun e => by
  have := List.any_eq_false.1 hq p hp
  simp [e] at this
section
variable {E O : Sd} {ls : List Lm} {ps : List ByteArray}
theorem Talk.wfE (h : Talk E O ls ps) : E.Wf := by
  obtain ⟨T, l, ⟨_, q⟩ | ⟨_, q⟩, _⟩ := h
  · exact q.wa
  · exact q.wb
theorem Talk.wfO (h : Talk E O ls ps) : O.Wf := by
  obtain ⟨T, l, ⟨_, q⟩ | ⟨_, q⟩, _⟩ := h
  · exact q.wb
  · exact q.wa
theorem Talk.layE (h : Talk E O ls ps) {k : ByteArray} (hk : k.size = 32) (hn : E.draws.length < 8) (hf : ps.any (fun t => decide (t = pubF k)) = false) : Talk (laidS E k) O ls (ps ++ [pubF k]) := by
  obtain ⟨T, l, hs, e, hp⟩ := h
  have g1 : ∀ i, 1 ≤ i → i ≤ T.e + 2 → pubF (T.K i) ≠ pubF k := fun i a b => ne_of_new (hp.k i a b) hf
  have g2 : ∀ d ∈ E.draws, pubF d ≠ pubF k := fun d hd => ne_of_new (hp.e d hd) hf
  have g3 : ∀ d ∈ O.draws, pubF d ≠ pubF k := fun d hd => ne_of_new (hp.o d hd) hf
  refine ⟨T, l, ?_, e, fun i a b => List.mem_append_left _ (hp.k i a b), fun d hd => ?_, fun d hd => List.mem_append_left _ (hp.o d hd)⟩
  · rcases hs with ⟨q1, q2⟩ | ⟨q1, q2⟩
    · exact Or.inl ⟨q1, q2.layA hk hn g1 g2 g3⟩
    · exact Or.inr ⟨q1, q2.layB hk hn g1 g2 g3⟩
  · have hd' : d ∈ E.draws ++ [k] := hd
    rcases List.mem_append.1 hd' with q | q
    · exact List.mem_append_left _ (hp.e d q)
    · rw [List.mem_singleton.1 q]; exact List.mem_append_right _ (List.mem_singleton.2 rfl)
theorem Talk.layO (h : Talk E O ls ps) {k : ByteArray} (hk : k.size = 32) (hn : O.draws.length < 8) (hf : ps.any (fun t => decide (t = pubF k)) = false) : Talk E (laidS O k) ls (ps ++ [pubF k]) := by
  obtain ⟨T, l, hs, e, hp⟩ := h
  have g1 : ∀ i, 1 ≤ i → i ≤ T.e + 2 → pubF (T.K i) ≠ pubF k := fun i a b => ne_of_new (hp.k i a b) hf
  have g2 : ∀ d ∈ O.draws, pubF d ≠ pubF k := fun d hd => ne_of_new (hp.o d hd) hf
  have g3 : ∀ d ∈ E.draws, pubF d ≠ pubF k := fun d hd => ne_of_new (hp.e d hd) hf
  refine ⟨T, l, ?_, e, fun i a b => List.mem_append_left _ (hp.k i a b), fun d hd => List.mem_append_left _ (hp.e d hd), fun d hd => ?_⟩
  · rcases hs with ⟨q1, q2⟩ | ⟨q1, q2⟩
    · exact Or.inl ⟨q1, q2.layB hk hn g1 g2 g3⟩
    · exact Or.inr ⟨q1, q2.layA hk hn g1 g2 g3⟩
  · have hd' : d ∈ O.draws ++ [k] := hd
    rcases List.mem_append.1 hd' with q | q
    · exact List.mem_append_left _ (hp.o d q)
    · rw [List.mem_singleton.1 q]; exact List.mem_append_right _ (List.mem_singleton.2 rfl)
theorem Talk.noted (h : Talk E O ls ps) (p : ByteArray) : Talk E O ls (ps ++ [p]) := by
  obtain ⟨T, l, hs, e, hp⟩ := h
  exact ⟨T, l, hs, e, fun i a b => List.mem_append_left _ (hp.k i a b), fun d hd => List.mem_append_left _ (hp.e d hd), fun d hd => List.mem_append_left _ (hp.o d hd)⟩
end
theorem Talk.init {secret k l : ByteArray} (hs : secret.size = 32) (hk : k.size = 32) (hl : l.size = 32) (hne : pubF l ≠ pubF k) : Talk (startS secret (pubF l) k) (waitS secret l) [] [pubF l, pubF k] := by
  refine ⟨⟨0, fun i => if i = 1 then l else k, fun _ => rootC secret (dhF k (pubF l)), fun _ => 0, secret⟩, [], Or.inl ⟨rfl, ?_⟩, rfl, ?_, fun d hd => (by cases hd), fun d hd => (by cases hd)⟩
  · refine ⟨startS_wf (pubF_size _) hk, waitS_wf hs hl, ⟨rfl, fun q => absurd (show 0 + 2 < 2 from q) (by decide), fun _ => ⟨rfl, rfl, rfl⟩⟩, ⟨rfl, rfl, fun _ => ⟨rfl, rfl⟩, fun q => absurd (show 2 ≤ 0 + 1 from q) (by decide), fun k hk => (by cases hk), List.Pairwise.nil, Nat.zero_le _⟩, ⟨rfl, fun _ => ⟨rfl, rfl, rfl⟩, fun q => absurd (show 2 ≤ 0 + 1 from q) (by decide)⟩, ⟨rfl, rfl, fun _ => ⟨rfl, rfl⟩, fun q => absurd (show 2 ≤ 0 from q) (by decide), fun k hk => (by cases hk), List.Pairwise.nil, Nat.zero_le _⟩, rfl, rfl, rfl, fun m hm => (by cases hm), List.Pairwise.nil, rfl, fun i hi => absurd hi (by simp), fun _ => Nat.zero_le _, ⟨?_, fun d hd => (by cases hd), fun d hd => (by cases hd), List.Pairwise.nil, List.Pairwise.nil, fun d hd => (by cases hd)⟩, fun m hm => (by cases hm), fun m hm => (by cases hm), fun _ m hm => (by cases hm), fun _ m hm => (by cases hm)⟩
    intro i j a b c d e
    have b' : i ≤ 2 := b
    have d' : j ≤ 2 := d
    have e' : pubF (if i = 1 then l else k) = pubF (if j = 1 then l else k) := e
    by_cases i1 : i = 1
    · by_cases j1 : j = 1
      · omega
      · rw [if_pos i1, if_neg j1] at e'; exact absurd e' hne
    · by_cases j1 : j = 1
      · rw [if_neg i1, if_pos j1] at e'; exact absurd e'.symm hne
      · omega
  · intro i a b
    show pubF (if i = 1 then l else k) ∈ [pubF l, pubF k]
    split
    · exact List.mem_cons_self
    · exact List.mem_cons_of_mem _ (List.mem_singleton.2 rfl)
end Go.Msg
namespace Go.Msg
open Go.RowKit Go.Proofs.YteghoooelgcpkaaGreatDoor
theorem MI.ns_lt {T : Tk} {m : Mg} (h : MI T m) (ht : ∀ i, T.N i ≤ 300) : m.x0.ns < 300 := by
  have := h.nn
  have := ht m.i
  rw [h.ns]; omega
theorem Lm.of_of (i : Nat) (x : Sd) (t d : ByteArray) {b : Bool} (h : decide (i % 2 = 1) = b) : Lm.of (Mg.of i x t d) = ⟨b, msgF x t d, t, d, false, keptB x⟩ := by subst h; rfl
theorem u16_ext {a b : ByteArray} {i : Nat} (h : a.extract i (i + 2) = b.extract i (i + 2)) : u16F a i = u16F b i := by
  unfold u16F
  rw [h]
theorem fresh_of {x y : Sd} (hx : x.Wf) (hy : y.Wf) (nx : x.ns < 300) (ny : y.ns < 300) {t d t' d' : ByteArray} (ht : t.size ≤ 200) (ht' : t'.size ≤ 200) (h : ¬ (pubF x.self = pubF y.self ∧ x.ns = y.ns)) : ¬ ((msgF x t d).extract 2 34 = (msgF y t' d').extract 2 34 ∧ (msgF x t d).extract 36 38 = (msgF y t' d').extract 36 38) := by
  rintro ⟨h1, h2⟩
  obtain ⟨_, p1⟩ := msgF_read hx nx t d ht
  obtain ⟨_, p2⟩ := msgF_read hy ny t' d' ht'
  refine h ⟨?_, ?_⟩
  · have e1 := ptF_point (msgF x t d)
    have e2 := ptF_point (msgF y t' d')
    rw [p1] at e1; rw [p2] at e2
    simp only at e1 e2
    rw [e1, e2, h1]
  · have e1 := ptF_n (msgF x t d)
    have e2 := ptF_n (msgF y t' d')
    rw [p1] at e1; rw [p2] at e2
    simp only at e1 e2
    rw [e1, e2, u16_ext (i := 36) h2]
section
variable {E O : Sd} {ls : List Lm} {ps : List ByteArray}
theorem lm_mem {T : Tk} {l : List Mg} {x : Sd} (hm : ∀ m ∈ l, MI T m) (ht : ∀ i, T.N i ≤ 300) (hx : x.Wf) (hn : x.ns ≠ 300) {text data : ByteArray} (hs : text.size ≤ 200) (h : ∀ m ∈ l, ¬ (pubF m.x0.self = pubF x.self ∧ m.x0.ns = x.ns)) :
    ∀ c ∈ l.map Lm.of, ¬ (c.bytes.extract 2 34 = (msgF x text data).extract 2 34 ∧ c.bytes.extract 36 38 = (msgF x text data).extract 36 38) := by
  intro c hc
  obtain ⟨m, hm', rfl⟩ := List.mem_map.1 hc
  have mi := hm m hm'
  exact fresh_of mi.wf hx (mi.ns_lt ht) (by have := hx.ns; omega) mi.tx hs (h m hm')
theorem Talk.sayE (h : Talk E O ls ps) (text data : ByteArray) (ht : text.size ≤ 200) (hd : data.size ≤ 100) (h0 : E.send ≠ ⟨#[]⟩) (hn : E.ns ≠ 300) :
    Talk (saidS E) O (ls ++ [⟨false, msgF E text data, text, data, false, keptB E⟩]) ps ∧ ∀ c ∈ ls, ¬ (c.bytes.extract 2 34 = (msgF E text data).extract 2 34 ∧ c.bytes.extract 36 38 = (msgF E text data).extract 36 38) := by
  have hw := h.wfE
  obtain ⟨T, l, hs, rfl, hp⟩ := h
  rcases hs with ⟨q1, q2⟩ | ⟨q1, q2⟩
  · obtain ⟨g1, g2⟩ := q2.sayA text data ht hd hn
    refine ⟨⟨T.say T.e, l ++ [Mg.of T.e E text data], Or.inl ⟨q1, g1⟩, ?_, hp.k, hp.e, hp.o⟩, lm_mem q2.ms q2.top hw hn ht g2⟩
    have : decide (T.e % 2 = 1) = false := decide_eq_false (by omega)
    rw [List.map_append, List.map_singleton, Lm.of_of _ _ _ _ this]
  · obtain ⟨g1, g3, g2⟩ := q2.sayB text data ht hd h0 hn
    refine ⟨⟨T.say (T.e - 1), l ++ [Mg.of (T.e - 1) E text data], Or.inr ⟨q1, g1⟩, ?_, hp.k, hp.e, hp.o⟩, lm_mem q2.ms q2.top hw hn ht g2⟩
    have : decide ((T.e - 1) % 2 = 1) = false := decide_eq_false (by omega)
    rw [List.map_append, List.map_singleton, Lm.of_of _ _ _ _ this]
theorem Talk.sayO (h : Talk E O ls ps) (text data : ByteArray) (ht : text.size ≤ 200) (hd : data.size ≤ 100) (h0 : O.send ≠ ⟨#[]⟩) (hn : O.ns ≠ 300) :
    Talk E (saidS O) (ls ++ [⟨true, msgF O text data, text, data, false, keptB O⟩]) ps ∧ ∀ c ∈ ls, ¬ (c.bytes.extract 2 34 = (msgF O text data).extract 2 34 ∧ c.bytes.extract 36 38 = (msgF O text data).extract 36 38) := by
  have hw := h.wfO
  obtain ⟨T, l, hs, rfl, hp⟩ := h
  rcases hs with ⟨q1, q2⟩ | ⟨q1, q2⟩
  · obtain ⟨g1, g3, g2⟩ := q2.sayB text data ht hd h0 hn
    refine ⟨⟨T.say (T.e - 1), l ++ [Mg.of (T.e - 1) O text data], Or.inl ⟨q1, g1⟩, ?_, hp.k, hp.e, hp.o⟩, lm_mem q2.ms q2.top hw hn ht g2⟩
    have : decide ((T.e - 1) % 2 = 1) = true := decide_eq_true (by omega)
    rw [List.map_append, List.map_singleton, Lm.of_of _ _ _ _ this]
  · obtain ⟨g1, g2⟩ := q2.sayA text data ht hd hn
    refine ⟨⟨T.say T.e, l ++ [Mg.of T.e O text data], Or.inr ⟨q1, g1⟩, ?_, hp.k, hp.e, hp.o⟩, lm_mem q2.ms q2.top hw hn ht g2⟩
    have : decide (T.e % 2 = 1) = true := decide_eq_true (by omega)
    rw [List.map_append, List.map_singleton, Lm.of_of _ _ _ _ this]
structure Sent (c : Lm) (x0 : Sd) : Prop where
  wf : x0.Wf
  ns : x0.ns < 300
  bytes : c.bytes = msgF x0 c.text c.data
  before : c.before = keptB x0
  tx : c.text.size ≤ 200
  dt : c.data.size ≤ 100
def Heard (x : Sd) (c : Lm) (K b data : ByteArray) (n : Nat) (P : Sd → Prop) : Prop :=
  (∃ e : Int, e ≠ 0 ∧ hearS x b data = (x, ⟨#[]⟩, e) ∧ (tagF K (data ++ (ptF b).head) (ptF b).turned ≠ (ptF b).tag ∨ ((c.read = true → e = 6) ∧ (n ≤ 20 → c.read = true)))) ∨
  ∃ y, hearS x b data = (y, turnF K (ptF b).turned, 0) ∧ tagF K (data ++ (ptF b).head) (ptF b).turned = (ptF b).tag ∧ c.read = false ∧ P y
theorem map_set_of {l : List Mg} {k : Nat} {m : Mg} : (l.set k { m with read := true }).map Lm.of = (l.map Lm.of).set k { Lm.of m with read := true } := by
  rw [List.map_set]; rfl
theorem Talk.hear (h : Talk E O ls ps) {k : Nat} {c : Lm} (hc : ls[k]? = some c) : ∃ x0, Sent c x0 ∧ ∀ b data, IsMsg b → (ptF b).point = (ptF c.bytes).point → (ptF b).n = (ptF c.bytes).n → (ptF b).ahead = (ptF c.bytes).ahead →
    (c.odd = true → E.draws ≠ [] → Heard E c (keyF x0.send) b data ls.length (fun y => Talk y O (ls.set k { c with read := true }) ps)) ∧
    (c.odd = false → O.draws ≠ [] → Heard O c (keyF x0.send) b data ls.length (fun y => Talk E y (ls.set k { c with read := true }) ps)) := by
  obtain ⟨T, l, hs, rfl, hp⟩ := h
  rw [List.getElem?_map] at hc
  obtain ⟨m, hm, rfl⟩ := Option.map_eq_some_iff.1 hc
  have hms : MI T m ∧ ∀ i, T.N i ≤ 300 := by
    rcases hs with ⟨_, q⟩ | ⟨_, q⟩
    · exact ⟨q.ms m (List.mem_of_getElem? hm), q.top⟩
    · exact ⟨q.ms m (List.mem_of_getElem? hm), q.top⟩
  obtain ⟨mi, top⟩ := hms
  have hns := mi.ns_lt top
  obtain ⟨z1, z2⟩ := msgF_read mi.wf hns m.text m.data mi.tx
  have hK : keyF m.x0.send = keyM T m.i m.n := by unfold keyM; rw [mi.send]
  refine ⟨m.x0, ⟨mi.wf, hns, rfl, rfl, mi.tx, mi.dt⟩, fun b data hb e1 e2 e3 => ?_⟩
  have e1' : (ptF b).point = pubF (T.K (m.i + 2)) := by rw [e1, show (Lm.of m).bytes = msgF m.x0 m.text m.data from rfl, z2, mi.self]
  have e2' : (ptF b).n = m.n := by rw [e2, show (Lm.of m).bytes = msgF m.x0 m.text m.data from rfl, z2]; exact mi.ns
  have e3' : (ptF b).ahead = pnN T.N m.i := by rw [e3, show (Lm.of m).bytes = msgF m.x0 m.text m.data from rfl, z2]; exact mi.pn
  have hie := mi.ie
  rw [hK, List.length_map]
  have fA : ∀ A B, Snc T A B l → m.i % 2 = (T.e + 1) % 2 → ∀ P : Sd → Prop, (∀ y, Still A y → Snc T y B (l.set k { m with read := true }) → P y) → Heard A (Lm.of m) (keyM T m.i m.n) b data l.length P := fun A B q par P hP => by
    rcases q.hearA hm par hb e1' e2' data with ⟨c, c0, g1, g2⟩ | ⟨y, g1, g2, g3, g4, g5⟩
    · exact Or.inl ⟨c, c0, g1, g2⟩
    · exact Or.inr ⟨y, g1, g2, g3, hP y g4 g5⟩
  have fB : ∀ A B, Snc T A B l → m.i % 2 = T.e % 2 → B.draws ≠ [] → ∀ P : Sd → Prop, (∀ y, Still B y → Snc T A y (l.set k { m with read := true }) → P y) → (∀ d rest, B.draws = d :: rest → Snc (T.turn d A.root) (newSide B (ptF b) d) A (l.set k { m with read := true }) → P (newSide B (ptF b) d)) → Heard B (Lm.of m) (keyM T m.i m.n) b data l.length P := fun A B q par dr P hP hN => by
    by_cases hlt : m.i < T.e
    · rcases q.hearB hm par hlt hb e1' e2' data with ⟨c, c0, g1, g2⟩ | ⟨y, g1, g2, g3, g4, g5⟩
      · exact Or.inl ⟨c, c0, g1, g2⟩
      · exact Or.inr ⟨y, g1, g2, g3, hP y g4 g5⟩
    · rcases q.hearN hm (by omega) hb e1' e2' e3' data with ⟨c, c0, g1, g2⟩ | ⟨d, rest, g0, g1, g2, g3, g5⟩
      · refine Or.inl ⟨c, c0, g1, ?_⟩
        rcases g2 with g2 | ⟨g2, g3⟩
        · exact Or.inl g2
        · exact Or.inr ⟨g2, fun z => g3 z dr⟩
      · exact Or.inr ⟨_, g1, g2, g3, hN d rest g0 g5⟩
  have pin : ∀ d (A B : Sd) (r : ByteArray), d ∈ B.draws → (∀ u ∈ B.draws, pubF u ∈ ps) → ∀ i, 1 ≤ i → i ≤ (T.turn d r).e + 2 → pubF ((T.turn d r).K i) ∈ ps := fun d A B r hd hB i a z => by
    have z' : i ≤ T.e + 3 := z
    by_cases q : i = T.e + 3
    · rw [q, turn_Kd]; exact hB d hd
    · rw [turn_K T d r (by omega)]; exact hp.k i a (by omega)
  constructor
  · intro ho dr
    have hodd : m.i % 2 = 1 := of_decide_eq_true ho
    rcases hs with ⟨q1, q2⟩ | ⟨q1, q2⟩
    · exact fA E O q2 (by omega) _ (fun y st g => ⟨T, _, Or.inl ⟨q1, g⟩, map_set_of.symm, hp.k, fun d hd => hp.e d (by rw [← st.draws]; exact hd), hp.o⟩)
    · refine fB O E q2 (by omega) dr _ (fun y st g => ⟨T, _, Or.inr ⟨q1, g⟩, map_set_of.symm, hp.k, fun d hd => hp.e d (by rw [← st.draws]; exact hd), hp.o⟩) (fun d rest hd g => ⟨_, _, Or.inl ⟨by show (T.e + 1) % 2 = 0; omega, g⟩, map_set_of.symm, pin d O E _ (by rw [hd]; exact List.mem_cons_self) hp.e, fun u hu => hp.e u ?_, hp.o⟩)
      have hu' : u ∈ E.draws.drop 1 := hu
      exact List.mem_of_mem_drop hu'
  · intro ho dr
    have hev : m.i % 2 ≠ 1 := of_decide_eq_false ho
    rcases hs with ⟨q1, q2⟩ | ⟨q1, q2⟩
    · refine fB E O q2 (by omega) dr _ (fun y st g => ⟨T, _, Or.inl ⟨q1, g⟩, map_set_of.symm, hp.k, hp.e, fun d hd => hp.o d (by rw [← st.draws]; exact hd)⟩) (fun d rest hd g => ⟨_, _, Or.inr ⟨by show (T.e + 1) % 2 = 1; omega, g⟩, map_set_of.symm, pin d E O _ (by rw [hd]; exact List.mem_cons_self) hp.o, hp.e, fun u hu => hp.o u ?_⟩)
      have hu' : u ∈ O.draws.drop 1 := hu
      exact List.mem_of_mem_drop hu'
    · exact fA O E q2 (by omega) _ (fun y st g => ⟨T, _, Or.inr ⟨q1, g⟩, map_set_of.symm, hp.k, hp.e, fun d hd => hp.o d (by rw [← st.draws]; exact hd)⟩)
end
end Go.Msg
