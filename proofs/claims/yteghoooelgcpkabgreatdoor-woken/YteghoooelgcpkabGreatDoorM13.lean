import Derived.Test.YteghoooelgcpkabGreatDoorM00
import Derived.Test.YteghoooelgcpkabGreatDoorM12
namespace Go.Msg
def toF (a : Int) : Fq := Fin.ofNat _ (a % P25519).toNat
theorem p_nat : P25519 = ((57896044618658097711785492504343953926634992332820282019728792003956564819949 : Nat) : Int) := by decide +kernel
theorem p_pos : (0 : Int) < P25519 := by decide
theorem toF_val (a : Int) : ((toF a).val : Int) = a % P25519 := by
  have h1 := Int.emod_nonneg a (show P25519 ≠ 0 by decide)
  have h2 := Int.emod_lt_of_pos a p_pos
  show (((a % P25519).toNat % _ : Nat) : Int) = _
  rw [Int.natCast_emod, Int.toNat_of_nonneg h1, ← p_nat]
  exact Int.emod_eq_of_lt h1 h2
theorem toF_ext {a : Int} {b : Fq} (h : a % P25519 = (b.val : Int)) : toF a = b := by
  apply Fin.ext
  have := toF_val a
  rw [h] at this
  exact Int.ofNat.inj this
theorem toF_eq {a b : Int} : toF a = toF b ↔ a % P25519 = b % P25519 := by
  constructor
  · intro h; rw [← toF_val, ← toF_val, h]
  · intro h; exact toF_ext (by rw [toF_val, h])
theorem toF_mod (a : Int) : toF (a % P25519) = toF a := toF_eq.2 (Int.emod_emod ..)
theorem toF_mul (a b : Int) : toF (a * b) = toF a * toF b := by
  refine toF_ext ?_
  rw [Fin.val_mul, Int.natCast_emod, Int.natCast_mul, toF_val, toF_val, ← p_nat, ← Int.mul_emod]
theorem toF_add (a b : Int) : toF (a + b) = toF a + toF b := by
  refine toF_ext ?_
  rw [Fin.val_add, Int.natCast_emod, Int.natCast_add, toF_val, toF_val, ← p_nat, ← Int.add_emod]
theorem toF_sub (a b : Int) : toF (a - b) = toF a - toF b := by
  have h : toF (a - b) + toF b = toF a := by rw [← toF_add]; congr 1; omega
  generalize toF (a - b) = x at *
  generalize toF a = y at *
  generalize toF b = z at *
  grobner
theorem toF_0 : toF 0 = 0 := toF_ext (by decide)
theorem toF_1 : toF 1 = 1 := toF_ext (by decide +kernel)
theorem toF_4 : toF 4 = 4 := toF_ext (by decide +kernel)
theorem toF_A : toF 486662 = 486662 := toF_ext (by decide +kernel)
def Rep (X Z : Fq) (a : Ed) : Prop := X - Z = a.y * (X + Z) ∧ X + Z ≠ 0
theorem twice_alg {X Z x y d k A : Fq} (hA : A = 4 * k - 2) (hk : k * d = k - 1) (hr : X - Z = y * (X + Z)) (e : x * x + y * y = 1 + d * (x * x * (y * y))) :
    ((X * X - Z * Z) * (X * X - Z * Z) - 4 * (X * Z) * (X * X + A * (X * Z) + Z * Z)) * (1 - d * x * x * y * y) = (y * y - x * x) * ((X * X - Z * Z) * (X * X - Z * Z) + 4 * (X * Z) * (X * X + A * (X * Z) + Z * Z)) := by
  obtain ⟨S, hS⟩ : ∃ S, S = X + Z := ⟨_, rfl⟩
  have h2X : 2 * X = S * (1 + y) := by grobner
  have h2Z : 2 * Z = S * (1 - y) := by grobner
  have t1 : 4 * ((X * X - Z * Z) * (X * X - Z * Z)) = 4 * (S * S * (S * S) * (y * y)) := by grobner
  have t2 : 4 * (4 * (X * Z) * (X * X + A * (X * Z) + Z * Z)) = 4 * (S * S * (S * S) * ((1 - y * y) * (k - (k - 1) * (y * y)))) := by
    have a1 : 4 * (X * Z) = S * S * (1 - y * y) := by grobner
    have a2 : 4 * (X * X + A * (X * Z) + Z * Z) = S * S * (4 * (k - (k - 1) * (y * y))) := by
      have b1 : 4 * (X * X + Z * Z) = S * S * (2 + 2 * (y * y)) := by grobner
      subst hA
      grobner
    grobner
  have key : (y * y - (1 - y * y) * (k - (k - 1) * (y * y))) * (1 - d * x * x * y * y) = (y * y - x * x) * (y * y + (1 - y * y) * (k - (k - 1) * (y * y))) := by grobner
  have f4 : (4 : Fq) ≠ 0 := by decide
  have u1 := fq_cancel f4 t1
  have u2 := fq_cancel f4 t2
  rw [u1, u2]
  clear h2X h2Z hr hS hA hk e t1 t2 u1 u2 f4
  generalize (1 - y * y) * (k - (k - 1) * (y * y)) = W at *
  generalize S * S * (S * S) = Q at *
  generalize 1 - d * x * x * y * y = R at *
  generalize y * y = Y at *
  generalize x * x = V at *
  have h : (Q * Y - Q * W) * R = Q * ((Y - W) * R) := by grobner
  rw [h, key]
  grobner
theorem twice_pos {X Z y k A : Fq} (hk0 : k ≠ 0) (hA : A = 4 * k - 2) (hr : X - Z = y * (X + Z)) (hs : X + Z ≠ 0) (h1 : (X * X - Z * Z) * (X * X - Z * Z) = 0) (h2 : 4 * (X * Z) * (X * X + A * (X * Z) + Z * Z) = 0) : False := by
  have h3 : X * X - Z * Z = 0 := by rcases fq_mul h1 with q | q <;> exact q
  have h4 : X - Z = 0 := by
    rcases fq_mul (show (X - Z) * (X + Z) = 0 by grobner) with q | q
    · exact q
    · exact absurd q hs
  have h5 : X = Z := by grobner
  subst h5
  have h6 : 4 * (4 * (X * X * (X * X) * k)) = 0 := by subst hA; grobner
  have f4 : (4 : Fq) ≠ 0 := by decide
  have hX : X ≠ 0 := fun q => hs (by rw [q]; decide)
  exact fq_ne f4 (fq_ne f4 (fq_ne (fq_ne (fq_ne hX hX) (fq_ne hX hX)) hk0)) h6
theorem k_ne : (121666 : Fq) ≠ 0 := by decide +kernel
theorem A_eq : (486662 : Fq) = 4 * 121666 - 2 := by decide +kernel
theorem kd_eq : (121666 : Fq) * dE = 121666 - 1 := by decide +kernel
theorem rep_twice {X Z : Fq} {a : Ed} (ha : a.On) (h : Rep X Z a) : Rep ((X * X - Z * Z) * (X * X - Z * Z)) (4 * (X * Z) * (X * X + 486662 * (X * Z) + Z * Z)) (a.add a) := by
  have y2 := Ed.add_y ha ha
  have n := (Ed.ne ha ha).2
  have key := twice_alg A_eq kd_eq h.1 ha
  have e : Ed.D a a = dE * a.x * a.x * a.y * a.y := rfl
  rw [← e] at key
  have tp := fun h1 h2 => twice_pos (k := 121666) k_ne A_eq h.1 h.2 h1 h2
  generalize (X * X - Z * Z) * (X * X - Z * Z) = T1 at *
  generalize 4 * (X * Z) * (X * X + 486662 * (X * Z) + Z * Z) = T2 at *
  generalize Ed.D a a = D at *
  have e1 : T1 - T2 = (a.add a).y * (T1 + T2) := by
    refine fq_cancel n ?_
    rw [← y2] at key
    generalize (a.add a).y = v at *
    grobner
  refine ⟨e1, fun q => ?_⟩
  rw [q] at e1
  have z1 : T1 = 0 := by
    refine fq_cancel fq_two ?_
    generalize (a.add a).y = v at *
    grobner
  exact tp z1 (by grobner)
theorem between_poly {x1 y1 x2 y2 d D : Fq} (e1 : x1 * x1 + y1 * y1 = 1 + d * (x1 * x1 * (y1 * y1))) (e2 : x2 * x2 + y2 * y2 = 1 + d * (x2 * x2 * (y2 * y2))) (hD : D = d * x1 * x2 * y1 * y2) :
    (y1 + y2) * (y1 + y2) * ((1 - D) - (y1 * y2 - x1 * x2)) * ((1 + D) - (y1 * y2 + x1 * x2)) = (y1 - y2) * (y1 - y2) * ((1 - D) + (y1 * y2 - x1 * x2)) * ((1 + D) + (y1 * y2 + x1 * x2)) := by
  subst hD; grobner
theorem between_alg {y1 y2 y3 yc D U N M : Fq} (h : (y1 + y2) * (y1 + y2) * ((1 - D) - N) * ((1 + D) - M) = (y1 - y2) * (y1 - y2) * ((1 - D) + N) * ((1 + D) + M)) (n1 : 1 + D ≠ 0) (n2 : 1 - D ≠ 0) (h3 : y3 * (1 - D) = N) (hc : yc * (1 + D) = M) (hU : U - 1 = yc * (U + 1)) :
    (y1 + y2) * (y1 + y2) * (1 - y3) = U * ((y1 - y2) * (y1 - y2)) * (1 + y3) := by
  have k3 : (y1 + y2) * (y1 + y2) * (1 - y3) * (1 - yc) = (y1 - y2) * (y1 - y2) * (1 + y3) * (1 + yc) := by
    refine fq_cancel (fq_ne n1 n2) ?_
    subst h3 hc
    grobner
  have nc : 1 - yc ≠ 0 := by
    intro q
    have : yc = 1 := by grobner
    subst this
    have : (2 : Fq) = 0 := by grobner
    exact fq_two this
  refine fq_cancel nc ?_
  grobner
theorem between_half {X1 Z1 X2 Z2 y1 y2 : Fq} (h1 : X1 - Z1 = y1 * (X1 + Z1)) (h2 : X2 - Z2 = y2 * (X2 + Z2)) : 2 * (X1 * X2 - Z1 * Z2) = (X1 + Z1) * (X2 + Z2) * (y1 + y2) ∧ 2 * (X1 * Z2 - Z1 * X2) = (X1 + Z1) * (X2 + Z2) * (y1 - y2) :=
  ⟨by grobner, by grobner⟩
theorem between_scale {X1 Z1 X2 Z2 y1 y2 y3 U : Fq} (h1 : X1 - Z1 = y1 * (X1 + Z1)) (h2 : X2 - Z2 = y2 * (X2 + Z2)) (h : (y1 + y2) * (y1 + y2) * (1 - y3) = U * ((y1 - y2) * (y1 - y2)) * (1 + y3)) :
    (X1 * X2 - Z1 * Z2) * (X1 * X2 - Z1 * Z2) - U * ((X1 * Z2 - Z1 * X2) * (X1 * Z2 - Z1 * X2)) = y3 * ((X1 * X2 - Z1 * Z2) * (X1 * X2 - Z1 * Z2) + U * ((X1 * Z2 - Z1 * X2) * (X1 * Z2 - Z1 * X2))) := by
  obtain ⟨a1, a2⟩ := between_half h1 h2
  have f4 : (4 : Fq) ≠ 0 := by decide
  refine fq_cancel f4 ?_
  generalize X1 * X2 - Z1 * Z2 = P at *
  generalize X1 * Z2 - Z1 * X2 = Q at *
  generalize (X1 + Z1) * (X2 + Z2) = S at *
  grobner
theorem between_pos {X1 Z1 X2 Z2 x1 y1 x2 y2 yc d U : Fq} (h1 : X1 - Z1 = y1 * (X1 + Z1)) (s1 : X1 + Z1 ≠ 0) (h2 : X2 - Z2 = y2 * (X2 + Z2)) (s2 : X2 + Z2 ≠ 0) (e1 : x1 * x1 + y1 * y1 = 1 + d * (x1 * x1 * (y1 * y1))) (e2 : x2 * x2 + y2 * y2 = 1 + d * (x2 * x2 * (y2 * y2)))
    (hc : yc * (1 + d * x1 * x2 * y1 * y2) = y1 * y2 + x1 * x2) (hU : U - 1 = yc * (U + 1)) (hU0 : U ≠ 0) (b1 : (X1 * X2 - Z1 * Z2) * (X1 * X2 - Z1 * Z2) = 0) (b2 : U * ((X1 * Z2 - Z1 * X2) * (X1 * Z2 - Z1 * X2)) = 0) : False := by
  obtain ⟨a1, a2⟩ := between_half h1 h2
  have c1 : X1 * X2 - Z1 * Z2 = 0 := by rcases fq_mul b1 with q | q <;> exact q
  have c2 : X1 * Z2 - Z1 * X2 = 0 := by
    rcases fq_mul b2 with q | q
    · exact absurd q hU0
    · rcases fq_mul q with q | q <;> exact q
  have d1 : y1 + y2 = 0 := by
    rcases fq_mul (show (X1 + Z1) * (X2 + Z2) * (y1 + y2) = 0 by rw [← a1, c1]; decide) with q | q
    · exact absurd q (fq_ne s1 s2)
    · exact q
  have d2 : y1 - y2 = 0 := by
    rcases fq_mul (show (X1 + Z1) * (X2 + Z2) * (y1 - y2) = 0 by rw [← a2, c2]; decide) with q | q
    · exact absurd q (fq_ne s1 s2)
    · exact q
  have z1 : y1 = 0 := fq_cancel fq_two (by grobner)
  have z2 : y2 = 0 := by grobner
  subst z1 z2
  clear h1 h2 a1 a2 b1 b2 c1 c2 d1 d2
  have g : (yc - 1) * (yc + 1) = 0 := by grobner
  rcases fq_mul g with q | q
  · have : yc = 1 := by grobner
    subst this
    exact fq_two (by grobner)
  · have : yc = -1 := by grobner
    subst this
    have : 2 * U = 0 := by grobner
    exact fq_ne fq_two hU0 this
theorem rep_between {X1 Z1 X2 Z2 U : Fq} {a b c : Ed} (ha : a.On) (hb : b.On) (hc : c.On) (hbc : b = a.add c) (h1 : Rep X1 Z1 a) (h2 : Rep X2 Z2 b) (hU : Rep U 1 c) (hU0 : U ≠ 0) :
    Rep ((X1 * X2 - Z1 * Z2) * (X1 * X2 - Z1 * Z2)) (U * ((X1 * Z2 - Z1 * X2) * (X1 * Z2 - Z1 * X2))) (a.add b) := by
  have hcc : c = b.add a.neg := by
    rw [hbc, Ed.add_comm a c, Ed.add_assoc hc ha (Ed.neg_on ha), Ed.add_neg ha, Ed.add_zero]
  have yc : c.y * (1 + Ed.D a b) = a.y * b.y + a.x * b.x := by
    have q := Ed.add_y hb (Ed.neg_on ha)
    rw [← hcc] at q
    have e : Ed.D b a.neg = - Ed.D a b := by
      show dE * b.x * -a.x * b.y * a.y = -(dE * a.x * b.x * a.y * b.y)
      generalize dE = d; grobner
    rw [e] at q
    have nx : a.neg.x = -a.x := rfl
    have ny : a.neg.y = a.y := rfl
    rw [nx, ny] at q
    generalize Ed.D a b = D at *
    grobner
  have y3 := Ed.add_y ha hb
  have n := Ed.ne ha hb
  have k := between_alg (between_poly ha hb (D := Ed.D a b) rfl) n.1 n.2 y3 yc hU.1
  have s := between_scale h1.1 h2.1 k
  refine ⟨s, fun q => ?_⟩
  rw [q] at s
  have bp := fun b1 b2 => between_pos h1.1 h1.2 h2.1 h2.2 ha hb yc hU.1 hU0 b1 b2
  generalize (X1 * X2 - Z1 * Z2) * (X1 * X2 - Z1 * Z2) = T1 at *
  generalize U * ((X1 * Z2 - Z1 * X2) * (X1 * Z2 - Z1 * X2)) = T2 at *
  have z1 : T1 = 0 := by
    refine fq_cancel fq_two ?_
    generalize (a.add b).y = v at *
    clear k bp y3 yc n ha hb hc
    grobner
  exact bp z1 (by clear k bp y3 yc n ha hb hc; grobner)
theorem toF_tw1 (x z : Int) : toF (tw1 x z) = (toF x * toF x - toF z * toF z) * (toF x * toF x - toF z * toF z) := by unfold tw1; rw [toF_mul, toF_sub, toF_mul, toF_mul]
theorem toF_tw2 (x z : Int) : toF (tw2 x z) = 4 * (toF x * toF z) * (toF x * toF x + 486662 * (toF x * toF z) + toF z * toF z) := by
  unfold tw2; rw [toF_mul, toF_mul, toF_add, toF_add, toF_mul x z, toF_mul x x, toF_mul, toF_mul x z, toF_mul z z, toF_4, toF_A]
theorem toF_bt1 (x z p q : Int) : toF (bt1 x z p q) = (toF x * toF p - toF z * toF q) * (toF x * toF p - toF z * toF q) := by unfold bt1; rw [toF_mul, toF_sub, toF_mul, toF_mul]
theorem toF_bt2 (u x z p q : Int) : toF (bt2 u x z p q) = toF u * ((toF x * toF q - toF z * toF p) * (toF x * toF q - toF z * toF p)) := by unfold bt2; rw [toF_mul, toF_mul, toF_sub, toF_mul, toF_mul]
def pre (bit : Nat → Int) : Nat → Nat
  | 0 => 0
  | j + 1 => 2 * pre bit j + (bit (255 - j)).toNat
theorem rep_zero : Rep 1 0 Ed.zero := ⟨by decide +kernel, by decide +kernel⟩
theorem run_rep {a : Ed} (ha : a.On) {u : Int} (hu : Rep (toF u) 1 a) (hu0 : toF u ≠ 0) (bit : Nat → Int) (hb : ∀ i, bit i = 0 ∨ bit i = 1) (j : Nat) :
    Rep (toF (lrun bit u j).n) (toF (lrun bit u j).d) (Ed.mul (pre bit j) a) ∧ Rep (toF (lrun bit u j).m) (toF (lrun bit u j).e) (Ed.mul (pre bit j + 1) a) := by
  induction j with
  | zero =>
    refine ⟨?_, ?_⟩
    · show Rep (toF 1) (toF 0) Ed.zero
      rw [toF_1, toF_0]; exact rep_zero
    · show Rep (toF u) (toF 1) (Ed.zero.add a)
      rw [toF_1, Ed.add_comm, Ed.add_zero]; exact hu
  | succ j ih =>
    obtain ⟨h1, h2⟩ := ih
    have on1 := Ed.mul_on ha (pre bit j)
    have on2 := Ed.mul_on ha (pre bit j + 1)
    have bt := rep_between on1 on2 ha rfl h1 h2 hu hu0
    rw [← Ed.mul_add ha] at bt
    show Rep (toF (lstep u (bit (255 - j)) (lrun bit u j)).n) (toF (lstep u (bit (255 - j)) (lrun bit u j)).d) (Ed.mul (2 * pre bit j + (bit (255 - j)).toNat) a) ∧ Rep (toF (lstep u (bit (255 - j)) (lrun bit u j)).m) (toF (lstep u (bit (255 - j)) (lrun bit u j)).e) (Ed.mul (2 * pre bit j + (bit (255 - j)).toNat + 1) a)
    generalize lrun bit u j = s at *
    generalize pre bit j = k at *
    rcases hb (255 - j) with e | e
    · rw [e]
      have tw := rep_twice on1 h1
      rw [← Ed.mul_add ha] at tw
      unfold lstep
      rw [if_neg (by decide)]
      simp only [toF_mod, toF_tw1, toF_tw2, toF_bt1, toF_bt2]
      refine ⟨?_, ?_⟩
      · rw [show 2 * k + Int.toNat 0 = k + k by simp; omega]; exact tw
      · rw [show 2 * k + Int.toNat 0 + 1 = k + (k + 1) by simp; omega]; exact bt
    · rw [e]
      have tw := rep_twice on2 h2
      rw [← Ed.mul_add ha] at tw
      unfold lstep
      rw [if_pos rfl]
      simp only [toF_mod, toF_tw1, toF_tw2, toF_bt1, toF_bt2]
      refine ⟨?_, ?_⟩
      · rw [show 2 * k + Int.toNat 1 = k + (k + 1) by simp; omega]; exact bt
      · rw [show 2 * k + Int.toNat 1 + 1 = k + 1 + (k + 1) by simp; omega]; exact tw
def uOf (a : Ed) : Fq := (1 + a.y) * fqInv (1 - a.y)
theorem fq_pow0 {n : Nat} (h : 0 < n) : (0 : Fq).val ^ n = 0 := Nat.zero_pow h
theorem fqE_pos : 0 < fqE := by decide
theorem fq_inv0 : fqInv 0 = 0 := by
  unfold fqInv
  rw [fq_pow0 fqE_pos]; decide
theorem rep_u {X Z : Fq} {a : Ed} (h : Rep X Z a) : X * fqInv Z = uOf a := by
  obtain ⟨h1, h2⟩ := h
  unfold uOf
  by_cases hz : Z = 0
  · subst hz
    have hy : a.y = 1 := by
      have : X ≠ 0 := fun q => h2 (by rw [q]; decide)
      refine fq_cancel this ?_
      generalize a.y = y at *
      grobner
    rw [hy, show (1 : Fq) - 1 = 0 by decide, fq_inv0]; grobner
  · have hy : 1 - a.y ≠ 0 := by
      intro q
      have : 2 * Z = 0 := by generalize a.y = y at *; grobner
      exact fq_ne fq_two hz this
    have i1 := fq_inv hz
    have i2 := fq_inv hy
    refine fq_cancel (fq_ne hz hy) ?_
    generalize fqInv Z = p at *
    generalize fqInv (1 - a.y) = q at *
    generalize a.y = y at *
    grobner
theorem u_rep {a : Ed} (h : a.y ≠ 1) : Rep (uOf a) 1 a := by
  have hy : 1 - a.y ≠ 0 := by
    intro q; apply h; generalize a.y = y at *; grobner
  have i := fq_inv hy
  unfold uOf
  refine ⟨?_, fun q => ?_⟩
  · generalize fqInv (1 - a.y) = j at *
    generalize a.y = y at *
    grobner
  · have : (2 : Fq) = 0 := by
      generalize fqInv (1 - a.y) = j at *
      generalize a.y = y at *
      grobner
    exact fq_two this
theorem toF_natCast (n : Nat) : toF (n : Int) = Fin.ofNat _ n := by
  refine toF_ext ?_
  rw [p_nat]
  show _ = ((n % _ : Nat) : Int)
  rw [Int.natCast_emod]
theorem toF_powE (d : Int) : toF (d ^ E2) = fqInv (toF d) := by
  have e : toF (d ^ E2) = toF ((((toF d).val ^ fqE : Nat) : Int)) := by
    rw [toF_eq]
    have h1 : Eqv d ((toF d).val : Int) := by
      show d % P25519 = _ % P25519
      rw [toF_val, Int.emod_emod]
    have h2 := h1.pow E2
    rw [← Int.natCast_pow] at h2
    exact h2
  rw [e, toF_natCast]; rfl
theorem lout_u {a : Ed} (ha : a.On) {u : Int} (hu : Rep (toF u) 1 a) (hu0 : toF u ≠ 0) (bit : Nat → Int) (hb : ∀ i, bit i = 0 ∨ bit i = 1) : toF (lout bit u) = uOf (Ed.mul (pre bit 256) a) := by
  have h := (run_rep ha hu hu0 bit hb 256).1
  unfold lout
  generalize lrun bit u 256 = s at *
  rw [toF_mod, toF_mul, toF_powE]
  exact rep_u h
end Go.Msg
namespace Go.Msg
def bE : Ed := ⟨9771384041963202563870679428059935816164187996444183106833894008023910952347, 46316835694926478169428394003475163141307993866256225615783033603165251855960⟩
theorem bE_on : bE.On := by unfold Ed.On; decide +kernel
theorem toF_9 : toF 9 = 9 := toF_ext (by decide +kernel)
theorem bE_rep : Rep (toF 9) 1 bE := by rw [toF_9]; exact ⟨by decide +kernel, by decide +kernel⟩
theorem nine_ne : toF 9 ≠ 0 := by rw [toF_9]; decide +kernel
def ellN : Nat := 7237005577332262213973186563042994240857116359379907606001950938285454250989
def bitL (i : Nat) : Int := ((ellN / 2 ^ i % 2 : Nat) : Int)
theorem bitL_01 (i : Nat) : bitL i = 0 ∨ bitL i = 1 := by unfold bitL; omega
theorem pre_ell : pre bitL 256 = ellN := by decide +kernel
theorem run_ell : (lrun bitL 9 256).d = 0 := by decide +kernel
theorem y_one {a : Ed} (h : a.On) (hy : a.y = 1) : a = Ed.zero := by
  have h' : a.x * a.x + 1 * 1 = 1 + dE * (a.x * a.x * (1 * 1)) := by unfold Ed.On at h; rw [hy] at h; exact h
  have hd : 1 - dE ≠ 0 := by decide +kernel
  refine Ed.ext' ?_ hy
  show a.x = 0
  rcases fq_mul (show a.x * a.x * (1 - dE) = 0 by generalize dE = d at *; generalize a.x = x at *; grobner) with q | q
  · rcases fq_mul q with q | q <;> exact q
  · exact absurd q hd
theorem y_minus {a : Ed} (h : a.On) (hy : a.y = -1) : a.add a = Ed.zero := by
  have h' : a.x * a.x + -1 * -1 = 1 + dE * (a.x * a.x * (-1 * -1)) := by unfold Ed.On at h; rw [hy] at h; exact h
  have hd : 1 - dE ≠ 0 := by decide +kernel
  have hx : a.x = 0 := by
    rcases fq_mul (show a.x * a.x * (1 - dE) = 0 by generalize dE = d at *; generalize a.x = x at *; grobner) with q | q
    · rcases fq_mul q with q | q <;> exact q
    · exact absurd q hd
  refine y_one (Ed.on_add h h) ?_
  have y := Ed.add_y h h
  have e : Ed.D a a = 0 := by unfold Ed.D; rw [hx]; generalize dE = d; grobner
  rw [e, hx, hy] at y
  generalize (a.add a).y = v at *
  grobner
theorem ell_zero : Ed.mul ellN bE = Ed.zero := by
  have h := (run_rep bE_on bE_rep nine_ne bitL bitL_01 256).1
  rw [pre_ell, run_ell, toF_0] at h
  refine y_one (Ed.mul_on bE_on _) ?_
  obtain ⟨h1, h2⟩ := h
  generalize toF (lrun bitL 9 256).n = X at *
  have hX : X ≠ 0 := fun q => h2 (by rw [q]; decide)
  refine fq_cancel hX ?_
  generalize (Ed.mul ellN bE).y = v at *
  grobner
theorem mul_gcd (m n : Nat) : Ed.mul m bE = Ed.zero → Ed.mul n bE = Ed.zero → Ed.mul (Nat.gcd m n) bE = Ed.zero := by
  induction m, n using Nat.gcd.induction with
  | H0 n => intro _ h; rw [Nat.gcd_zero_left]; exact h
  | H1 m n hm ih =>
    intro h1 h2
    rw [Nat.gcd_rec]
    refine ih ?_ h1
    rw [← Nat.div_add_mod n m, Ed.mul_add bE_on, Nat.mul_comm, Ed.mul_mul bE_on, h1, Ed.mul_zero, Ed.add_comm, Ed.add_zero] at h2
    exact h2
theorem mul_ell (n : Nat) : Ed.mul n bE = Ed.zero ↔ ellN ∣ n := by
  constructor
  · intro h
    apply Classical.byContradiction
    intro q
    have g : Nat.gcd ellN n = 1 := Pr.coprime (p := ellN) prime_l q
    have e := mul_gcd ellN n ell_zero h
    rw [g] at e
    have e' : Ed.zero.add bE = Ed.zero := e
    rw [Ed.add_comm, Ed.add_zero] at e'
    have : bE.y = Ed.zero.y := by rw [e']
    exact absurd this (by decide +kernel)
  · rintro ⟨k, rfl⟩
    rw [Nat.mul_comm, Ed.mul_mul bE_on, ell_zero, Ed.mul_zero]
theorem mul_y (n : Nat) (h : ¬ ellN ∣ n) : (Ed.mul n bE).y ≠ 1 ∧ uOf (Ed.mul n bE) ≠ 0 := by
  have on := Ed.mul_on bE_on n
  have n1 : (Ed.mul n bE).y ≠ 1 := fun q => h ((mul_ell n).1 (y_one on q))
  have n2 : (Ed.mul n bE).y ≠ -1 := fun q => h (by
    have e := y_minus on q
    rw [← Ed.mul_add bE_on, mul_ell, show n + n = 2 * n by omega] at e
    rcases Pr.dvd_mul (p := ellN) prime_l e with q | q
    · exact absurd (Nat.le_of_dvd (by omega) q) (by decide +kernel)
    · exact q)
  refine ⟨n1, fun q => ?_⟩
  have r := u_rep n1
  rw [q] at r
  apply n2
  obtain ⟨r1, r2⟩ := r
  generalize (Ed.mul n bE).y = v at *
  grobner
theorem lout_mul {bit : Nat → Int} (hb : ∀ i, bit i = 0 ∨ bit i = 1) {n : Nat} (hn : ¬ ellN ∣ n) {u : Int} (hu : toF u = uOf (Ed.mul n bE)) : toF (lout bit u) = uOf (Ed.mul (pre bit 256 * n) bE) := by
  obtain ⟨h1, h2⟩ := mul_y n hn
  rw [lout_u (Ed.mul_on bE_on n) (by rw [hu]; exact u_rep h1) (by rw [hu]; exact h2) bit hb, Ed.mul_mul bE_on]
theorem uOf_9 : uOf bE = toF 9 := by
  have := rep_u bE_rep
  rw [fq_inv1] at this
  rw [← this]
  generalize toF 9 = x
  grobner
theorem lout_nine {bit : Nat → Int} (hb : ∀ i, bit i = 0 ∨ bit i = 1) : toF (lout bit 9) = uOf (Ed.mul (pre bit 256) bE) := by
  have h : Ed.mul 1 bE = bE := by show Ed.zero.add bE = bE; rw [Ed.add_comm, Ed.add_zero]
  have := lout_mul hb (n := 1) (by decide +kernel) (u := 9) (by rw [h, uOf_9])
  rw [Nat.mul_one] at this
  exact this
theorem pre_bounds {bit : Nat → Int} (hb : ∀ i, bit i = 0 ∨ bit i = 1) (h255 : bit 255 = 0) (h254 : bit 254 = 1) (j : Nat) : 2 ^ j ≤ pre bit (j + 2) ∧ pre bit (j + 2) < 2 ^ (j + 1) := by
  induction j with
  | zero =>
    have e : pre bit (0 + 2) = 2 * (2 * 0 + (bit 255).toNat) + (bit 254).toNat := rfl
    rw [e, h255, h254]; decide
  | succ j ih =>
    have e : pre bit (j + 1 + 2) = 2 * pre bit (j + 2) + (bit (255 - (j + 2))).toNat := rfl
    rw [e, Nat.pow_succ, Nat.pow_succ]
    rcases hb (255 - (j + 2)) with q | q <;> rw [q] <;> simp <;> omega
theorem pre_clamped {bit : Nat → Int} (hb : ∀ i, bit i = 0 ∨ bit i = 1) (h255 : bit 255 = 0) (h254 : bit 254 = 1) (h0 : bit 0 = 0) (h1 : bit 1 = 0) (h2 : bit 2 = 0) : ¬ ellN ∣ pre bit 256 := by
  obtain ⟨b1, b2⟩ := pre_bounds hb h255 h254 251
  have e : pre bit 256 = 8 * pre bit 253 := by
    have e1 : pre bit 256 = 2 * (2 * (2 * pre bit 253 + (bit 2).toNat) + (bit 1).toNat) + (bit 0).toNat := rfl
    rw [e1, h0, h1, h2]; simp; omega
  intro q
  rw [e] at q
  have hp : Pr ellN := prime_l
  rcases hp.dvd_mul q with q | q
  · exact absurd (Nat.le_of_dvd (by omega) q) (by decide +kernel)
  · have hle := Nat.le_of_dvd (Nat.lt_of_lt_of_le (Nat.two_pow_pos 251) b1) q
    exact absurd (Nat.lt_of_le_of_lt hle b2) (by decide +kernel)
end Go.Msg
