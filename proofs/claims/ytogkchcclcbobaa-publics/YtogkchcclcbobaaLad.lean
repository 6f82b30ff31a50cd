/- Plain mathematics: the ladder. -/
import Derived.Test.YtogkchcclcbobaaFld
import Derived.Test.YtogkchcclcbobaaSeg
namespace Go.Msg
/-- Two numbers that are one modulo the prime. -/
def Eqv (a b : Int) : Prop := a % P25519 = b % P25519
theorem Eqv.refl (a : Int) : Eqv a a := Eq.refl _
theorem Eqv.symm {a b : Int} (h : Eqv a b) : Eqv b a := Eq.symm h
theorem Eqv.trans {a b c : Int} (h : Eqv a b) (k : Eqv b c) : Eqv a c := Eq.trans h k
theorem Eqv.mul {a b c d : Int} (h : Eqv a b) (k : Eqv c d) : Eqv (a * c) (b * d) := mul_cong h k
theorem Eqv.add {a b c d : Int} (h : Eqv a b) (k : Eqv c d) : Eqv (a + c) (b + d) := add_cong h k
theorem Eqv.sub {a b c d : Int} (h : Eqv a b) (k : Eqv c d) : Eqv (a - c) (b - d) := sub_cong h k
theorem Eqv.of_eq {a b : Int} (h : a = b) : Eqv a b := h ▸ Eqv.refl a
theorem Eqv.mod (a : Int) : Eqv (a % P25519) a := Int.emod_emod ..
theorem Eqv.pow {a b : Int} (h : Eqv a b) (n : Nat) : Eqv (a ^ n) (b ^ n) := by
  induction n with
  | zero => rw [Int.pow_zero, Int.pow_zero]; exact Eqv.refl _
  | succ n ih => rw [Int.pow_succ, Int.pow_succ]; exact ih.mul h
def tw1 (x z : Int) : Int := (x * x - z * z) * (x * x - z * z)
def tw2 (x z : Int) : Int := 4 * (x * z) * (x * x + 486662 * (x * z) + z * z)
def bt1 (x z p q : Int) : Int := (x * p - z * q) * (x * p - z * q)
def bt2 (u x z p q : Int) : Int := u * ((x * q - z * p) * (x * q - z * p))
theorem Eqv.tw1 {x z x' z' : Int} (h : Eqv x x') (k : Eqv z z') : Eqv (Msg.tw1 x z) (Msg.tw1 x' z') := ((h.mul h).sub (k.mul k)).mul ((h.mul h).sub (k.mul k))
theorem Eqv.tw2 {x z x' z' : Int} (h : Eqv x x') (k : Eqv z z') : Eqv (Msg.tw2 x z) (Msg.tw2 x' z') :=
  ((Eqv.refl 4).mul (h.mul k)).mul (((h.mul h).add ((Eqv.refl 486662).mul (h.mul k))).add (k.mul k))
theorem Eqv.bt1 {x z p q x' z' p' q' : Int} (h : Eqv x x') (k : Eqv z z') (hp : Eqv p p') (hq : Eqv q q') : Eqv (Msg.bt1 x z p q) (Msg.bt1 x' z' p' q') :=
  ((h.mul hp).sub (k.mul hq)).mul ((h.mul hp).sub (k.mul hq))
theorem Eqv.bt2 {u x z p q u' x' z' p' q' : Int} (hu : Eqv u u') (h : Eqv x x') (k : Eqv z z') (hp : Eqv p p') (hq : Eqv q q') : Eqv (Msg.bt2 u x z p q) (Msg.bt2 u' x' z' p' q') :=
  hu.mul (((h.mul hq).sub (k.mul hp)).mul ((h.mul hq).sub (k.mul hp)))
/-- What the step of package curve makes of four numbers. -/
theorem step_math {X2 Z2 X3 Z3 u a b c d aa bb ee da cb sum df df2 inn in2 nx3 nz3 nx2 nz2 : Int}
    (va : Eqv a (X2 + Z2)) (vb : Eqv b (X2 - Z2)) (vc : Eqv c (X3 + Z3)) (vd : Eqv d (X3 - Z3)) (vaa : Eqv aa (a * a)) (vbb : Eqv bb (b * b)) (vee : Eqv ee (aa - bb)) (vda : Eqv da (d * a)) (vcb : Eqv cb (c * b))
    (vsum : Eqv sum (da + cb)) (vdf : Eqv df (da - cb)) (vdf2 : Eqv df2 (df * df)) (vinn : Eqv inn (121665 * ee)) (vin2 : Eqv in2 (aa + inn)) (vnx3 : Eqv nx3 (sum * sum)) (vnz3 : Eqv nz3 (u * df2)) (vnx2 : Eqv nx2 (aa * bb)) (vnz2 : Eqv nz2 (ee * in2)) :
    Eqv nx2 (tw1 X2 Z2) ∧ Eqv nz2 (tw2 X2 Z2) ∧ Eqv nx3 (4 * bt1 X2 Z2 X3 Z3) ∧ Eqv nz3 (4 * bt2 u X2 Z2 X3 Z3) := by
  have haa := vaa.trans (va.mul va)
  have hbb := vbb.trans (vb.mul vb)
  have hee := vee.trans (haa.sub hbb)
  have hda := vda.trans (vd.mul va)
  have hcb := vcb.trans (vc.mul vb)
  have hsum := vsum.trans (hda.add hcb)
  have hdf := vdf.trans (hda.sub hcb)
  have hin2 := vin2.trans (haa.add (vinn.trans ((Eqv.refl 121665).mul hee)))
  refine ⟨(vnx2.trans (haa.mul hbb)).trans (Eqv.of_eq (by unfold tw1; grind)), (vnz2.trans (hee.mul hin2)).trans (Eqv.of_eq (by unfold tw2; grind)),
    (vnx3.trans (hsum.mul hsum)).trans (Eqv.of_eq (by unfold bt1; grind)), (vnz3.trans ((Eqv.refl u).mul (vdf2.trans (hdf.mul hdf)))).trans (Eqv.of_eq (by unfold bt2; grind))⟩

/-- The pair of a multiple and the next, each x as a fraction. -/
structure Pair where
  n : Int
  d : Int
  m : Int
  e : Int
def lstep (u b : Int) (s : Pair) : Pair :=
  if b = 1 then ⟨bt1 s.n s.d s.m s.e % P25519, bt2 u s.n s.d s.m s.e % P25519, tw1 s.m s.e % P25519, tw2 s.m s.e % P25519⟩
  else ⟨tw1 s.n s.d % P25519, tw2 s.n s.d % P25519, bt1 s.n s.d s.m s.e % P25519, bt2 u s.n s.d s.m s.e % P25519⟩
/-- Behind j steps, the bits from the highest. -/
def lrun (bit : Nat → Int) (u : Int) : Nat → Pair
  | 0 => ⟨1, 0, u, 1⟩
  | j + 1 => lstep u (bit (255 - j)) (lrun bit u j)
def lout (bit : Nat → Int) (u : Int) : Int := (lrun bit u 256).n * (lrun bit u 256).d ^ E2 % P25519
/-- The same pair up to powers of two. -/
structure Scaled (s : Pair) (X2 Z2 X3 Z3 : Int) : Prop where
  one : ∃ p : Nat, Eqv X2 (2 ^ p * s.n) ∧ Eqv Z2 (2 ^ p * s.d)
  two : ∃ q : Nat, Eqv X3 (2 ^ q * s.m) ∧ Eqv Z3 (2 ^ q * s.e)
theorem tw_scaled {X Z x z : Int} {p : Nat} (h : Eqv X (2 ^ p * x)) (k : Eqv Z (2 ^ p * z)) {A B : Int} (hA : Eqv A (tw1 X Z)) (hB : Eqv B (tw2 X Z)) : ∃ r : Nat, Eqv A (2 ^ r * (tw1 x z % P25519)) ∧ Eqv B (2 ^ r * (tw2 x z % P25519)) := by
  refine ⟨p + p + (p + p), (hA.trans (h.tw1 k)).trans ?_, (hB.trans (h.tw2 k)).trans ?_⟩
  · refine (Eqv.of_eq ?_).trans ((Eqv.refl _).mul (Eqv.mod _).symm)
    unfold tw1; rw [Int.pow_add, Int.pow_add]; grind
  · refine (Eqv.of_eq ?_).trans ((Eqv.refl _).mul (Eqv.mod _).symm)
    unfold tw2; rw [Int.pow_add, Int.pow_add]; grind
theorem bt_scaled {u u' X Z Y W x z y v : Int} {p q : Nat} (hu : Eqv u u') (h : Eqv X (2 ^ p * x)) (k : Eqv Z (2 ^ p * z)) (h2 : Eqv Y (2 ^ q * y)) (k2 : Eqv W (2 ^ q * v)) {A B : Int} (hA : Eqv A (4 * bt1 X Z Y W)) (hB : Eqv B (4 * bt2 u X Z Y W)) :
    ∃ r : Nat, Eqv A (2 ^ r * (bt1 x z y v % P25519)) ∧ Eqv B (2 ^ r * (bt2 u' x z y v % P25519)) := by
  refine ⟨2 + (p + p + (q + q)), (hA.trans ((Eqv.refl 4).mul (h.bt1 k h2 k2))).trans ?_, (hB.trans ((Eqv.refl 4).mul (hu.bt2 h k h2 k2))).trans ?_⟩
  · refine (Eqv.of_eq ?_).trans ((Eqv.refl _).mul (Eqv.mod _).symm)
    unfold bt1; rw [Int.pow_add, Int.pow_add, Int.pow_add, Int.pow_add]; grind
  · refine (Eqv.of_eq ?_).trans ((Eqv.refl _).mul (Eqv.mod _).symm)
    unfold bt2; rw [Int.pow_add, Int.pow_add, Int.pow_add, Int.pow_add]; grind
theorem bt1_comm (x z p q : Int) : bt1 x z p q = bt1 p q x z := by unfold bt1; grind
theorem bt2_comm (u x z p q : Int) : bt2 u x z p q = bt2 u p q x z := by unfold bt2; grind
theorem Scaled.zero {s : Pair} {X2 Z2 X3 Z3 u u' : Int} (hs : Scaled s X2 Z2 X3 Z3) (hu : Eqv u u') {b : Int} (hb : ¬ b = 1) {A B C D : Int} (h1 : Eqv A (tw1 X2 Z2)) (h2 : Eqv B (tw2 X2 Z2)) (h3 : Eqv C (4 * bt1 X2 Z2 X3 Z3)) (h4 : Eqv D (4 * bt2 u X2 Z2 X3 Z3)) :
    Scaled (lstep u' b s) A B C D := by
  obtain ⟨⟨p, p1, p2⟩, ⟨q, q1, q2⟩⟩ := hs
  unfold lstep; rw [if_neg hb]
  exact ⟨tw_scaled p1 p2 h1 h2, bt_scaled hu p1 p2 q1 q2 h3 h4⟩
theorem Scaled.one' {s : Pair} {X2 Z2 X3 Z3 u u' : Int} (hs : Scaled s X2 Z2 X3 Z3) (hu : Eqv u u') {A B C D : Int} (h1 : Eqv A (tw1 X3 Z3)) (h2 : Eqv B (tw2 X3 Z3)) (h3 : Eqv C (4 * bt1 X3 Z3 X2 Z2)) (h4 : Eqv D (4 * bt2 u X3 Z3 X2 Z2)) :
    Scaled (lstep u' 1 s) C D A B := by
  obtain ⟨⟨p, p1, p2⟩, ⟨q, q1, q2⟩⟩ := hs
  unfold lstep; rw [if_pos rfl]
  rw [bt1_comm] at h3; rw [bt2_comm] at h4
  exact ⟨bt_scaled hu p1 p2 q1 q2 h3 h4, tw_scaled q1 q2 h1 h2⟩
/-! 2 to the power p - 1 -/
def pmod (a : Int) : Nat → Nat → Int
  | 0, _ => 1
  | f + 1, e => if e = 0 then 1 else let h := pmod a f (e / 2); if e % 2 = 1 then h * h % P25519 * a % P25519 else h * h % P25519
theorem pmod_spec (a : Int) : ∀ f e, e < 2 ^ f → Eqv (pmod a f e) (a ^ e) := by
  intro f
  induction f with
  | zero => intro e he; have : e = 0 := by simpa using he
            subst this; rw [Int.pow_zero]; exact Eqv.refl 1
  | succ f ih =>
    intro e he
    unfold pmod
    by_cases h0 : e = 0
    · subst h0; rw [if_pos rfl, Int.pow_zero]; exact Eqv.refl 1
    · rw [if_neg h0]
      have hh := ih (e / 2) (by rw [Nat.pow_succ] at he; omega)
      have sq := hh.mul hh
      rw [← Int.pow_add] at sq
      by_cases h1 : e % 2 = 1
      · simp only [h1, if_true]
        refine (Eqv.mod _).trans (((Eqv.mod _).trans sq).mul (Eqv.refl a) |>.trans ?_)
        rw [← Int.pow_succ]; exact Eqv.of_eq (by congr 1; omega)
      · simp only [h1, if_false]
        refine (Eqv.mod _).trans (sq.trans ?_)
        exact Eqv.of_eq (by congr 1; omega)
theorem two_fermat : Eqv (2 ^ (E2 + 1)) 1 := by
  refine (pmod_spec 2 256 (E2 + 1) (by decide +kernel)).symm.trans ?_
  have : pmod 2 256 (E2 + 1) = 1 := by decide +kernel
  rw [this]; exact Eqv.refl _
theorem pow_fermat (p : Nat) : Eqv ((2 ^ p) ^ (E2 + 1)) 1 := by
  rw [← Int.pow_mul, Nat.mul_comm, Int.pow_mul]
  refine (two_fermat.pow p).trans ?_
  rw [Int.one_pow]; exact Eqv.refl _
/-- The x that both come to. -/
theorem Scaled.out {s : Pair} {X2 Z2 X3 Z3 : Int} (hs : Scaled s X2 Z2 X3 Z3) : Eqv (X2 * Z2 ^ E2) (s.n * s.d ^ E2) := by
  obtain ⟨⟨p, p1, p2⟩, _⟩ := hs
  refine (p1.mul (p2.pow E2)).trans ?_
  have e : 2 ^ p * s.n * (2 ^ p * s.d) ^ E2 = (2 ^ p) ^ (E2 + 1) * (s.n * s.d ^ E2) := by
    rw [Int.mul_pow, Int.pow_succ]
    generalize ((2 : Int) ^ p) ^ E2 = A
    generalize s.d ^ E2 = B
    grind
  rw [e]
  refine ((pow_fermat p).mul (Eqv.refl _)).trans ?_
  rw [Int.one_mul]; exact Eqv.refl _
end Go.Msg
