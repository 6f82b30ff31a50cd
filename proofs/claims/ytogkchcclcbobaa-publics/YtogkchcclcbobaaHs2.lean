/- The walks of the document's own answer: the constants: roots. -/
import Derived.Test.YtogkchcclcbobaaHs1
namespace Go
open Go.RowKit Go.Msg
/-- One list behind another. -/
def joinf (n : Nat) (f g : Nat → Int) (i : Nat) : Int := if i < n then f i else g (i - n)
theorem ints_append (k : IntKind) (n m : Nat) (f g : Nat → Int) : ints k n f ++ ints k m g = ints k (n + m) (joinf n f g) := by
  apply List.ext_getElem?
  intro i
  by_cases h : i < n
  · rw [List.getElem?_append_left (by rw [ints_length]; exact h), ints_get _ _ _ _ h, ints_get _ _ _ _ (by omega)]; simp [joinf, h]
  · rw [List.getElem?_append_right (by rw [ints_length]; omega), ints_length]
    by_cases h2 : i < n + m
    · rw [ints_get _ _ _ _ (by omega), ints_get _ _ _ _ h2]; simp [joinf, h]
    · rw [List.getElem?_eq_none (by rw [ints_length]; omega), List.getElem?_eq_none (by rw [ints_length]; omega)]
theorem wpl_appendN {P : Program} {t e : Nat} {k : IntKind} {B : Nat} (hS : SliceTy P t e k B) {ops : Array Oper} {rest : List Oper} {o : Oper} {a : Act} {w : World} {Q : Exit → Act → World → Prop} (hgd : o.guard = none) (s x : Operand)
    (ho : o.op = .call { callee := .builtin .append, args := #[s, x], argTypes := #[t, t] }) (base : Nat) (v : Value) (n : Nat) (f : Nat → Int) (hs : a.eval s = v) (hown : w.ownsRow base e 1 v n (ints k n f)) (g1 m c : Nat) (z : Nat → Int)
    (hx : a.eval x = .slice (some ⟨g1, 0, none⟩) m c) (hz : ∀ i, i < m → w.cell? ⟨g1, i, none⟩ = some (.int k (z i))) (hn : n + m ≤ 1000000) (hb : base ≤ w.heap.size)
    (h : ∀ v' w', w'.ownsRow base e 1 v' (n + m) (ints k (n + m) (joinf n f z)) → (∀ w0, Below base w0 w → Below base w0 w') → w.heap.size ≤ w'.heap.size → wpList P ops Q rest (a.put o.dst v') w') : wpList P ops Q (o :: rest) a w := by
  obtain ⟨ht, hi, hB⟩ := hS
  cases hq : P.info? e with
  | none => simp [hq] at hi
  | some i =>
    simp [hq] at hi
    obtain ⟨i1, i2, i3⟩ := hi
    refine wpList_append_own _ hgd s x t ho base e i (.int k 0) 1 B ht hq i1 i2 i3 rfl (by omega) v n (ints k n f) hs hown ⟨g1, 0, none⟩ m c (ints k m z) hx (by rw [ints_length]; omega) ?_ ?_ ?_ ?_ hb ?_
    · intro j u hj
      have hj' : j < m := by have := (List.getElem?_eq_some_iff.1 hj).1; rwa [ints_length] at this
      rw [ints_get _ _ _ _ hj'] at hj
      rw [Addr.add_mid, Nat.zero_add, hz j hj']; exact hj
    · intro u hu
      simp [ints] at hu
      obtain ⟨i, _, rfl⟩ := hu; rfl
    · unfold maxLen; omega
    · have : (n + m) * B ≤ 1000000 * 8 := Nat.mul_le_mul (by omega) (by omega)
      omega
    · intro v' w' h1 h2 _
      rw [ints_append] at h1
      refine h v' w' h1 (fun w0 hb0 => hb0.grown h2 hb (fun q hq' => (hown.lt q hq').1)) h2.size
theorem own_one (w : World) (B e : Nat) (hB : B ≤ w.heap.size) (k : IntKind) (x : Int) : (w.alloc (.cells #[.int k x] e)).ownsRow B e 1 (.slice (some ⟨w.heap.size, 0, none⟩) 1 1) 1 (ints k 1 (fun _ => x)) :=
  ⟨rfl, Or.inr ⟨w.heap.size, 1, #[.int k x], rfl, hB, by show (w.heap.push _)[w.heap.size]? = _; simp, by omega, by unfold maxLen; omega, rfl, rfl⟩⟩
end Go
namespace Go.Msg
theorem dval_shift1 (m : Nat) (f : Nat → Int) : dval (1 + m) (joinf 1 (fun _ => 0) f) = 65536 * dval m f := by
  rw [dval_shift]
  have : dval m (fun i => joinf 1 (fun _ => 0) f (1 + i)) = dval m f := dval_congr fun i _ => by
    unfold joinf; rw [if_neg (by omega), show 1 + i - 1 = i by omega]
  rw [this]; simp [dval, joinf]
end Go.Msg
namespace Go.Proofs.Ytogkchcclcbobaa
open Go.RowKit Go.Msg
theorem shift_num {w : World} {B : Nat} {v : Value} {m : Nat} {f : Nat → Int} (h : w.ownsRow B 3 1 v (1 + m) (ints .i64 (1 + m) (joinf 1 (fun _ => 0) f))) (dg : Dig m f) (tr : Trim m f) (hm : 0 < m) : IsNum w v (65536 * dval m f) := by
  refine ⟨1 + m, joinf 1 (fun _ => 0) f, NumAt.of_owns h, fun i hi => ?_, fun _ => ?_, dval_shift1 m f⟩
  · unfold joinf; split
    · simp
    · exact dg _ (by omega)
  · unfold joinf; rw [if_neg (by omega)]; have := tr hm; rwa [show 1 + m - 1 - 1 = m - 1 by omega]
theorem mul_lt_pow {x y : Int} {a b : Nat} (hx0 : 0 ≤ x) (hx : x < 65536 ^ a) (hy : y < 65536 ^ b) : x * y < 65536 ^ (a + b) := by
  rw [Int.pow_add]
  have h1 : x * y ≤ x * 65536 ^ b := Int.mul_le_mul_of_nonneg_left (by omega) hx0
  have h2 : x * 65536 ^ b < 65536 ^ a * 65536 ^ b := Int.mul_lt_mul_of_pos_right hx (Int.pow_pos (by omega))
  omega
theorem num_pos_len {n : Nat} {f : Nat → Int} (h : 0 < dval n f) : 0 < n := by
  by_cases e : n = 0
  · subst e; simp [dval] at h
  · omega
set_option maxHeartbeats 4000000 in
theorem fraction_any (p : Int) (n : Nat) (hp : 2 ≤ p ∧ p ≤ 1000) (hn : 2 ≤ n ∧ n ≤ 3) (w : World) :
    Calls Try.prog 9 #[.int .i64 p, .int .i64 (n : Int)] w fun e w' => ∃ r, e = .returned (.int .i64 r) ∧ 0 ≤ r ∧ r < 4294967296 ∧ Below w.heap.size w w' := by
  have hn1 : (n : Int) ≤ 3 := by omega
  have hn2 : (2 : Int) ≤ n := by omega
  go_enter Try.func9, Try.ntmps9
  go_wp2_with (go_at_call 22; refine (int_any p (by omega) (by omega) _).mono ?_; rintro e wp ⟨vp, rfl, hq, hbp⟩)
  go_loopw [5, 6] (fun v i wr => ∃ (k : Nat) (x : Int), k ≤ 2 * n ∧ i = .int .i64 k ∧ IsNum wr v x ∧ 0 < x ∧ x < 65536 ^ (1 + k) ∧ Below w.heap.size w wr) (fun _ i _ => 2 * n - (intOf i).toNat)
  case atStart => exact ⟨0, p, by omega, rfl, hq, by omega, by simp; omega, hbp⟩
  case round =>
    clear hq hbp
    obtain ⟨k, x, hk, rfl, hx, hx0, hxl, hbel⟩ := hrel
    have hbs := hbel.size
    have HXL : Hid (x < 65536 ^ (1 + k)) := hxl
    clear hxl
    by_cases hlt : k < 2 * n
    · have c1 : (k : Int) < 2 * n := by omega
      obtain ⟨m, f, ⟨ao, cap, g, rfl, hc1, ha1, hx1⟩, dg, tr, hv⟩ := hx
      have hm : 0 < m := num_pos_len (by rw [hv]; exact hx0)
      obtain rfl := ha1 hm
      have hm2 : m ≤ 1 + k := trim_len dg tr (by rw [hv]; exact HXL.out)
      have HV : Hid _ := hv
      clear hv ha1
      go_wp2_with (refine wpl_appendN nums rfl _ _ rfl w.heap.size _ 1 (fun _ => 0) rfl ?_ g m cap f rfl ?_ (by omega) ?_ ?_; (focus (exact own_one _ _ _ hbs _ _)); (focus (intro i hi; rw [World.cell?_alloc_lt _ _ _ (World.block_lt_of_cell? wr _ (hx1 i hi))]; exact hx1 i hi)); (focus (simp; omega)); intro v' w' hown' hbel' hsz')
      go_roundw
      case rel =>
        refine ⟨k + 1, 65536 * x, by omega, by go_num, ?_, by omega, ?_, hbel' _ (hbel.alloc hbs _)⟩
        · rw [← HV.out]; exact shift_num hown' dg tr hm
        · have := HXL.out
          rw [show 1 + (k + 1) = (1 + k) + 1 by omega, Int.pow_succ]; omega
      case measure => simp [intOf]; omega
    · have hk' : k = 2 * n := by omega
      subst hk'
      have hx1000 : Hid (x < 65536 ^ 1000) := Int.lt_of_lt_of_le HXL.out (pow_mono (by omega))
      clear HXL
      rw [show ((2 * n : Nat) : Int) = 2 * (n : Int) by omega]
      go_wp2
      go_loopw [7, 8, 9, 10, 11, 12] (fun a b _ _ _ _ wq => ∃ (v b' : Int), 0 ≤ v ∧ 0 ≤ b' ∧ v + 2 * b' ≤ 137438953472 ∧ a = .int .i64 v ∧ b = .int .i64 b' ∧ IsNum wq u5 x ∧ Below w.heap.size w wq) (fun _ b _ _ _ _ _ => (intOf b).toNat)
      case atStart => exact ⟨0, _, by omega, by omega, by omega, rfl, rfl, hx, hbel⟩
      case round =>
        clear hx hbel hbs
        obtain ⟨v, b, hv0, hb0, hvb, rfl, rfl, hx, hbel⟩ := hrel
        have hbs := hbel.size
        by_cases hb1 : 0 < b
        · go_wp2_with (go_at_call 22; refine (int_any (v + b) (by omega) (by omega) _).mono ?_; rintro e wi ⟨vi, rfl, hi, hbi⟩)
          have hi3 : Hid (v + b < 65536 ^ 3) := by
            have : (65536 : Int) ^ 3 = 281474976710656 := by decide
            show _ < _
            rw [this]; omega
          replace hx := hx.below hbi
          replace hbel := below_lift hbel hbs hbi
          clear hbi hbs
          go_loopw [10, 11] (fun vy i wq => ∃ (k : Nat) (y : Int), 1 ≤ k ∧ k ≤ n ∧ i = .int .i64 k ∧ IsNum wq vy y ∧ 0 ≤ y ∧ Hid (y < 65536 ^ (3 * k)) ∧ IsNum wq vi (v + b) ∧ IsNum wq u5 x ∧ Below w.heap.size w wq) (fun _ i _ => n - (intOf i).toNat)
          case atStart => exact ⟨1, v + b, by omega, by omega, rfl, hi, by omega, hi3, hi, hx, hbel⟩
          case round =>
            clear hi hx hbel
            obtain ⟨k, y, hk1, hkn, rfl, hy, hy0, HY, hi, hx, hbel⟩ := hrel
            have hbs := hbel.size
            by_cases hlt : k < n
            · have c1 : (k : Int) < n := by omega
              go_wp2_with (go_at_call 23; refine (rtimes_any hy hi ?_ ?_).mono ?_; (focus (exact Int.lt_of_lt_of_le HY.out (pow_mono (by omega)))); (focus (exact Int.lt_of_lt_of_le hi3.out (pow_mono (by omega)))); rintro e wt ⟨vt, rfl, ht, hbt⟩)
              go_roundw
              case rel => exact ⟨k + 1, _, by omega, by omega, by go_num, ht, Int.mul_nonneg hy0 (by omega), mul_lt_pow hy0 HY.out hi3.out, hi.below hbt, hx.below hbt, below_lift hbel hbs hbt⟩
              case measure => simp [intOf]; omega
            · have hk' : k = n := by omega
              subst hk'
              have HY2 : Hid (y < 65536 ^ 1000) := Int.lt_of_lt_of_le HY.out (pow_mono (by omega))
              clear HY
              by_cases hc : x < y
              · have hcd : decide (x < y) = true := decide_eq_true hc
                go_wp2_with (go_at_call 24; refine (less_any hx hy hx1000.out HY2.out).mono ?_; rintro e wl ⟨rfl, hbl⟩; rw [hcd])
                go_roundw
                case rel => exact ⟨v, b / 2, by omega, by omega, by omega, rfl, rfl, hx.below hbl, below_lift hbel hbs hbl⟩
                case measure => simp [intOf]; omega
              · have hcd : decide (x < y) = false := decide_eq_false hc
                go_wp2_with (go_at_call 24; refine (less_any hx hy hx1000.out HY2.out).mono ?_; rintro e wl ⟨rfl, hbl⟩; rw [hcd])
                go_roundw
                case rel => exact ⟨v + b, b / 2, by omega, by omega, by omega, rfl, rfl, hx.below hbl, below_lift hbel hbs hbl⟩
                case measure => simp [intOf]; omega
        · have c1 : b = 0 := by omega
          go_wp2
          go_ret
          exact ⟨_, rfl, by omega, by omega, hbel⟩
end Go.Proofs.Ytogkchcclcbobaa
