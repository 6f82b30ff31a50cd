/- The walks of the document's own answer: the inverse. -/
import Derived.Test.YtogkchcclcbobaaRf5
namespace Go.Proofs.Ytogkchcclcbobaa
open Go.RowKit Go.Msg

theorem one_num (w : World) (g : Nat) (hr : w.rowOf g = tab .i64 1 (fun _ => 1)) : IsNum w (.slice (some ⟨g, 0, none⟩) 1 1) 1 :=
  ⟨1, fun _ => 1, NumAt.of_row hr (by omega) (by omega) (fun _ _ => rfl), fun _ _ => by simp, fun _ => by decide, by decide⟩
theorem E2_int : P25519 - 2 = (E2 : Int) := by decide +kernel
theorem e2_len {n : Nat} {f : Nat → Int} (dg : Dig n f) (tr : Trim n f) (hv : dval n f = P25519 - 2) : n = 16 := by
  have l1 := trim_len (N := 16) dg tr (by rw [hv]; decide)
  have l2 : ¬ n ≤ 15 := fun hc => by
    have := (dval_bd dg).2
    have := pow_mono hc
    rw [hv] at *
    have : ¬ P25519 - 2 < 65536 ^ 15 := by decide
    omega
  omega
theorem arr_one : #[Value.int IntKind.i64 1] = tab .i64 1 (fun _ => 1) := by rw [tab_eq]; rfl
set_option maxHeartbeats 4000000 in
theorem power_any {w : World} {v : Value} {x : Int} (h : Res w v x) :
    Calls Try.prog 76 #[v, .int .i64 2, .int .i64 1] w fun e w' => ∃ v', e = .returned v' ∧ Res w' v' (x ^ E2 % P25519) ∧ Below w.heap.size w w' := by
  have q1 := p_lt 1000 (by omega)
  have HP : Hid (P25519 < 65536 ^ 1000) := q1
  have HP2 : Hid ((2 : Int) ≤ P25519) := by show _ ≤ _; decide
  clear q1
  go_enter Try.func76, Try.ntmps76
  go_wp2_with (first
    | (go_at_call 88; refine (prime_any _).mono ?_; rintro e wp ⟨vp, rfl, hp, hbp⟩; have h1 := h.below hbp; have s1 := hbp.size)
    | (go_at_call 22; refine (int_any 2 (by omega) (by omega) _).mono ?_; rintro e wq ⟨vq, rfl, hq, hbq⟩; have hp1 := hp.below hbq; have h2 := h1.below hbq; have b2 := below_lift hbp s1 hbq; have s2 := b2.size)
    | (go_at_call 89; refine (rminus_any hp1 hq HP2.out HP.out).mono ?_; rintro e wd ⟨vr, rfl, hr, hbr⟩; have h3 := h2.below hbr; have b3 := below_lift b2 s2 hbr; have s3 := b3.size; obtain ⟨n, f, ⟨ao, cap, g, rfl, hc1, ha1, hx1⟩, dg, tr, hv⟩ := hr; obtain rfl := e2_len dg tr hv; obtain rfl := ha1 (by omega))
    | (refine wpl_make nums rfl _ _ rfl 16 16 16 rfl rfl rfl rfl (by omega) ?_))
  clear h h1 h2 hp hp1 hq hbp hbq hbr b2 s1 s2
  go_loopw [10, 12] (fun r i wq => ∃ (k : Nat) (F : Nat → Int), k ≤ 16 ∧ r = .int .i64 0 ∧ i = .int .i64 ((k : Int) - 1) ∧ (∀ j, k ≤ j → j < 16 → F j = f j) ∧ wq = wd.alloc (.cells (tab .i64 16 F) 3)) (fun _ i _ => (intOf i + 1).toNat)
  case atStart => exact ⟨16, _, by omega, rfl, by simp, fun j h1 h2 => by omega, rfl⟩
  case round =>
    obtain ⟨k, F, hk, rfl, rfl, hF, rfl⟩ := hrel
    by_cases hlt : 1 ≤ k
    · obtain ⟨j, rfl⟩ : ∃ j, k = j + 1 := ⟨k - 1, by omega⟩
      have cj : ((j + 1 : Nat) : Int) - 1 = j := by omega
      rw [cj]
      have c1 : (0:Int) ≤ j := by omega
      have c2 : (j:Int) < 16 := by omega
      have c3 : j < 16 := by omega
      have y1 := hx1 j c3
      have l1 := World.block_lt_of_cell? wd _ y1
      have b1 := dg j c3
      clear hx1 ha1 cj
      go_wp2
      go_roundw
      case rel => exact ⟨j, upd F j (f j), by omega, rfl, by go_num, fun i h1 h2 => by
        by_cases e : i = j
        · subst e; simp [upd]
        · simp [upd, e]; exact hF i (by omega) h2, by simp⟩
      case measure => simp [intOf]
    · have hk0 : k = 0 := by omega
      subst hk0
      have HT : tab .i64 16 F = tab .i64 16 f := tab_congr fun i hi => hF i (by omega) hi
      rw [HT, show ((0 : Nat) : Int) - 1 = -1 from rfl]
      clear HT hF hx1 ha1 F
      go_wp2
      rw [arr_one]
      have hr0 : ((wd.alloc (.cells (tab .i64 16 f) 3)).alloc (.cells (tab .i64 1 (fun _ => 1)) 3)).rowOf (wd.heap.size + 1) = tab .i64 1 (fun _ => 1) := by simp [go_sem]
      have hrq : ((wd.alloc (.cells (tab .i64 16 f) 3)).alloc (.cells (tab .i64 1 (fun _ => 1)) 3)).rowOf wd.heap.size = tab .i64 16 f := by simp [go_sem]
      have hb4 : Below wd.heap.size wd ((wd.alloc (.cells (tab .i64 16 f) 3)).alloc (.cells (tab .i64 1 (fun _ => 1)) 3)) := ((Below.refl _ _).alloc (Nat.le_refl _) _).alloc (by simp) _
      have hone := one_num _ _ hr0
      generalize (wd.alloc (.cells (tab .i64 16 f) 3)).alloc (.cells (tab .i64 1 (fun _ => 1)) 3) = W4 at *
      have h4 := h3.below hb4
      have b4 := below_lift b3 s3 hb4
      clear h3 b3 hb4 hr0
      have fb : ∀ j, j < 256 → f (j / 16) / 2 ^ (j % 16) % 2 = ((E2 / 2 ^ j % 2 : Nat) : Int) := fun j hj => by
        rw [digit_of dg (j / 16) (by omega), hv, E2_int, bit_digit E2 (j / 16) (j % 16) (by omega), show 16 * (j / 16) + j % 16 = j by omega]
      have fd : ∀ j, j < 256 → 0 ≤ f (j / 16) ∧ f (j / 16) < 65536 := fun j hj => dg (j / 16) (by omega)
      have HFB : Hid _ := fb
      have HFD : Hid _ := fd
      clear fb fd hv dg tr HP HP2
      go_loopw [13, 14] (fun v' i wq => ∃ (k : Nat) (y : Int), k ≤ 256 ∧ i = .int .i64 ((k : Int) - 1) ∧ Res wq v' y ∧ Eqv y (x ^ (E2 / 2 ^ k)) ∧ wq.rowOf wd.heap.size = tab .i64 16 f ∧ Res wq v x ∧ Below w.heap.size w wq) (fun _ i _ => (intOf i + 1).toNat)
      case atStart => exact ⟨256, 1, by omega, by simp, ⟨hone, by decide⟩, by rw [show E2 / 2 ^ 256 = 0 by decide +kernel, Int.pow_zero]; exact Eqv.refl _, hrq, h4, b4⟩
      case round =>
        clear h4 b4 hone hrq
        obtain ⟨k, y, hk, rfl, hy, hE, hq, hxr, hbel⟩ := hrel
        have hbs := hbel.size
        by_cases hlt : 1 ≤ k
        · obtain ⟨j, rfl⟩ : ∃ j, k = j + 1 := ⟨k - 1, by omega⟩
          have cj : ((j + 1 : Nat) : Int) - 1 = j := by omega
          rw [cj]
          have c1 : (0:Int) ≤ j := by omega
          have c2 : (j:Int) / 16 < 16 := by omega
          have c3 : j / 16 < 16 := by omega
          have fd := HFD.out j (by omega)
          have HH : Hid _ := half_pow E2 (j + 1) (by omega)
          have HE : Hid _ := hE
          clear hE cj
          by_cases hb : E2 / 2 ^ j % 2 = 1
          · have hbit : ((f (j / 16) / 2 ^ (j % 16)).tmod 2 == 1) = true := by rw [Int.tmod_eq_emod_of_nonneg (Int.ediv_nonneg fd.1 (Int.le_of_lt (Int.pow_pos (by decide)))), HFB.out j (by omega), hb]; rfl
            have HB : Hid _ := hb
            clear hb
            have M := mul_any hy hy
            go_wp2_with (first
              | (go_at_call 66; refine M.mono ?_; clear M; rintro e w2 ⟨v2, rfl, h2, hb2⟩; have hq2 : w2.rowOf wd.heap.size = tab .i64 16 f := (by rw [below_row hb2 (by rw [hq, tab_size]; omega), hq]); have y1 : w2.cell? ⟨wd.heap.size, j / 16, none⟩ = some (.int .i64 (f (j / 16))) := (by rw [(cell_of_rowOf hq2 (j / 16) (by rw [tab_size]; exact c3)).1, tab_get _ _ _ _ c3]); have hx2 := hxr.below hb2; have b2 := below_lift hbel hbs hb2; have s2 := b2.size)
              | (go_at_call 66; have M2 := mul_any h2 hx2; refine M2.mono ?_; clear M2; rintro e w3 ⟨v3, rfl, h3, hb3⟩; have hq3 : w3.rowOf wd.heap.size = tab .i64 16 f := (by rw [below_row hb3 (by rw [hq2, tab_size]; omega), hq2])))
            go_roundw
            case rel =>
              refine ⟨j, _, by omega, by go_num, h3, ?_, hq3, hx2.below hb3, below_lift b2 s2 hb3⟩
              have e1 : Eqv (y * y % P25519 * x % P25519) (y * y * x) := (Eqv.mod _).trans ((Eqv.mod _).mul (Eqv.refl _))
              have he : Eqv y (x ^ (E2 / 2 ^ (j + 1))) := HE.out
              refine e1.trans (((he.mul he).mul (Eqv.refl x)).trans (Eqv.of_eq ?_))
              have hh := HH.out
              simp only [Nat.add_sub_cancel] at hh
              rw [hh, HB.out, Int.pow_succ, ← Int.pow_add]; congr 2; omega
            case measure => simp [intOf]
          · have hb0 : E2 / 2 ^ j % 2 = 0 := by omega
            have hbit : ((f (j / 16) / 2 ^ (j % 16)).tmod 2 == 1) = false := by rw [Int.tmod_eq_emod_of_nonneg (Int.ediv_nonneg fd.1 (Int.le_of_lt (Int.pow_pos (by decide)))), HFB.out j (by omega), hb0]; rfl
            have HB : Hid _ := hb0
            clear hb hb0
            have M := mul_any hy hy
            go_wp2_with (first
              | (go_at_call 66; refine M.mono ?_; clear M; rintro e w2 ⟨v2, rfl, h2, hb2⟩; have hq2 : w2.rowOf wd.heap.size = tab .i64 16 f := (by rw [below_row hb2 (by rw [hq, tab_size]; omega), hq]); have y1 : w2.cell? ⟨wd.heap.size, j / 16, none⟩ = some (.int .i64 (f (j / 16))) := (by rw [(cell_of_rowOf hq2 (j / 16) (by rw [tab_size]; exact c3)).1, tab_get _ _ _ _ c3]); have hx2 := hxr.below hb2; have b2 := below_lift hbel hbs hb2; have s2 := b2.size))
            go_roundw
            case rel =>
              refine ⟨j, _, by omega, by go_num, h2, ?_, hq2, hx2, b2⟩
              have he : Eqv y (x ^ (E2 / 2 ^ (j + 1))) := HE.out
              refine (Eqv.mod _).trans ((he.mul he).trans (Eqv.of_eq ?_))
              have hh := HH.out
              simp only [Nat.add_sub_cancel] at hh
              rw [hh, HB.out, ← Int.pow_add]; congr 1; omega
            case measure => simp [intOf]
        · have hk0 : k = 0 := by omega
          subst hk0
          have HE : Hid _ := hE
          clear hE
          go_wp2
          go_ret
          refine ⟨_, rfl, ?_, hbel⟩
          have e := HE.out
          rw [E2_low] at e
          have e2 : x ^ E2 % P25519 = y := by rw [← show y % P25519 = x ^ E2 % P25519 from e]; exact Int.emod_eq_of_lt hy.nonneg hy.2
          rw [e2]; exact hy

set_option maxHeartbeats 400000 in
theorem rinverse_any {w : World} {v : Value} {x : Int} (h : Res w v x) :
    Calls Try.prog 65 #[v] w fun e w' => ∃ v', e = .returned v' ∧ Res w' v' (x ^ E2 % P25519) ∧ Below w.heap.size w w' := by
  go_enter Try.func65, Try.ntmps65
  go_wp2_with (go_at_call 76; refine (power_any h).mono ?_; rintro e w2 ⟨v2, rfl, h2, hb2⟩)
  go_ret
  exact ⟨_, rfl, h2, hb2⟩
end Go.Proofs.Ytogkchcclcbobaa
