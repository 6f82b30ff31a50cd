/- The walks of the document's own answer: the ladder. -/
import Derived.Test.YtogkchcclcbobaaRf8
namespace Go.Msg
theorem bval_uniq {n : Nat} {f g : Nat → Int} (hf : ∀ i, i < n → 0 ≤ f i ∧ f i ≤ 255) (hg : ∀ i, i < n → 0 ≤ g i ∧ g i ≤ 255) (h : bval n f = bval n g) : ∀ i, i < n → f i = g i := by
  have lt : ∀ (m : Nat) (q : Nat → Int), (∀ i, i < m → 0 ≤ q i ∧ q i ≤ 255) → 0 ≤ bval m q ∧ bval m q < 256 ^ m := fun m => by
    induction m with
    | zero => intro q _; simp [bval]
    | succ m ih =>
      intro q hq
      have h1 := ih q (fun i hi => hq i (by omega))
      have h2 := hq m (by omega)
      have hp : (0 : Int) < 256 ^ m := Int.pow_pos (by omega)
      have h3 : q m * 256 ^ m ≤ 255 * 256 ^ m := Int.mul_le_mul_of_nonneg_right (by omega) (by omega)
      have h4 : 0 ≤ q m * 256 ^ m := Int.mul_nonneg h2.1 (by omega)
      simp only [bval]; rw [Int.pow_succ]; omega
  induction n with
  | zero => intro i hi; omega
  | succ n ih =>
    simp only [bval] at h
    have a1 := lt n f (fun i hi => hf i (by omega))
    have a2 := lt n g (fun i hi => hg i (by omega))
    have hp : (0 : Int) < 256 ^ n := Int.pow_pos (by omega)
    have e : f n = g n := by
      have q1 : (bval n f + f n * 256 ^ n) / 256 ^ n = f n := by
        rw [Int.add_mul_ediv_right _ _ (by omega), Int.ediv_eq_zero_of_lt a1.1 a1.2]; omega
      have q2 : (bval n g + g n * 256 ^ n) / 256 ^ n = g n := by
        rw [Int.add_mul_ediv_right _ _ (by omega), Int.ediv_eq_zero_of_lt a2.1 a2.2]; omega
      rw [← q1, ← q2, h]
    intro i hi
    by_cases c : i = n
    · subst c; exact e
    · refine ih (fun i hi => hf i (by omega)) (fun i hi => hg i (by omega)) ?_ i (by omega)
      rw [e] at h; omega
end Go.Msg
namespace Go.Proofs.Ytogkchcclcbobaa
open Go.RowKit Go.Msg
theorem lrun_next (bit : Nat → Int) (u : Int) (j : Nat) (hj : j < 256) : lrun bit u (256 - j) = lstep u (bit j) (lrun bit u (255 - j)) := by
  rw [show 256 - j = (255 - j) + 1 by omega, lrun, show 255 - (255 - j) = j by omega]
set_option maxHeartbeats 4000000 in
theorem rladder_any (k x : ByteArray) (hk : k.size = 32) (hx : 32 ≤ x.size) (w : World) :
    Calls Try.prog 55 #[.string k, .string x] w fun e w' => ∃ b, e = .returned (.string (bstr 32 b)) ∧ (∀ i, i < 32 → 0 ≤ b i ∧ b i ≤ 255) ∧ bval 32 b = lout (bitAt (sb k)) (bsum (sb x) 255 % P25519) ∧ Below w.heap.size w w' := by
  go_enter Try.func55, Try.ntmps55
  go_wp2_with (first
    | (go_at_call 62; refine (rbytes_any x hx _).mono ?_; rintro e wu ⟨vu, rfl, hu, hbu⟩))
  rw [arr_one]
  obtain ⟨W, hW⟩ : ∃ W, W = ((wu.alloc (.cells (tab .i64 1 (fun _ => 1)) 3)).alloc (.cells #[] 3)).alloc (.cells (tab .i64 1 (fun _ => 1)) 3) := ⟨_, rfl⟩
  have hbW : Below wu.heap.size wu W := by rw [hW]; exact (((Below.refl _ _).alloc (Nat.le_refl _) _).alloc (by simp) _).alloc (by simp; omega) _
  have h1 : Res W (.slice (some ⟨wu.heap.size, 0, none⟩) 1 1) 1 := ⟨one_num _ _ (by rw [hW]; simp [go_sem]), by decide⟩
  have h2 : Res W (.slice (some ⟨wu.heap.size + 1 + 1, 0, none⟩) 1 1) 1 := ⟨one_num _ _ (by rw [hW]; simp [go_sem]), by decide⟩
  have h0 : Res W (.slice (some ⟨wu.heap.size + 1, 0, none⟩) 0 0) 0 := ⟨⟨0, fun _ => 0, ⟨_, 0, 0, rfl, Nat.le_refl _, fun h => by omega, fun i hi => by omega⟩, fun i hi => by omega, fun h => by omega, rfl⟩, by decide⟩
  rw [← hW]
  have hu2 := hu.below hbW
  have bW := below_lift hbu hbu.size hbW
  clear hW hbW hu hbu
  have U0 : Hid (∃ u, u = bsum (sb x) 255 % P25519) := ⟨_, rfl⟩
  obtain ⟨u, hue⟩ := U0.out
  have HU : Hid _ := hue
  rw [← hue] at hu2
  clear hue U0
  go_loopw [6, 7, 8, 9, 10] (fun vn vd vm ve i wq => ∃ (j : Nat), j ≤ 256 ∧ i = .int .i64 ((j : Int) - 1) ∧ Res wq vn (lrun (bitAt (sb k)) u (256 - j)).n ∧ Res wq vd (lrun (bitAt (sb k)) u (256 - j)).d ∧ Res wq vm (lrun (bitAt (sb k)) u (256 - j)).m ∧ Res wq ve (lrun (bitAt (sb k)) u (256 - j)).e ∧ Res wq vu u ∧ Below w.heap.size w wq) (fun _ _ _ _ i _ => (intOf i + 1).toNat)
  case atStart => exact ⟨256, by omega, by simp, h1, h0, hu2, h2, hu2, bW⟩
  case round =>
    clear h1 h0 h2 hu2 bW
    obtain ⟨k', hk', rfl, hn, hd, hm, he, huu, hbel⟩ := hrel
    have hbs := hbel.size
    by_cases hlt : 1 ≤ k'
    · obtain ⟨j, rfl⟩ : ∃ j, k' = j + 1 := ⟨k' - 1, by omega⟩
      have cj : ((j + 1 : Nat) : Int) - 1 = j := by omega
      rw [cj]
      have c1 : (0:Int) ≤ j := by omega
      have c2 : (j:Int) / 8 < k.size := by omega
      have c3 : j / 8 < k.size := by omega
      have hb1 : sb k (j / 8) = (k[j / 8].toNat : Int) := sb_at k _ c3
      have hb2 := sb_bd k (j / 8)
      have hL := lrun_next (bitAt (sb k)) u j (by omega)
      rw [show 256 - (j + 1) = 255 - j by omega] at hn hd hm he
      have hq : bitAt (sb k) j = (k[j / 8].toNat : Int) / 2 ^ (j % 8) % 2 := by unfold bitAt; rw [hb1]
      have hq0 : 0 ≤ (k[j / 8].toNat : Int) / 2 ^ (j % 8) := Int.ediv_nonneg (by omega) (Int.le_of_lt (Int.pow_pos (by decide)))
      have HL : Hid _ := hL
      generalize lrun (bitAt (sb k)) u (255 - j) = S at *
      clear hL cj
      by_cases hb : bitAt (sb k) j = 1
      · have hbit : (((k[j / 8].toNat : Int) / 2 ^ (j % 8)).tmod 2 == 1) = true := by rw [Int.tmod_eq_emod_of_nonneg hq0, ← hq, hb]; rfl
        have HB : Hid _ := hb
        clear hb hq hq0 hb1 hb2
        go_wp2_with (first
          | (go_at_call 63; have M := between_any huu hn hd hm he; with_reducible refine M.mono ?_; clear M; rintro e w2 ⟨v1, v2, rfl, r1, r2, hb2⟩; replace hm := hm.below hb2; replace he := he.below hb2; replace huu := huu.below hb2; have b2 := below_lift hbel hbs hb2; have s2 := b2.size)
          | (go_at_call 64; have M := twice_any hm he; with_reducible refine M.mono ?_; clear M; rintro e w3 ⟨v3, v4, rfl, r3, r4, hb3⟩; replace r1 := r1.below hb3; replace r2 := r2.below hb3; replace huu := huu.below hb3; have b3 := below_lift b2 s2 hb3))
        go_roundw
        case rel =>
          refine ⟨j, by omega, by go_num, ?_, ?_, ?_, ?_, huu, b3⟩
          all_goals rw [HL.out, HB.out]; assumption
        case measure => simp [intOf]
      · have hb0 : bitAt (sb k) j = 0 := by rw [hq] at hb ⊢; omega
        have hbit : (((k[j / 8].toNat : Int) / 2 ^ (j % 8)).tmod 2 == 1) = false := by rw [Int.tmod_eq_emod_of_nonneg hq0, ← hq, hb0]; rfl
        have HB : Hid _ := hb0
        clear hb hb0 hq hq0 hb1 hb2
        go_wp2_with (first
          | (go_at_call 63; have M := between_any huu hn hd hm he; with_reducible refine M.mono ?_; clear M; rintro e w2 ⟨v1, v2, rfl, r1, r2, hb2⟩; replace hn := hn.below hb2; replace hd := hd.below hb2; replace huu := huu.below hb2; have b2 := below_lift hbel hbs hb2; have s2 := b2.size)
          | (go_at_call 64; have M := twice_any hn hd; with_reducible refine M.mono ?_; clear M; rintro e w3 ⟨v3, v4, rfl, r3, r4, hb3⟩; replace r1 := r1.below hb3; replace r2 := r2.below hb3; replace huu := huu.below hb3; have b3 := below_lift b2 s2 hb3))
        go_roundw
        case rel =>
          refine ⟨j, by omega, by go_num, ?_, ?_, ?_, ?_, huu, b3⟩
          all_goals rw [HL.out, HB.out]; assumption
        case measure => simp [intOf]
    · have hk0 : k' = 0 := by omega
      subst hk0
      clear hm he huu
      rw [show ((0 : Nat) : Int) - 1 = -1 from rfl]
      go_wp2_with (first
        | (go_at_call 65; have M := rinverse_any hd; with_reducible refine M.mono ?_; clear M; rintro e w2 ⟨v1, rfl, r1, hb2⟩; replace hn := hn.below hb2; have b2 := below_lift hbel hbs hb2; have s2 := b2.size)
        | (go_at_call 66; have M := mul_any hn r1; with_reducible refine M.mono ?_; clear M; rintro e w3 ⟨v3, rfl, r3, hb3⟩; have b3 := below_lift b2 s2 hb3; have s3 := b3.size)
        | (go_at_call 67; have M := rtext_any r3; with_reducible refine M.mono ?_; clear M; rintro e w4 ⟨b, rfl, hbb, hbv, hb4⟩))
      go_ret
      refine ⟨b, rfl, hbb, ?_, below_lift b3 s3 hb4⟩
      rw [hbv, ← HU.out]
      exact (Eqv.refl _).mul (Eqv.mod _)
end Go.Proofs.Ytogkchcclcbobaa
