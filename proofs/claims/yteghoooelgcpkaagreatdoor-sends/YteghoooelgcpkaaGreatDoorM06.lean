import Derived.Test.YteghoooelgcpkaaGreatDoorM01
import Derived.Test.YteghoooelgcpkaaGreatDoorM05
namespace Go.Msg
open Go.RowKit
def cb (b : Nat → Int) (i : Nat) : Int := if i = 31 then b 31 % 128 else b i
theorem cb_bd {b : Nat → Int} (hb : ∀ i, 0 ≤ b i ∧ b i ≤ 255) (i : Nat) : 0 ≤ cb b i ∧ cb b i ≤ 255 := by
  unfold cb; split
  · omega
  · exact hb i
theorem cb_sum {b : Nat → Int} (hb : ∀ i, 0 ≤ b i ∧ b i ≤ 255) : bval 32 (cb b) = bsum b 255 := by
  rw [bsum_255 b (fun i _ => hb i)]
  simp only [bval]
  simp [cb]
structure BFill (b : Nat → Int) (k : Nat) (F : Nat → Int) : Prop where
  dig : Dig 16 F
  at_ : k % 2 = 1 → F (k / 2) ≤ 255
  z : ∀ i, (k + 1) / 2 ≤ i → F i = 0
  vl : dval 16 F = bval k (cb b)
theorem BFill.start (b : Nat → Int) : BFill b 0 (fun _ => 0) := ⟨fun _ _ => by omega, fun h => by omega, fun _ _ => rfl, by rw [dval_zero]; rfl⟩
theorem pow_half (k : Nat) : (65536 : Int) ^ (k / 2) * 256 ^ (k % 2) = 256 ^ k := by
  rw [show (65536 : Int) = 256 ^ 2 by decide, ← Int.pow_mul, ← Int.pow_add]; congr 1; omega
theorem BFill.step {b F : Nat → Int} {k : Nat} (h : BFill b k F) (hb : ∀ i, 0 ≤ b i ∧ b i ≤ 255) (hk : k < 32) {z : Int} (hz : z = F (k / 2) + cb b k * 256 ^ (k % 2)) : BFill b (k + 1) (upd F (k / 2) z) := by
  have h1 := cb_bd hb k
  have hd := h.dig (k / 2) (by omega)
  have hz2 : 0 ≤ z ∧ z < 65536 ∧ (k % 2 = 0 → z ≤ 255) := by
    have : k % 2 = 0 ∨ k % 2 = 1 := by omega
    rcases this with e | e
    · have := h.z (k / 2) (by omega)
      rw [e] at hz; simp at hz; omega
    · have := h.at_ e
      rw [e] at hz; simp at hz; omega
  refine ⟨fun i hi => ?_, fun ho => ?_, fun i hi => ?_, ?_⟩
  · by_cases e : i = k / 2
    · subst e; simp only [upd, if_true]; omega
    · simp only [upd, e, if_false]; exact h.dig i hi
  · have e : (k + 1) / 2 = k / 2 := by omega
    rw [e]; simp only [upd, if_true]; exact hz2.2.2 (by omega)
  · have e : ¬ i = k / 2 := by omega
    simp only [upd, e, if_false]; exact h.z i (by omega)
  · rw [dval_upd _ _ _ _ (by omega), h.vl, hz]
    simp only [bval]
    rw [← pow_half k]; grind
end Go.Msg
namespace Go.Proofs.YteghoooelgcpkaaGreatDoor
open Go.RowKit Go.Msg
theorem sb_at (s : ByteArray) (k : Nat) (h : k < s.size) : sb s k = (s[k].toNat : Int) := by simp [sb, h]
theorem num_trimmed {w : World} {g j N : Nat} {F : Nat → Int} (hr : w.rowOf g = tab .i64 N F) (hj : j ≤ N) (hd : Dig N F) (htr : Trim j F) (hz : ∀ i, j ≤ i → i < N → F i = 0) : IsNum w (.slice (some ⟨g, 0, none⟩) j N) (dval N F) := by
  refine ⟨j, F, NumAt.of_row hr hj hj (fun _ _ => rfl), fun i hi => hd i (by omega), htr, ?_⟩
  obtain ⟨c, hc⟩ : ∃ c, N = j + c := ⟨N - j, by omega⟩
  rw [hc, dval_shift, dval_congr (n := c) (g := fun _ => 0) (fun i hi => hz _ (by omega) (by omega)), dval_zero]; omega
theorem bsum_33 (b : Nat → Int) : bsum b 255 < 65536 ^ 33 := by
  have := (bsum_lt b 255).2
  have : (2 : Int) ^ 255 < 65536 ^ 33 := by decide +kernel
  omega
set_option maxHeartbeats 1000000 in
theorem rbytes_any (s : ByteArray) (hs : 32 ≤ s.size) (w : World) :
    Calls Tryz.prog 127 #[.string s] w fun e w' => ∃ v, e = .returned v ∧ Res w' v (bsum (sb s) 255 % P25519) ∧ Below w.heap.size w w' := by
  go_enter Tryz.func127, Tryz.ntmps127
  go_wp2_with (refine wpl_make nums rfl _ _ rfl 16 16 16 rfl rfl rfl rfl (by omega) ?_)
  go_loopw [4, 5] (fun i _ wr => ∃ (k : Nat) (F : Nat → Int), k ≤ 32 ∧ i = .int .i64 k ∧ BFill (sb s) k F ∧ wr = w.alloc (.cells (tab .i64 16 F) 3)) (fun i _ _ => 32 - (intOf i).toNat)
  case atStart => exact ⟨0, _, by omega, rfl, BFill.start _, rfl⟩
  case round =>
    obtain ⟨k, F, hk, rfl, hF, rfl⟩ := hrel
    by_cases hlt : k < 32
    · have c1 : (k : Int) < 32 := by omega
      have c2 : (k : Int) < s.size := by omega
      have c2' : k < s.size := by omega
      have c3 : (k : Int) / 2 < 16 := by omega
      have c3n : k / 2 < 16 := by omega
      have d1 := hF.dig (k / 2) (by omega)
      have b1 : (s[k].toNat : Int) ≤ 255 := by rw [← sb_at s k c2']; exact (sb_bd s k).2
      have hk2 : k % 2 = 0 ∨ k % 2 = 1 := by omega
      have STP := fun z => hF.step (sb_bd s) hlt (z := z)
      have HST : Hid _ := STP
      clear STP hF
      rcases hk2 with e | e
      · have c4 : ((k : Int) == 31) = false := by simp; omega
        have c5 : ((k : Int) % 2 == 1) = false := by simp; omega
        have cbk : cb (sb s) k = (s[k].toNat : Int) := by rw [← sb_at s k c2']; unfold cb; rw [if_neg (by omega)]
        have HK : Hid _ := cbk
        have HE : Hid _ := e
        clear cbk e
        go_wp2
        go_roundw
        case rel => exact ⟨k + 1, _, by omega, by go_num, HST.out _ (by rw [HK.out, HE.out, Int.pow_zero, Int.mul_one]), by simp⟩
        case measure => simp [intOf]; omega
      · by_cases h31 : k = 31
        · subst h31
          have d15 : 0 ≤ F 15 ∧ F 15 < 65536 := d1
          clear d1
          go_wp2
          go_roundw
          case rel => exact ⟨32, _, by omega, by go_num, HST.out (F 15 + (s[31].toNat : Int) % 128 * 256) (by simp [cb, sb_at s 31 c2']), by simp⟩
          case measure => simp [intOf]
        · have c4 : ((k : Int) == 31) = false := by simp; omega
          have c5 : ((k : Int) % 2 == 1) = true := by simp; omega
          have cbk : cb (sb s) k = (s[k].toNat : Int) := by rw [← sb_at s k c2']; unfold cb; rw [if_neg (by omega)]
          have HK : Hid _ := cbk
          have HE : Hid _ := e
          clear cbk e
          go_wp2
          go_roundw
          case rel => exact ⟨k + 1, _, by omega, by go_num, HST.out _ (by rw [HK.out, HE.out, Int.pow_one]), by simp⟩
          case measure => simp [intOf]; omega
    · have hk' : k = 32 := by omega
      subst hk'
      have hcell : ∀ i, i < 16 → (w.alloc (.cells (tab .i64 16 F) 3)).cell? ⟨w.heap.size, i, none⟩ = some (.int .i64 (F i)) := fun i hi => by simp [go_sem, hi]
      have HC : Hid _ := hcell
      have HV : Hid _ := hF.vl
      have HD := hF.dig
      clear hcell hF
      go_wp2_with (first
        | (go_at_call 79; refine (trim_at _ _ _ _ F HC.out (by omega) (by omega)).mono ?_; rintro e w' ⟨j, hj, rfl, htr, hz, rfl⟩; have hnum : IsNum (w.alloc (.cells (tab .i64 16 F) 3)) (.slice (some ⟨w.heap.size, 0, none⟩) j 16) (bsum (sb s) 255) := (by rw [← cb_sum (sb_bd s), ← HV.out]; exact num_trimmed (by simp [go_sem]) hj HD htr hz))
        | (go_at_call 156; refine (mod_any _ _ _ hnum (bsum_33 _)).mono ?_; rintro e w' ⟨v', rfl, hv, hb⟩))
      go_ret
      exact ⟨_, rfl, ⟨hv, Int.emod_lt_of_pos _ (by decide)⟩, below_lift (by_alloc w _) (by simp) hb⟩
def tb (n : Nat) (f : Nat → Int) (i : Nat) : Int := if i < 2 * n then (if i % 2 = 0 then f (i / 2) % 256 else f (i / 2) / 256) else 0
theorem tb_bd {n : Nat} {f : Nat → Int} (h : Dig n f) (i : Nat) : 0 ≤ tb n f i ∧ tb n f i ≤ 255 := by
  unfold tb
  split
  · have := h (i / 2) (by omega)
    split <;> omega
  · omega
theorem tb_val {n : Nat} {f : Nat → Int} (m : Nat) : bval (2 * m) (tb (n + m) f) = dval m f := by
  induction m generalizing n with
  | zero => rfl
  | succ m ih =>
    rw [show 2 * (m + 1) = 2 * m + 1 + 1 by omega]
    simp only [bval, dval]
    rw [show n + (m + 1) = (n + 1) + m by omega, ih]
    have e1 : tb (n + 1 + m) f (2 * m) = f m % 256 := by
      unfold tb; rw [if_pos (by omega), if_pos (by omega)]; congr 2; omega
    have e2 : tb (n + 1 + m) f (2 * m + 1) = f m / 256 := by
      unfold tb; rw [if_pos (by omega), if_neg (by omega)]; congr 2; omega
    have e3 : (256 : Int) ^ (2 * m) = 65536 ^ m := by rw [Int.pow_mul, show (256 : Int) ^ 2 = 65536 by decide]
    rw [e1, e2, Int.pow_succ, e3]
    have := Int.mul_ediv_add_emod (f m) 256
    generalize f m / 256 = q at *
    generalize f m % 256 = r at *
    rw [← this]; grind
theorem bval_tail {n m : Nat} {f : Nat → Int} (h : ∀ i, n ≤ i → f i = 0) : bval (n + m) f = bval n f := by
  induction m with
  | zero => rfl
  | succ m ih => rw [show n + (m + 1) = (n + m) + 1 by omega]; simp only [bval]; rw [ih, h _ (by omega)]; omega
theorem tb_all {n : Nat} {f : Nat → Int} (h : n ≤ 16) : bval 32 (tb n f) = dval n f := by
  have e := tb_val (n := 0) (f := f) n
  rw [Nat.zero_add] at e
  rw [← e, show 32 = 2 * n + (32 - 2 * n) by omega]
  exact bval_tail fun i hi => by unfold tb; rw [if_neg (by omega)]
theorem tb_next (k : Nat) (f : Nat → Int) : upd (upd (tb k f) (2 * k) (f k % 256)) (2 * k + 1) (f k / 256) = tb (k + 1) f := by
  funext i
  unfold upd tb
  by_cases e1 : i = 2 * k + 1
  · subst e1
    rw [if_pos rfl, if_pos (by omega), if_neg (by omega)]; congr 2; omega
  · rw [if_neg e1]
    by_cases e2 : i = 2 * k
    · subst e2
      rw [if_pos rfl, if_pos (by omega), if_pos (by omega)]; congr 2; omega
    · rw [if_neg e2]
      by_cases e3 : i < 2 * k
      · rw [if_pos e3, if_pos (show i < 2 * (k + 1) by omega)]
      · rw [if_neg e3, if_neg (by omega)]
theorem u8s : SliceTy Tryz.prog 112 5 .u8 1 := ⟨Tryz.underlying112, by kernel_rfl, by omega⟩
set_option maxHeartbeats 1000000 in
theorem rtext_any {w : World} {v : Value} {x : Int} (h : Res w v x) :
    Calls Tryz.prog 132 #[v] w fun e w' => ∃ b, e = .returned (.string (bstr 32 b)) ∧ (∀ i, i < 32 → 0 ≤ b i ∧ b i ≤ 255) ∧ bval 32 b = x ∧ Below w.heap.size w w' := by
  obtain ⟨⟨n, f, ⟨ao, cap, g, rfl, hc1, ha1, hx1⟩, dg, tr, hv⟩, hlt⟩ := h
  have hn : n ≤ 16 := trim_len dg tr (by rw [hv]; have : P25519 < 65536 ^ 16 := (by decide); omega)
  have HV : Hid _ := hv
  clear hv hlt tr
  go_enter Tryz.func132, Tryz.ntmps132
  go_wp2_with (refine wpl_make u8s rfl _ _ rfl 32 32 32 rfl rfl rfl rfl (by omega) ?_)
  go_loopw [4] (fun i wr => ∃ (k : Nat), k ≤ n ∧ i = .int .i64 k ∧ wr = w.alloc (.cells (tab .u8 32 (tb k f)) 5)) (fun i _ => n - (intOf i).toNat)
  case atStart => exact ⟨0, by omega, rfl, by congr 3⟩
  case round =>
    obtain ⟨k, hk, rfl, rfl⟩ := hrel
    by_cases hlt : k < n
    · have c1 : (k : Int) < n := by omega
      obtain rfl := ha1 (by omega)
      have y1 := hx1 k hlt
      have l1 := World.block_lt_of_cell? w _ y1
      have d1 := dg k hlt
      have c2 : 2 * (k : Int) < 32 := by omega
      have c3 : 2 * k < 32 := by omega
      have c4 : 2 * (k : Int) + 1 < 32 := by omega
      have c5 : 2 * k + 1 < 32 := by omega
      have HN : Hid _ := tb_next k f
      clear hx1 ha1
      go_wp2
      go_roundw
      case rel => exact ⟨k + 1, by omega, by go_num, by rw [← HN.out]⟩
      case measure => simp [intOf]; omega
    · have hk' : k = n := by omega
      subst hk'
      clear hx1 ha1
      go_wp2_with (refine wpl_convert rfl 112 9 5 _ rfl Tryz.underlying112 Tryz.underlying5 Tryz.underlying9 w.heap.size 0 32 32 rfl 32 (tb k f) ?_ (by decide) ?_; (focus (simp [go_sem]; done)))
      go_ret
      exact ⟨tb k f, rfl, fun i _ => tb_bd dg i, by rw [tb_all hn]; exact HV.out, by_alloc _ _⟩
end Go.Proofs.YteghoooelgcpkaaGreatDoor
namespace Go.Msg
theorem bval_uniq {n : Nat} {f g : Nat → Int} (hf : ∀ i, i < n → 0 ≤ f i ∧ f i ≤ 255) (hg : ∀ i, i < n → 0 ≤ g i ∧ g i ≤ 255) (h : bval n f = bval n g) : ∀ i, i < n → f i = g i := by
  have lt : ∀ (m : Nat) (q : Nat → Int), (∀ i, i < m → 0 ≤ q i ∧ q i ≤ 255) → 0 ≤ bval m q ∧ bval m q < 256 ^ m := fun m => by
    induction m with
    | zero => intro q _; simp [bval]
    | succ m ih =>
      intro q hq
      have h1 := ih q (fun i hi => hq i (by omega))
      have h2 := hq m (by omega)
      have hp : (0 : Int) < 256 ^ m := Int.pow_pos (by omega)
      have h3 : q m * 256 ^ m ≤ 255 * 256 ^ m := Int.mul_le_mul_of_nonneg_right (by omega) (by omega)
      have h4 : 0 ≤ q m * 256 ^ m := Int.mul_nonneg h2.1 (by omega)
      simp only [bval]; rw [Int.pow_succ]; omega
  induction n with
  | zero => intro i hi; omega
  | succ n ih =>
    simp only [bval] at h
    have a1 := lt n f (fun i hi => hf i (by omega))
    have a2 := lt n g (fun i hi => hg i (by omega))
    have hp : (0 : Int) < 256 ^ n := Int.pow_pos (by omega)
    have e : f n = g n := by
      have q1 : (bval n f + f n * 256 ^ n) / 256 ^ n = f n := by
        rw [Int.add_mul_ediv_right _ _ (by omega), Int.ediv_eq_zero_of_lt a1.1 a1.2]; omega
      have q2 : (bval n g + g n * 256 ^ n) / 256 ^ n = g n := by
        rw [Int.add_mul_ediv_right _ _ (by omega), Int.ediv_eq_zero_of_lt a2.1 a2.2]; omega
      rw [← q1, ← q2, h]
    intro i hi
    by_cases c : i = n
    · subst c; exact e
    · refine ih (fun i hi => hf i (by omega)) (fun i hi => hg i (by omega)) ?_ i (by omega)
      rw [e] at h; omega
end Go.Msg
namespace Go.Proofs.YteghoooelgcpkaaGreatDoor
open Go.RowKit Go.Msg
theorem lrun_next (bit : Nat → Int) (u : Int) (j : Nat) (hj : j < 256) : lrun bit u (256 - j) = lstep u (bit j) (lrun bit u (255 - j)) := by
  rw [show 256 - j = (255 - j) + 1 by omega, lrun, show 255 - (255 - j) = j by omega]
set_option maxHeartbeats 4000000 in
theorem rladder_any (k x : ByteArray) (hk : k.size = 32) (hx : 32 ≤ x.size) (w : World) :
    Calls Tryz.prog 96 #[.string k, .string x] w fun e w' => ∃ b, e = .returned (.string (bstr 32 b)) ∧ (∀ i, i < 32 → 0 ≤ b i ∧ b i ≤ 255) ∧ bval 32 b = lout (bitAt (sb k)) (bsum (sb x) 255 % P25519) ∧ Below w.heap.size w w' := by
  go_enter Tryz.func96, Tryz.ntmps96
  go_wp2_with (first
    | (go_at_call 127; refine (rbytes_any x hx _).mono ?_; rintro e wu ⟨vu, rfl, hu, hbu⟩))
  rw [arr_one]
  obtain ⟨W, hW⟩ : ∃ W, W = ((wu.alloc (.cells (tab .i64 1 (fun _ => 1)) 3)).alloc (.cells #[] 3)).alloc (.cells (tab .i64 1 (fun _ => 1)) 3) := ⟨_, rfl⟩
  have hbW : Below wu.heap.size wu W := by rw [hW]; exact (((Below.refl _ _).alloc (Nat.le_refl _) _).alloc (by simp) _).alloc (by simp; omega) _
  have h1 : Res W (.slice (some ⟨wu.heap.size, 0, none⟩) 1 1) 1 := ⟨one_num _ _ (by rw [hW]; simp [go_sem]), by decide⟩
  have h2 : Res W (.slice (some ⟨wu.heap.size + 1 + 1, 0, none⟩) 1 1) 1 := ⟨one_num _ _ (by rw [hW]; simp [go_sem]), by decide⟩
  have h0 : Res W (.slice (some ⟨wu.heap.size + 1, 0, none⟩) 0 0) 0 := ⟨⟨0, fun _ => 0, ⟨_, 0, 0, rfl, Nat.le_refl _, fun h => by omega, fun i hi => by omega⟩, fun i hi => by omega, fun h => by omega, rfl⟩, by decide⟩
  rw [← hW]
  have hu2 := hu.below hbW
  have bW := below_lift hbu hbu.size hbW
  clear hW hbW hu hbu
  have U0 : Hid (∃ u, u = bsum (sb x) 255 % P25519) := ⟨_, rfl⟩
  obtain ⟨u, hue⟩ := U0.out
  have HU : Hid _ := hue
  rw [← hue] at hu2
  clear hue U0
  go_loopw [6, 7, 8, 9, 10] (fun vn vd vm ve i wq => ∃ (j : Nat), j ≤ 256 ∧ i = .int .i64 ((j : Int) - 1) ∧ Res wq vn (lrun (bitAt (sb k)) u (256 - j)).n ∧ Res wq vd (lrun (bitAt (sb k)) u (256 - j)).d ∧ Res wq vm (lrun (bitAt (sb k)) u (256 - j)).m ∧ Res wq ve (lrun (bitAt (sb k)) u (256 - j)).e ∧ Res wq vu u ∧ Below w.heap.size w wq) (fun _ _ _ _ i _ => (intOf i + 1).toNat)
  case atStart => exact ⟨256, by omega, by simp, h1, h0, hu2, h2, hu2, bW⟩
  case round =>
    clear h1 h0 h2 hu2 bW
    obtain ⟨k', hk', rfl, hn, hd, hm, he, huu, hbel⟩ := hrel
    have hbs := hbel.size
    by_cases hlt : 1 ≤ k'
    · obtain ⟨j, rfl⟩ : ∃ j, k' = j + 1 := ⟨k' - 1, by omega⟩
      have cj : ((j + 1 : Nat) : Int) - 1 = j := by omega
      rw [cj]
      have c1 : (0:Int) ≤ j := by omega
      have c2 : (j:Int) / 8 < k.size := by omega
      have c3 : j / 8 < k.size := by omega
      have hb1 : sb k (j / 8) = (k[j / 8].toNat : Int) := sb_at k _ c3
      have hb2 := sb_bd k (j / 8)
      have hL := lrun_next (bitAt (sb k)) u j (by omega)
      rw [show 256 - (j + 1) = 255 - j by omega] at hn hd hm he
      have hq : bitAt (sb k) j = (k[j / 8].toNat : Int) / 2 ^ (j % 8) % 2 := by unfold bitAt; rw [hb1]
      have hq0 : 0 ≤ (k[j / 8].toNat : Int) / 2 ^ (j % 8) := Int.ediv_nonneg (by omega) (Int.le_of_lt (Int.pow_pos (by decide)))
      have HL : Hid _ := hL
      generalize lrun (bitAt (sb k)) u (255 - j) = S at *
      clear hL cj
      by_cases hb : bitAt (sb k) j = 1
      · have hbit : (((k[j / 8].toNat : Int) / 2 ^ (j % 8)).tmod 2 == 1) = true := by rw [Int.tmod_eq_emod_of_nonneg hq0, ← hq, hb]; rfl
        have HB : Hid _ := hb
        clear hb hq hq0 hb1 hb2
        go_wp2_with (first
          | (go_at_call 128; have M := between_any huu hn hd hm he; with_reducible refine M.mono ?_; clear M; rintro e w2 ⟨v1, v2, rfl, r1, r2, hb2⟩; replace hm := hm.below hb2; replace he := he.below hb2; replace huu := huu.below hb2; have b2 := below_lift hbel hbs hb2; have s2 := b2.size)
          | (go_at_call 129; have M := twice_any hm he; with_reducible refine M.mono ?_; clear M; rintro e w3 ⟨v3, v4, rfl, r3, r4, hb3⟩; replace r1 := r1.below hb3; replace r2 := r2.below hb3; replace huu := huu.below hb3; have b3 := below_lift b2 s2 hb3))
        go_roundw
        case rel =>
          refine ⟨j, by omega, by go_num, ?_, ?_, ?_, ?_, huu, b3⟩
          all_goals rw [HL.out, HB.out]; assumption
        case measure => simp [intOf]
      · have hb0 : bitAt (sb k) j = 0 := by rw [hq] at hb ⊢; omega
        have hbit : (((k[j / 8].toNat : Int) / 2 ^ (j % 8)).tmod 2 == 1) = false := by rw [Int.tmod_eq_emod_of_nonneg hq0, ← hq, hb0]; rfl
        have HB : Hid _ := hb0
        clear hb hb0 hq hq0 hb1 hb2
        go_wp2_with (first
          | (go_at_call 128; have M := between_any huu hn hd hm he; with_reducible refine M.mono ?_; clear M; rintro e w2 ⟨v1, v2, rfl, r1, r2, hb2⟩; replace hn := hn.below hb2; replace hd := hd.below hb2; replace huu := huu.below hb2; have b2 := below_lift hbel hbs hb2; have s2 := b2.size)
          | (go_at_call 129; have M := twice_any hn hd; with_reducible refine M.mono ?_; clear M; rintro e w3 ⟨v3, v4, rfl, r3, r4, hb3⟩; replace r1 := r1.below hb3; replace r2 := r2.below hb3; replace huu := huu.below hb3; have b3 := below_lift b2 s2 hb3))
        go_roundw
        case rel =>
          refine ⟨j, by omega, by go_num, ?_, ?_, ?_, ?_, huu, b3⟩
          all_goals rw [HL.out, HB.out]; assumption
        case measure => simp [intOf]
    · have hk0 : k' = 0 := by omega
      subst hk0
      clear hm he huu
      rw [show ((0 : Nat) : Int) - 1 = -1 from rfl]
      go_wp2_with (first
        | (go_at_call 130; have M := rinverse_any hd; with_reducible refine M.mono ?_; clear M; rintro e w2 ⟨v1, rfl, r1, hb2⟩; replace hn := hn.below hb2; have b2 := below_lift hbel hbs hb2; have s2 := b2.size)
        | (go_at_call 131; have M := mul_any hn r1; with_reducible refine M.mono ?_; clear M; rintro e w3 ⟨v3, rfl, r3, hb3⟩; have b3 := below_lift b2 s2 hb3; have s3 := b3.size)
        | (go_at_call 132; have M := rtext_any r3; with_reducible refine M.mono ?_; clear M; rintro e w4 ⟨b, rfl, hbb, hbv, hb4⟩))
      go_ret
      refine ⟨b, rfl, hbb, ?_, below_lift b3 s3 hb4⟩
      rw [hbv, ← HU.out]
      exact (Eqv.refl _).mul (Eqv.mod _)
end Go.Proofs.YteghoooelgcpkaaGreatDoor
namespace Go.Proofs.YteghoooelgcpkaaGreatDoor
open Go.RowKit Go.Msg
attribute [simp, go_sem] bstr_size
def b1 (x : Int) : ByteArray := bstr 1 (fun _ => x)
@[simp, go_sem] theorem b1_size (x : Int) : (b1 x).size = 1 := bstr_size _ _
theorem arr_1 (k : IntKind) (x : Int) : #[Value.int k x] = tab k 1 (fun _ => x) := by rw [tab_eq]; rfl
theorem cv_row (W : World) (g : Nat) (x : Int) (h : W.rowOf g = #[.int .u8 x]) : (convert 112 9 (.slice (some ⟨g, 0, none⟩) 1 1)).run Tryz.prog W = .ok (.string (b1 x)) W := by
  rw [run_convert_row W 112 9 5 Tryz.underlying112 Tryz.underlying5 Tryz.underlying9 g 0 1 1 1 (fun _ => x) (by rw [h, arr_1]) (by omega)]; rfl
theorem cv1 (w : World) (x : Int) : (convert 112 9 (.slice (some ⟨w.heap.size, 0, none⟩) 1 1)).run Tryz.prog (w.alloc (.cells #[.int .u8 x] 5)).drew = .ok (.string (b1 x)) (w.alloc (.cells #[.int .u8 x] 5)).drew := cv_row _ _ _ (by simp [go_sem])
theorem cv2 (w : World) (x : Int) (o : Obj) : (convert 112 9 (.slice (some ⟨w.heap.size, 0, none⟩) 1 1)).run Tryz.prog ((w.alloc (.cells #[.int .u8 x] 5)).alloc o).drew = .ok (.string (b1 x)) ((w.alloc (.cells #[.int .u8 x] 5)).alloc o).drew := cv_row _ _ _ (by simp [go_sem])
theorem cv3 (w : World) (x : Int) (o : Obj) : (convert 112 9 (.slice (some ⟨w.heap.size + 1, 0, none⟩) 1 1)).run Tryz.prog ((w.alloc o).alloc (.cells #[.int .u8 x] 5)).drew = .ok (.string (b1 x)) ((w.alloc o).alloc (.cells #[.int .u8 x] 5)).drew := cv_row _ _ _ (by simp [go_sem])
theorem get_data (s : ByteArray) (i : Nat) (h : i < s.size) : s[i] = s.data[i]'h := rfl
theorem sb_data (s : ByteArray) (i : Nat) : sb s i = ((s.data[i]?).map fun c => (c.toNat : Int)).getD 0 := by
  unfold sb
  by_cases h : i < s.size
  · rw [dif_pos h, get_data s i h, Array.getElem?_eq_getElem h]; rfl
  · rw [dif_neg h, Array.getElem?_eq_none (by simpa using h)]; rfl
theorem sb_append (a b : ByteArray) (i : Nat) : sb (a ++ b) i = if i < a.size then sb a i else sb b (i - a.size) := by
  simp only [sb_data, ByteArray.data_append]
  by_cases h : i < a.size
  · rw [if_pos h, Array.getElem?_append_left h]
  · rw [if_neg h, Array.getElem?_append_right (by simpa using h)]; rfl
theorem sb_bstr (n : Nat) (f : Nat → Int) (i : Nat) (hi : i < n) (h : 0 ≤ f i ∧ f i ≤ 255) : sb (bstr n f) i = f i := by
  unfold sb
  rw [dif_pos (by rw [bstr_size]; exact hi), bstr_get]; omega
theorem sb_b1 (x : Int) (h : 0 ≤ x ∧ x ≤ 255) : sb (b1 x) 0 = x := sb_bstr 1 (fun _ => x) 0 (by omega) h
theorem sb_extract (s : ByteArray) (i j n : Nat) (h : i + n < j) (hj : j ≤ s.size) : sb (s.extract i j) n = sb s (i + n) := by
  simp only [sb_data, ByteArray.data_extract]
  rw [Array.getElem?_extract, if_pos (by simp; omega)]
theorem sb_high (s : ByteArray) (i : Nat) (h : s.size ≤ i) : sb s i = 0 := by unfold sb; rw [dif_neg (by omega)]
theorem clamp_text (k : ByteArray) (hk : k.size = 32) : sb (b1 (sb k 0 / 8 * 8) ++ k.extract 1 31 ++ b1 (sb k 31 % 64 + 64)) = clampF (sb k) := by
  have h0 := sb_bd k 0
  have h31 := sb_bd k 31
  funext i
  have z1 : (b1 (sb k 0 / 8 * 8) ++ k.extract 1 31).size = 31 := by simp [ByteArray.size_extract, hk]
  rw [sb_append, z1, sb_append, b1_size]
  unfold clampF upd
  by_cases e0 : i = 0
  · subst e0; simp [sb_b1 (sb k 0 / 8 * 8) (by omega)]
  · by_cases e1 : i = 31
    · subst e1; simp [sb_b1 (sb k 31 % 64 + 64) (by omega)]
    · by_cases e2 : i < 31
      · rw [if_pos e2, if_neg (by omega), sb_extract k 1 31 _ (by omega) (by omega), if_neg e1, if_neg e0]; congr 1; omega
      · rw [if_neg e2, if_neg e1, if_neg e0, sb_high _ _ (by simp; omega), sb_high k i (by omega)]
theorem by_alloc2 (w : World) (o1 o2 : Obj) : Below w.heap.size w ((w.alloc o1).alloc o2) := ((Below.refl _ _).alloc (Nat.le_refl _) _).alloc (by simp) _
set_option maxHeartbeats 2000000 in
theorem rclamp_any (k : ByteArray) (hk : k.size = 32) (w : World) :
    Calls Tryz.prog 95 #[.string k] w fun e w' => ∃ s, e = .returned (.string s) ∧ s.size = 32 ∧ sb s = clampF (sb k) ∧ Below w.heap.size w w' := by
  have c1 : (0 : Int) < k.size := by omega
  have c2 : (31 : Int) < k.size := by omega
  have c3 : (31 : Int) ≤ k.size := by omega
  have c4 : 0 < k.size := by omega
  have c5 : 31 < k.size := by omega
  have hb0 : (k[0].toNat : Int) ≤ 255 := by rw [← sb_at k 0 c4]; exact (sb_bd k 0).2
  have hb1 : (k[31].toNat : Int) ≤ 255 := by rw [← sb_at k 31 c5]; exact (sb_bd k 31).2
  go_enter Tryz.func95, Tryz.ntmps95
  go_wp2
  have q1 := cv1
  have q2 := cv2
  have q3 := cv3
  go_region
  all_goals
    go_wp2
    go_ret
    refine ⟨_, rfl, ?_, ?_, (by_alloc2 _ _ _).drew⟩
    · simp [ByteArray.size_extract, hk]
    · rw [← sb_at k 0 c4, ← sb_at k 31 c5]; exact clamp_text k hk
def SharedR (k p : ByteArray) (s : ByteArray) : Prop := ∃ b, s = bstr 32 b ∧ (∀ i, i < 32 → 0 ≤ b i ∧ b i ≤ 255) ∧ bval 32 b = lout (bitAt (clampF (sb k))) (bsum (sb p) 255 % P25519)
theorem SharedR.size {k p s : ByteArray} (h : SharedR k p s) : s.size = 32 := by obtain ⟨b, rfl, _⟩ := h; exact bstr_size _ _
theorem SharedR.same {k p s : ByteArray} {b : Nat → Int} (h : SharedR k p s) (hb : sharedF k p b) : s = bstr 32 b := by
  obtain ⟨c, rfl, h1, h2⟩ := h
  exact bstr_congr (bval_uniq h1 hb.1 (h2.trans hb.2.symm))
set_option maxHeartbeats 400000 in
theorem rshared_any (k p : ByteArray) (hk : k.size = 32) (hp : 32 ≤ p.size) (w : World) :
    Calls Tryz.prog 58 #[.string k, .string p] w fun e w' => ∃ s q, e = .returned (.tuple #[.string s, .bool q]) ∧ SharedR k p s ∧ Below w.heap.size w w' := by
  go_enter Tryz.func58, Tryz.ntmps58
  go_wp2_with (first
    | (go_at_call 95; refine (rclamp_any k hk _).mono ?_; rintro e w1 ⟨c, rfl, hc, hs, hb1⟩; have s1 := hb1.size)
    | (go_at_call 96; refine (rladder_any c p hc hp _).mono ?_; rintro e w2 ⟨b, rfl, hbb, hbv, hb2⟩; have b2 := below_lift hb1 s1 hb2; have s2 := b2.size)
    | (refine wpl_make u8s rfl _ _ rfl 32 32 32 rfl rfl rfl rfl (by omega) ?_)
    | (refine wpl_convert rfl 112 9 5 _ rfl Tryz.underlying112 Tryz.underlying5 Tryz.underlying9 w2.heap.size 0 32 32 rfl 32 (fun _ => 0) ?_ (by decide) ?_; (focus (simp [go_sem]; done))))
  go_ret2
  exact ⟨_, _, rfl, ⟨b, rfl, hbb, by rw [← hs]; exact hbv⟩, b2.alloc s2 _⟩
theorem sb_nine : sb (⟨#[9]⟩ ++ bstr 31 (fun _ => 0)) = sb ⟨#[9]⟩ := by
  funext i
  rw [sb_append]
  by_cases h : i < (ByteArray.mk #[9]).size
  · rw [if_pos h]
  · rw [if_neg h, sb_high ⟨#[9]⟩ i (by omega)]
    by_cases h2 : i - (ByteArray.mk #[9]).size < 31
    · exact sb_bstr _ _ _ h2 (by omega)
    · exact sb_high _ _ (by rw [bstr_size]; omega)
set_option maxHeartbeats 400000 in
theorem rpublic_any (k : ByteArray) (hk : k.size = 32) (w : World) :
    Calls Tryz.prog 52 #[.string k] w fun e w' => ∃ s, e = .returned (.string s) ∧ SharedR k ⟨#[9]⟩ s ∧ Below w.heap.size w w' := by
  go_enter Tryz.func52, Tryz.ntmps52
  go_wp2_with (first
    | (refine wpl_make u8s rfl _ _ rfl 31 31 31 rfl rfl rfl rfl (by omega) ?_)
    | (refine wpl_convert rfl 112 9 5 _ rfl Tryz.underlying112 Tryz.underlying5 Tryz.underlying9 w.heap.size 0 31 31 rfl 31 (fun _ => 0) ?_ (by decide) ?_; (focus (simp [go_sem]; done)))
    | (go_at_call 58; refine (rshared_any k _ hk ?_ _).mono ?_; (focus (rw [ByteArray.size_append, bstr_size]; decide)); rintro e w1 ⟨s, q, rfl, ⟨b, hsb, hbb, hbv⟩, hb1⟩))
  go_ret
  exact ⟨_, rfl, ⟨b, rfl, hbb, by rw [sb_nine] at hbv; exact hbv⟩, below_lift (by_alloc w _) (by simp) hb1⟩
end Go.Proofs.YteghoooelgcpkaaGreatDoor
namespace Go.RowKit
theorem Hid.mk {p : Prop} (h : p) : Hid p := h
end Go.RowKit
namespace Go.Msg
open Go.RowKit Go.Proofs.YteghoooelgcpkaaGreatDoor
theorem bits_xor_nat (k : IntKind) (j : Nat) (hj : j ≤ k.bits) (hk : ∀ n : Int, 0 ≤ n → n < 2 ^ j → k.wrap n = n) (a b : Nat) (ha : a < 2 ^ j) (hb : b < 2 ^ j) :
    bits .xor k a b = ((a ^^^ b : Nat) : Int) := by
  have hp : 2 ^ j ≤ 2 ^ k.bits := Nat.pow_le_pow_right (by decide) hj
  have ha' : a % 2 ^ k.bits = a := Nat.mod_eq_of_lt (Nat.lt_of_lt_of_le ha hp)
  have hb' : b % 2 ^ k.bits = b := Nat.mod_eq_of_lt (Nat.lt_of_lt_of_le hb hp)
  have cast : ∀ n : Nat, n < 2 ^ j → ((n : Nat) : Int) < 2 ^ j := fun n h => by exact_mod_cast h
  simp only [bits, BitVec.ofInt_natCast, BitVec.toNat_xor, BitVec.toNat_ofNat, ha', hb']
  exact hk _ (Int.natCast_nonneg _) (cast _ (Nat.xor_lt_two_pow ha hb))
theorem wraps_i64 (n : Int) (h₀ : 0 ≤ n) (h₁ : n < 2 ^ 32) : IntKind.i64.wrap n = n := by rw [IntKind.wrap_i64]; omega
def B32 (x : Int) : Prop := 0 ≤ x ∧ x < 4294967296
theorem B32.nat {x : Int} (h : B32 x) : ∃ a : Nat, x = a ∧ a < 2 ^ 32 := ⟨x.toNat, by unfold B32 at h; omega, by unfold B32 at h; omega⟩
def xr (x y : Int) : Int := bits .xor .u32 x y
def an (x y : Int) : Int := bits .and .u32 x y
theorem bits_bd (op : BinOp) (x y : Int) : B32 (bits op .u32 x y) := ⟨bits_lo_u32 op x y, by have := bits_hi_u32 op x y; omega⟩
theorem xr_bd (x y : Int) : B32 (xr x y) := bits_bd _ _ _
theorem an_bd (x y : Int) : B32 (an x y) := bits_bd _ _ _
theorem xor64 {x y : Int} (hx : B32 x) (hy : B32 y) : bits .xor .i64 x y = xr x y := by
  obtain ⟨a, rfl, ha⟩ := hx.nat
  obtain ⟨b, rfl, hb⟩ := hy.nat
  unfold xr
  rw [bits_xor_nat .i64 32 (by decide) wraps_i64 a b ha hb, bits_xor_nat .u32 32 (by decide) wraps_u32 a b ha hb]
theorem and64 {x y : Int} (hx : B32 x) (hy : B32 y) : bits .and .i64 x y = an x y := by
  obtain ⟨a, rfl, ha⟩ := hx.nat
  obtain ⟨b, rfl, hb⟩ := hy.nat
  unfold an
  rw [(bits_nat .i64 32 (by decide) wraps_i64 a b ha hb).1, (bits_nat .u32 32 (by decide) wraps_u32 a b ha hb).1]
theorem xr_comm (x y : Int) : xr x y = xr y x := by simp only [xr, bits, BitVec.xor_comm]
theorem xor8_comm (x y : Int) : bits .xor .u8 x y = bits .xor .u8 y x := by simp only [bits, BitVec.xor_comm]
def rr (x : Int) (n : Nat) : Int := x / 2 ^ n + x * 2 ^ (32 - n) % 4294967296
theorem rr_parts {x : Int} (hx : B32 x) (n : Nat) (hn : n ≤ 32) : 0 ≤ x / 2 ^ n ∧ x / 2 ^ n < 2 ^ (32 - n) ∧ x * 2 ^ (32 - n) % 4294967296 = x % 2 ^ n * 2 ^ (32 - n) := by
  have hp : (0 : Int) < 2 ^ n := Int.pow_pos (by omega)
  have hq : (0 : Int) < 2 ^ (32 - n) := Int.pow_pos (by omega)
  have hpq : (2 : Int) ^ n * 2 ^ (32 - n) = 4294967296 := by rw [← Int.pow_add, show n + (32 - n) = 32 by omega]; rfl
  refine ⟨Int.ediv_nonneg hx.1 (by omega), ?_, ?_⟩
  · apply Int.ediv_lt_of_lt_mul hp
    have h1 := hx.2
    rw [Int.mul_comm, hpq]; exact h1
  · rw [← hpq, Int.mul_comm x, Int.mul_comm (2 ^ n) (2 ^ (32 - n)), Int.mul_emod_mul_of_pos _ _ hq, Int.mul_comm]
theorem rr_bd {x : Int} (hx : B32 x) (n : Nat) (hn : n ≤ 32) : B32 (rr x n) := by
  obtain ⟨h1, h2, h3⟩ := rr_parts hx n hn
  have hp : (0 : Int) < 2 ^ n := Int.pow_pos (by omega)
  have hq : (0 : Int) < 2 ^ (32 - n) := Int.pow_pos (by omega)
  have hpq : (2 : Int) ^ n * 2 ^ (32 - n) = 4294967296 := by rw [← Int.pow_add, show n + (32 - n) = 32 by omega]; rfl
  have h4 := Int.emod_nonneg x (show (2 : Int) ^ n ≠ 0 by omega)
  have h5 := Int.emod_lt_of_pos x hp
  unfold rr B32
  rw [h3]
  have h6 : 0 ≤ x % 2 ^ n * 2 ^ (32 - n) := Int.mul_nonneg h4 (by omega)
  have h7 : (x % 2 ^ n + 1) * 2 ^ (32 - n) ≤ 2 ^ n * 2 ^ (32 - n) := Int.mul_le_mul_of_nonneg_right (by omega) (by omega)
  rw [Int.add_mul, hpq] at h7
  omega
theorem rr_or {x : Int} (hx : B32 x) (n : Nat) (hn : n ≤ 32) : bits .or .u32 (x / 2 ^ n) (x * 2 ^ (32 - n) % 4294967296) = rr x n := by
  obtain ⟨h1, h2, h3⟩ := rr_parts hx n hn
  have hb := rr_bd hx n hn
  have hp : (0 : Int) < 2 ^ n := Int.pow_pos (by omega)
  have hq : (0 : Int) < 2 ^ (32 - n) := Int.pow_pos (by omega)
  have h4 := Int.emod_nonneg x (show (2 : Int) ^ n ≠ 0 by omega)
  have h6 : 0 ≤ x % 2 ^ n * 2 ^ (32 - n) := Int.mul_nonneg h4 (by omega)
  have hcm : ∀ a b : Int, bits .or .u32 a b = bits .or .u32 b a := fun a b => by simp only [bits, BitVec.or_comm]
  unfold rr B32 at *
  rw [hcm, h3]
  rw [h3] at hb
  rw [bits_join .u32 32 (by decide) wraps_u32 (32 - n) _ _ h6 (by simp) (by omega) h1 h2 (by omega), Int.add_comm]
def word (b : Nat → Int) (i : Nat) : Int := ((b (4 * i) * 256 + b (4 * i + 1)) * 256 + b (4 * i + 2)) * 256 + b (4 * i + 3)
def sg0 (x : Int) : Int := xr (xr (rr x 7) (rr x 18)) (x / 8)
def sg1 (x : Int) : Int := xr (xr (rr x 17) (rr x 19)) (x / 1024)
def wnext (f : Nat → Int) (m : Nat) : Int := (f m + sg0 (f (m + 1)) + f (m + 9) + sg1 (f (m + 14))) % 4294967296
def wl (b : Nat → Int) : Nat → Nat → Int
  | 0 => fun _ => 0
  | n + 1 => upd (wl b n) n (if n < 16 then word b n else wnext (wl b n) (n - 16))
theorem wl_lo (b : Nat → Int) (n : Nat) (h : n < 16) : wl b (n + 1) = upd (wl b n) n (word b n) := by rw [wl, if_pos h]
theorem wl_hi (b : Nat → Int) (m : Nat) : wl b (m + 16 + 1) = upd (wl b (m + 16)) (m + 16) (wnext (wl b (m + 16)) m) := by rw [wl, if_neg (by omega), Nat.add_sub_cancel]
def B8 (b : Nat → Int) : Prop := ∀ i, 0 ≤ b i ∧ b i < 256
theorem word_bd {b : Nat → Int} (h : B8 b) (i : Nat) : B32 (word b i) := by
  have h0 := h (4 * i); have h1 := h (4 * i + 1); have h2 := h (4 * i + 2); have h3 := h (4 * i + 3)
  unfold word B32; omega
theorem mod32 (x : Int) : B32 (x % 4294967296) := ⟨by omega, by omega⟩
theorem upd_bd {f : Nat → Int} (h : ∀ i, B32 (f i)) (n : Nat) {z : Int} (hz : B32 z) (i : Nat) : B32 (upd f n z i) := by
  unfold upd; split
  · exact hz
  · exact h i
theorem wl_bd {b : Nat → Int} (h : B8 b) (n : Nat) : ∀ i, B32 (wl b n i) := by
  induction n with
  | zero => intro i; show B32 0; exact ⟨by decide, by decide⟩
  | succ n ih =>
    rw [wl]
    refine upd_bd ih n ?_
    split
    · exact word_bd h n
    · exact mod32 _
def oct (a b c d e f g h : Int) (i : Nat) : Int := ([a, b, c, d, e, f, g, h].getD i 0)
def rT (k w : Int) (s : Nat → Int) : Int := (s 7 + xr (xr (rr (s 4) 6) (rr (s 4) 11)) (rr (s 4) 25) + xr (an (s 4) (s 5)) (an (4294967295 - s 4) (s 6)) + k + w) % 4294967296
def rU (s : Nat → Int) : Int := (xr (xr (rr (s 0) 2) (rr (s 0) 13)) (rr (s 0) 22) + xr (xr (an (s 0) (s 1)) (an (s 0) (s 2))) (an (s 1) (s 2))) % 4294967296
def rstep (k w : Int) (s : Nat → Int) : Nat → Int := oct ((rT k w s + rU s) % 4294967296) (s 0) (s 1) (s 2) ((s 3 + rT k w s) % 4294967296) (s 4) (s 5) (s 6)
def o8 (h : Nat → Int) : Nat → Int := oct (h 0) (h 1) (h 2) (h 3) (h 4) (h 5) (h 6) (h 7)
theorem o8_at (h : Nat → Int) (i : Nat) (hi : i < 8) : o8 h i = h i := by
  match i, hi with
  | 0, _ => rfl
  | 1, _ => rfl
  | 2, _ => rfl
  | 3, _ => rfl
  | 4, _ => rfl
  | 5, _ => rfl
  | 6, _ => rfl
  | 7, _ => rfl
theorem oct_bd {a b c d e f g h : Int} (ha : B32 a) (hb : B32 b) (hc : B32 c) (hd : B32 d) (he : B32 e) (hf : B32 f) (hg : B32 g) (hh : B32 h) (i : Nat) : B32 (oct a b c d e f g h i) := by
  match i with
  | 0 => exact ha
  | 1 => exact hb
  | 2 => exact hc
  | 3 => exact hd
  | 4 => exact he
  | 5 => exact hf
  | 6 => exact hg
  | 7 => exact hh
  | i + 8 => simp [oct, B32]
def fracB (most : Int) (n : Nat) : Nat → Int → Int
  | 0, v => v
  | j + 1, v => if most < (v + 2 ^ j) ^ n then fracB most n j v else fracB most n j (v + 2 ^ j)
def frac (p : Int) (n : Nat) : Int := fracB (p * 65536 ^ (2 * n)) n 37 0 % 4294967296
def PL : Nat → List Int
  | 0 => []
  | n + 1 => if (PL n).all (fun p => ((n : Int) + 2) % p != 0) then PL n ++ [(n : Int) + 2] else PL n
def prm (i : Nat) : Int := (PL 310).getD i 0
def Kc (i : Nat) : Int := frac (prm i) 3
def Hc (i : Nat) : Int := frac (prm i) 2
theorem Kc_bd (i : Nat) : B32 (Kc i) := mod32 _
theorem Hc_bd (i : Nat) : B32 (Hc i) := mod32 _
def rnds (w h : Nat → Int) : Nat → Nat → Int
  | 0 => o8 h
  | k + 1 => rstep (Kc k) (w k) (rnds w h k)
theorem rstep_bd (k w : Int) {s : Nat → Int} (h : ∀ i, B32 (s i)) (i : Nat) : B32 (rstep k w s i) := oct_bd (mod32 _) (h _) (h _) (h _) (mod32 _) (h _) (h _) (h _) i
theorem rnds_bd {w h : Nat → Int} (hh : ∀ i, i < 8 → B32 (h i)) (k : Nat) : ∀ i, B32 (rnds w h k i) := by
  induction k with
  | zero => exact oct_bd (hh _ (by omega)) (hh _ (by omega)) (hh _ (by omega)) (hh _ (by omega)) (hh _ (by omega)) (hh _ (by omega)) (hh _ (by omega)) (hh _ (by omega))
  | succ k ih => exact rstep_bd _ _ ih
def blockF (h b : Nat → Int) (i : Nat) : Int := (h i + rnds (wl b 64) h 64 i) % 4294967296
theorem blockF_bd (h b : Nat → Int) (i : Nat) : B32 (blockF h b i) := mod32 _
def be : Nat → Int → ByteArray
  | 0, _ => ⟨#[]⟩
  | k + 1, n => b1 (n / 256 ^ k % 256) ++ be k n
theorem be_size (k : Nat) (n : Int) : (be k n).size = k := by
  induction k with
  | zero => rfl
  | succ k ih => rw [be, ByteArray.size_append, ih, b1_size]; omega
def zeros (n : Nat) : ByteArray := bstr n (fun _ => 0)
def padZ (n : Nat) : Nat := (119 - n % 64) % 64
def pad (t : ByteArray) : ByteArray := t ++ b1 128 ++ zeros (padZ t.size) ++ be 8 (8 * (t.size : Int))
theorem pad_size (t : ByteArray) : (pad t).size = t.size + 9 + padZ t.size := by
  simp only [pad, ByteArray.size_append, b1_size, be_size, zeros, bstr_size]; omega
theorem pad_mod (t : ByteArray) : (pad t).size % 64 = 0 := by rw [pad_size]; unfold padZ; omega
def hs (T : ByteArray) : Nat → Nat → Int
  | 0 => Hc
  | k + 1 => blockF (hs T k) (fun i => sb (T.extract (64 * k) (64 * k + 64)) i)
theorem hs_bd (T : ByteArray) (k : Nat) : ∀ i, B32 (hs T k i) := by
  cases k with
  | zero => exact fun i => Hc_bd i
  | succ k => exact fun i => blockF_bd _ _ i
def dig (f : Nat → Int) : Nat → ByteArray
  | 0 => ⟨#[]⟩
  | k + 1 => dig f k ++ be 4 (f k)
theorem dig_size (f : Nat → Int) (k : Nat) : (dig f k).size = 4 * k := by
  induction k with
  | zero => rfl
  | succ k ih => rw [dig, ByteArray.size_append, ih, be_size]; omega
theorem dig_congr {f g : Nat → Int} (k : Nat) (h : ∀ i, i < k → f i = g i) : dig f k = dig g k := by
  induction k with
  | zero => rfl
  | succ k ih => rw [dig, dig, ih (fun i hi => h i (by omega)), h k (by omega)]
def shaF (t : ByteArray) : ByteArray := dig (hs (pad t) ((pad t).size / 64)) 8
theorem shaF_size (t : ByteArray) : (shaF t).size = 32 := dig_size _ _
def veil (k : ByteArray) (v : Int) : ByteArray := bstr 64 (fun i => bits .xor .u8 (sb k i) v)
theorem veil_size (k : ByteArray) (v : Int) : (veil k v).size = 64 := bstr_size _ _
def macF (k t : ByteArray) : ByteArray := shaF (veil k 92 ++ shaF (veil k 54 ++ t))
theorem macF_size (k t : ByteArray) : (macF k t).size = 32 := shaF_size _
def hkT (k u : ByteArray) : Nat → ByteArray
  | 0 => ⟨#[]⟩
  | j + 1 => macF k (hkT k u j ++ u ++ b1 ((j : Int) + 1))
def hkA (k u : ByteArray) : Nat → ByteArray
  | 0 => ⟨#[]⟩
  | j + 1 => hkA k u j ++ hkT k u (j + 1)
theorem hkA_size (k u : ByteArray) (j : Nat) : (hkA k u j).size = 32 * j := by
  induction j with
  | zero => rfl
  | succ j ih => rw [hkA, ByteArray.size_append, ih, hkT, macF_size]; omega
theorem hkT_size (k u : ByteArray) (j : Nat) : (hkT k u j).size ≤ 32 := by
  cases j with
  | zero => exact Nat.zero_le _
  | succ j => rw [hkT, macF_size]; omega
def hkdfF (s t u : ByteArray) (n : Nat) : ByteArray := (hkA (macF s t) u ((n + 31) / 32)).extract 0 n
theorem hkdfF_size (s t u : ByteArray) (n : Nat) : (hkdfF s t u n).size = n := by
  unfold hkdfF; rw [ByteArray.size_extract, hkA_size]; omega
end Go.Msg
namespace Go.Msg
open Go.RowKit
theorem PL_two (n : Nat) : ∀ p ∈ PL n, 2 ≤ p ∧ p ≤ (n : Int) + 1 := by
  induction n with
  | zero => intro p hp; cases hp
  | succ n ih =>
    intro p hp
    rw [PL] at hp
    split at hp
    · rcases List.mem_append.1 hp with h | h
      · have := ih p h; omega
      · have : p = (n : Int) + 2 := by simpa using h
        omega
    · have := ih p hp; omega
theorem PL_len (n : Nat) : (PL n).length ≤ (PL (n + 1)).length := by
  rw [PL]; split
  · simp
  · omega
theorem PL_mono {a b : Nat} (h : a ≤ b) : (PL a).length ≤ (PL b).length := by
  induction b with
  | zero => have : a = 0 := by omega
            subst this; omega
  | succ b ih =>
    by_cases e : a = b + 1
    · subst e; omega
    · have := ih (by omega); have := PL_len b; omega
theorem PL_64 : (PL 310).length = 64 := by decide +kernel
theorem PL_pre (n k : Nat) : ∃ l, PL (n + k) = PL n ++ l := by
  induction k with
  | zero => exact ⟨[], by simp⟩
  | succ k ih =>
    obtain ⟨l, hl⟩ := ih
    rw [show n + (k + 1) = (n + k) + 1 by omega, PL]
    split
    · exact ⟨l ++ [((n + k : Nat) : Int) + 2], by rw [hl, List.append_assoc]⟩
    · exact ⟨l, hl⟩
theorem PL_prm {n : Nat} (hn : n ≤ 310) (i : Nat) (hi : i < (PL n).length) : (PL n).getD i 0 = prm i := by
  obtain ⟨l, hl⟩ := PL_pre n (310 - n)
  rw [show n + (310 - n) = 310 by omega] at hl
  unfold prm
  rw [hl]
  simp [List.getElem?_append_left hi]
theorem prm_bd (i : Nat) (hi : i < 64) : 2 ≤ prm i ∧ prm i ≤ 1000 := by
  have h1 : i < (PL 310).length := by rw [PL_64]; exact hi
  have h2 : prm i = (PL 310)[i] := by unfold prm; simp [h1]
  have := PL_two 310 _ (List.getElem_mem h1)
  rw [h2]; omega
def PLf (n : Nat) (i : Nat) : Int := (PL n).getD i 0
theorem ints_of_list (l : List Int) : ints .i64 l.length (fun i => l.getD i 0) = l.map (Value.int .i64) := by
  apply List.ext_getElem?
  intro i
  by_cases h : i < l.length
  · rw [ints_get _ _ _ _ h]; simp [h]
  · simp [ints, h]
def PT (n k : Nat) : Bool := ((PL n).take k).all (fun p => ((n : Int) + 2) % p != 0)
theorem PT_zero (n : Nat) : PT n 0 = true := by simp [PT]
theorem PT_succ (n k : Nat) (h : k < (PL n).length) : PT n (k + 1) = (PT n k && (((n : Int) + 2) % (PLf n k) != 0)) := by
  unfold PT PLf
  rw [List.take_succ_eq_append_getElem h, List.all_append]
  simp only [List.all_cons, List.all_nil, Bool.and_true, List.getD_eq_getElem?_getD, List.getElem?_eq_getElem h, Option.getD_some]
theorem PT_all (n : Nat) : PT n (PL n).length = (PL n).all (fun p => ((n : Int) + 2) % p != 0) := by
  unfold PT; rw [List.take_length]
theorem PL_yes {n : Nat} (h : PT n (PL n).length = true) : (PL (n + 1)).length = (PL n).length + 1 ∧ ints .i64 (PL (n + 1)).length (PLf (n + 1)) = ints .i64 ((PL n).length + 1) (upd (PLf n) (PL n).length ((n : Int) + 2)) := by
  rw [PT_all] at h
  have e : PL (n + 1) = PL n ++ [(n : Int) + 2] := by rw [PL, if_pos h]
  refine ⟨by rw [e]; simp, ?_⟩
  unfold PLf
  rw [ints_of_list, ← ints_snoc, ints_of_list, e]; simp
theorem PL_no {n : Nat} (h : PT n (PL n).length = false) : PL (n + 1) = PL n := by
  rw [PT_all] at h
  rw [PL, if_neg (by rw [h]; simp)]
end Go.Msg
namespace Go.Proofs.YteghoooelgcpkaaGreatDoor
open Go.RowKit Go.Msg
theorem num_congr {w : World} {v : Value} {n : Nat} {f g : Nat → Int} (h : NumAt w v n f) (e : ∀ i, i < n → f i = g i) : NumAt w v n g := by
  obtain ⟨ao, cap, q, h1, h2, h3, h4⟩ := h
  exact ⟨ao, cap, q, h1, h2, h3, fun i hi => by rw [← e i hi]; exact h4 i hi⟩
theorem owns_alloc {w : World} {B e : Nat} {v : Value} {n : Nat} {xs : List Value} (h : w.ownsRow B e 1 v n xs) (o : Obj) : (w.alloc o).ownsRow B e 1 v n xs := h.alloc o
theorem intS : SliceTy Tryz.prog 44 3 .i64 8 := ⟨Tryz.underlying44, by kernel_rfl, by omega⟩
set_option maxHeartbeats 2000000 in
theorem primes_any (w : World) : Calls Tryz.prog 25 #[.int .i64 64] w fun e w' => ∃ v, e = .returned v ∧ NumAt w' v 64 prm ∧ Below w.heap.size w w' := by
  go_enter Tryz.func25, Tryz.ntmps25
  go_wp2
  go_loopw [3, 4, 5, 6] (fun v i _ _ wr => ∃ (n : Nat), n ≤ 310 ∧ (PL n).length ≤ 64 ∧ i = .int .i64 ((n : Int) + 2) ∧ wr.ownsRow w.heap.size 3 1 v (PL n).length (ints .i64 (PL n).length (PLf n)) ∧ Below w.heap.size w wr) (fun _ i _ _ _ => 1000 - (intOf i).toNat)
  case atStart => exact ⟨0, by omega, by decide, rfl, World.ownsRow_nil _ _ _ _, Below.refl _ _⟩
  case round =>
    obtain ⟨n, hn311, hn, rfl, hown, hbel⟩ := hrel
    have hbs := hbel.size
    have hnum := NumAt.of_owns hown
    obtain ⟨ao, cap, g, rfl, hc1, ha1, hx1⟩ := hnum
    have hf : ∀ i, i < (PL n).length → 2 ≤ PLf n i ∧ PLf n i ≤ (n : Int) + 1 := fun i hi => by
      unfold PLf
      have : (PL n).getD i 0 = (PL n)[i] := by simp [hi]
      rw [this]; exact PL_two n _ (List.getElem_mem hi)
    by_cases hlt : (PL n).length < 64
    · have hn310 : n < 310 := by
        by_cases h : 310 ≤ n
        · have := PL_mono h; rw [PL_64] at this; omega
        · omega
      have c1 : ((PL n).length : Int) < 64 := by omega
      go_wp2
      have HT1 : Hid _ := PT_succ n
      have HT0 := PT_zero n
      have HY : Hid _ := @PL_yes n
      have HN : Hid _ := @PL_no n
      have Hown : Hid _ := hown
      have hL : ((PL n).length : Int) ≤ 64 := by omega
      have hLn : (PL n).length ≤ 64 := hn
      clear hown
      go_loop [5, 6] (fun b i => ∃ k : Nat, k ≤ (PL n).length ∧ i = .int .i64 k ∧ b = .bool (PT n k)) (fun _ i => (PL n).length - (intOf i).toNat)
      case atStart => exact ⟨0, by omega, rfl, by rw [HT0]⟩
      case round =>
        obtain ⟨k, hk, rfl, rfl⟩ := hrel
        by_cases hk2 : k < (PL n).length
        · have c2 : (k : Int) < (PL n).length := by omega
          obtain rfl := ha1 (by omega)
          have y1 := hx1 k hk2
          have f1 := hf k hk2
          have f2 : ¬ PLf n k = 0 := by omega
          have hs := HT1.out k hk2
          clear hx1 ha1 hf
          cases hb : PT n k with
          | true =>
            rw [hb, Bool.true_and] at hs
            have HS : Hid _ := hs
            clear hs hb
            go_wp2
            go_round
            case rel => exact ⟨k + 1, by omega, by go_num, by rw [HS.out]⟩
            case measure => simp [intOf]; omega
          | false =>
            rw [hb, Bool.false_and] at hs
            have HS : Hid _ := hs
            clear hs hb
            go_wp2
            go_round
            case rel => exact ⟨k + 1, by omega, by go_num, by rw [HS.out]⟩
            case measure => simp [intOf]; omega
        · have hk' : k = (PL n).length := by omega
          subst hk'
          cases hb : PT n (PL n).length with
          | true =>
            have HY2 := HY.out hb
            have HY3 : Hid _ := HY2
            clear HY2 hb ha1 hx1 hf
            go_wp2_with (refine wpl_append1 intS rfl _ _ rfl w.heap.size _ (PL n).length (PLf n) rfl ?_ (wr.heap.size) ((n : Int) + 2) rfl ?_ (by omega) ?_ ?_; (focus (exact owns_alloc Hown.out _)); (focus (simp [go_sem]; done)); (focus (simp; omega)); intro v' w' hown' hbel' hsz')
            go_roundw
            case rel => exact ⟨n + 1, by omega, by rw [HY3.out.1]; omega, by go_num, by rw [HY3.out.2, HY3.out.1]; exact hown', hbel' _ (hbel.alloc hbs _)⟩
            case measure => simp [intOf]; omega
          | false =>
            have HN2 : Hid _ := HN.out hb
            clear hb ha1 hx1 hf
            go_wp2
            go_roundw
            case rel => exact ⟨n + 1, by omega, by rw [HN2.out]; omega, by go_num, by unfold PLf; rw [HN2.out]; exact Hown.out, hbel⟩
            case measure => simp [intOf]; omega
    · have hl : (PL n).length = 64 := by omega
      have HF : Hid (∀ i, i < 64 → PLf n i = prm i) := fun i hi => PL_prm hn311 i (by omega)
      have c1 : ((PL n).length : Int) = 64 := by omega
      have HX : Hid (NumAt wr (.slice ao (PL n).length cap) (PL n).length (PLf n)) := ⟨ao, cap, g, rfl, hc1, ha1, hx1⟩
      clear hf hx1 ha1 hown
      go_wp2
      go_ret
      have hX := HX.out
      rw [hl] at hX
      exact ⟨.slice ao (PL n).length cap, rfl, (by rw [hl]; exact num_congr hX HF.out), hbel⟩
end Go.Proofs.YteghoooelgcpkaaGreatDoor
namespace Go
open Go.RowKit Go.Msg
def joinf (n : Nat) (f g : Nat → Int) (i : Nat) : Int := if i < n then f i else g (i - n)
theorem ints_append (k : IntKind) (n m : Nat) (f g : Nat → Int) : ints k n f ++ ints k m g = ints k (n + m) (joinf n f g) := by
  apply List.ext_getElem?
  intro i
  by_cases h : i < n
  · rw [List.getElem?_append_left (by rw [ints_length]; exact h), ints_get _ _ _ _ h, ints_get _ _ _ _ (by omega)]; simp [joinf, h]
  · rw [List.getElem?_append_right (by rw [ints_length]; omega), ints_length]
    by_cases h2 : i < n + m
    · rw [ints_get _ _ _ _ (by omega), ints_get _ _ _ _ h2]; simp [joinf, h]
    · rw [List.getElem?_eq_none (by rw [ints_length]; omega), List.getElem?_eq_none (by rw [ints_length]; omega)]
theorem wpl_appendN {P : Program} {t e : Nat} {k : IntKind} {B : Nat} (hS : SliceTy P t e k B) {ops : Array Oper} {rest : List Oper} {o : Oper} {a : Act} {w : World} {Q : Exit → Act → World → Prop} (hgd : o.guard = none) (s x : Operand)
    (ho : o.op = .call { callee := .builtin .append, args := #[s, x], argTypes := #[t, t] }) (base : Nat) (v : Value) (n : Nat) (f : Nat → Int) (hs : a.eval s = v) (hown : w.ownsRow base e 1 v n (ints k n f)) (g1 m c : Nat) (z : Nat → Int)
    (hx : a.eval x = .slice (some ⟨g1, 0, none⟩) m c) (hz : ∀ i, i < m → w.cell? ⟨g1, i, none⟩ = some (.int k (z i))) (hn : n + m ≤ 1000000) (hb : base ≤ w.heap.size)
    (h : ∀ v' w', w'.ownsRow base e 1 v' (n + m) (ints k (n + m) (joinf n f z)) → (∀ w0, Below base w0 w → Below base w0 w') → w.heap.size ≤ w'.heap.size → wpList P ops Q rest (a.put o.dst v') w') : wpList P ops Q (o :: rest) a w := by
  obtain ⟨ht, hi, hB⟩ := hS
  cases hq : P.info? e with
  | none => simp [hq] at hi
  | some i =>
    simp [hq] at hi
    obtain ⟨i1, i2, i3⟩ := hi
    refine wpList_append_own _ hgd s x t ho base e i (.int k 0) 1 B ht hq i1 i2 i3 rfl (by omega) v n (ints k n f) hs hown ⟨g1, 0, none⟩ m c (ints k m z) hx (by rw [ints_length]; omega) ?_ ?_ ?_ ?_ hb ?_
    · intro j u hj
      have hj' : j < m := by have := (List.getElem?_eq_some_iff.1 hj).1; rwa [ints_length] at this
      rw [ints_get _ _ _ _ hj'] at hj
      rw [Addr.add_mid, Nat.zero_add, hz j hj']; exact hj
    · intro u hu
      simp [ints] at hu
      obtain ⟨i, _, rfl⟩ := hu; rfl
    · unfold maxLen; omega
    · have : (n + m) * B ≤ 1000000 * 8 := Nat.mul_le_mul (by omega) (by omega)
      omega
    · intro v' w' h1 h2 _
      rw [ints_append] at h1
      refine h v' w' h1 (fun w0 hb0 => hb0.grown h2 hb (fun q hq' => (hown.lt q hq').1)) h2.size
theorem own_one (w : World) (B e : Nat) (hB : B ≤ w.heap.size) (k : IntKind) (x : Int) : (w.alloc (.cells #[.int k x] e)).ownsRow B e 1 (.slice (some ⟨w.heap.size, 0, none⟩) 1 1) 1 (ints k 1 (fun _ => x)) :=
  ⟨rfl, Or.inr ⟨w.heap.size, 1, #[.int k x], rfl, hB, by show (w.heap.push _)[w.heap.size]? = _; simp, by omega, by unfold maxLen; omega, rfl, rfl⟩⟩
end Go
namespace Go.Msg
theorem dval_shift1 (m : Nat) (f : Nat → Int) : dval (1 + m) (joinf 1 (fun _ => 0) f) = 65536 * dval m f := by
  rw [dval_shift]
  have : dval m (fun i => joinf 1 (fun _ => 0) f (1 + i)) = dval m f := dval_congr fun i _ => by
    unfold joinf; rw [if_neg (by omega), show 1 + i - 1 = i by omega]
  rw [this]; simp [dval, joinf]
end Go.Msg
namespace Go.Proofs.YteghoooelgcpkaaGreatDoor
open Go.RowKit Go.Msg
theorem shift_num {w : World} {B : Nat} {v : Value} {m : Nat} {f : Nat → Int} (h : w.ownsRow B 3 1 v (1 + m) (ints .i64 (1 + m) (joinf 1 (fun _ => 0) f))) (dg : Dig m f) (tr : Trim m f) (hm : 0 < m) : IsNum w v (65536 * dval m f) := by
  refine ⟨1 + m, joinf 1 (fun _ => 0) f, NumAt.of_owns h, fun i hi => ?_, fun _ => ?_, dval_shift1 m f⟩
  · unfold joinf; split
    · simp
    · exact dg _ (by omega)
  · unfold joinf; rw [if_neg (by omega)]; have := tr hm; rwa [show 1 + m - 1 - 1 = m - 1 by omega]
theorem mul_lt_pow {x y : Int} {a b : Nat} (hx0 : 0 ≤ x) (hx : x < 65536 ^ a) (hy : y < 65536 ^ b) : x * y < 65536 ^ (a + b) := by
  rw [Int.pow_add]
  have h1 : x * y ≤ x * 65536 ^ b := Int.mul_le_mul_of_nonneg_left (by omega) hx0
  have h2 : x * 65536 ^ b < 65536 ^ a * 65536 ^ b := Int.mul_lt_mul_of_pos_right hx (Int.pow_pos (by omega))
  omega
theorem frac_pow {b : Int} {j : Nat} (h : 0 < b) (e : b = 2 ^ j / 2) : ∃ i, j = i + 1 ∧ b = 2 ^ i := by
  cases j with
  | zero => simp at e; omega
  | succ i => exact ⟨i, rfl, by rw [e, Int.pow_succ]; omega⟩
theorem frac_half {b : Int} {j : Nat} (h : 0 < b) (e : b = 2 ^ j / 2) : Hid (b / 2 = 2 ^ (j - 1) / 2) := by
  obtain ⟨i, rfl, rfl⟩ := frac_pow h e
  exact Hid.mk rfl
theorem frac_no {x v b : Int} {n j : Nat} (h : 0 < b) (e : b = 2 ^ j / 2) (hc : x < (v + b) ^ n) : fracB x n j v = fracB x n (j - 1) v := by
  obtain ⟨i, rfl, rfl⟩ := frac_pow h e
  rw [fracB, if_pos hc, Nat.add_sub_cancel]
theorem frac_yes {x v b : Int} {n j : Nat} (h : 0 < b) (e : b = 2 ^ j / 2) (hc : ¬ x < (v + b) ^ n) : fracB x n j v = fracB x n (j - 1) (v + b) := by
  obtain ⟨i, rfl, rfl⟩ := frac_pow h e
  rw [fracB, if_neg hc, Nat.add_sub_cancel]
theorem frac_end {b x v : Int} {n j : Nat} (h : b = 0) (e : b = 2 ^ j / 2) : fracB x n j v = v := by
  cases j with
  | zero => rfl
  | succ i =>
    have h1 : (0 : Int) < 2 ^ i := Int.pow_pos (by omega)
    rw [Int.pow_succ] at e; omega
theorem num_pos_len {n : Nat} {f : Nat → Int} (h : 0 < dval n f) : 0 < n := by
  by_cases e : n = 0
  · subst e; simp [dval] at h
  · omega
set_option maxHeartbeats 4000000 in
theorem fraction_any (p : Int) (n : Nat) (hp : 2 ≤ p ∧ p ≤ 1000) (hn : 2 ≤ n ∧ n ≤ 3) (w : World) :
    Calls Tryz.prog 26 #[.int .i64 p, .int .i64 (n : Int)] w fun e w' => e = .returned (.int .i64 (frac p n)) ∧ Below w.heap.size w w' := by
  have hn1 : (n : Int) ≤ 3 := by omega
  have hn2 : (2 : Int) ≤ n := by omega
  go_enter Tryz.func26, Tryz.ntmps26
  go_wp2_with (go_at_call 45; refine (int_any p (by omega) (by omega) _).mono ?_; rintro e wp ⟨vp, rfl, hq, hbp⟩)
  go_loopw [5, 6] (fun v i wr => ∃ (k : Nat) (x : Int), k ≤ 2 * n ∧ i = .int .i64 k ∧ IsNum wr v x ∧ 0 < x ∧ x < 65536 ^ (1 + k) ∧ Hid (x = p * 65536 ^ k) ∧ Below w.heap.size w wr) (fun _ i _ => 2 * n - (intOf i).toNat)
  case atStart => exact ⟨0, p, by omega, rfl, hq, by omega, by simp; omega, Hid.mk (by simp), hbp⟩
  case round =>
    clear hq hbp
    obtain ⟨k, x, hk, rfl, hx, hx0, hxl, HXV, hbel⟩ := hrel
    have hbs := hbel.size
    have HXL : Hid (x < 65536 ^ (1 + k)) := hxl
    clear hxl
    by_cases hlt : k < 2 * n
    · have c1 : (k : Int) < 2 * n := by omega
      obtain ⟨m, f, ⟨ao, cap, g, rfl, hc1, ha1, hx1⟩, dg, tr, hv⟩ := hx
      have hm : 0 < m := num_pos_len (by rw [hv]; exact hx0)
      obtain rfl := ha1 hm
      have hm2 : m ≤ 1 + k := trim_len dg tr (by rw [hv]; exact HXL.out)
      have HV : Hid _ := hv
      clear hv ha1
      go_wp2_with (refine wpl_appendN nums rfl _ _ rfl w.heap.size _ 1 (fun _ => 0) rfl ?_ g m cap f rfl ?_ (by omega) ?_ ?_; (focus (exact own_one _ _ _ hbs _ _)); (focus (intro i hi; rw [World.cell?_alloc_lt _ _ _ (World.block_lt_of_cell? wr _ (hx1 i hi))]; exact hx1 i hi)); (focus (simp; omega)); intro v' w' hown' hbel' hsz')
      go_roundw
      case rel =>
        refine ⟨k + 1, 65536 * x, by omega, by go_num, ?_, by omega, ?_, Hid.mk (by rw [HXV.out, Int.pow_succ]; grind), hbel' _ (hbel.alloc hbs _)⟩
        · rw [← HV.out]; exact shift_num hown' dg tr hm
        · have := HXL.out
          rw [show 1 + (k + 1) = (1 + k) + 1 by omega, Int.pow_succ]; omega
      case measure => simp [intOf]; omega
    · have hk' : k = 2 * n := by omega
      subst hk'
      have hx1000 : Hid (x < 65536 ^ 1000) := Int.lt_of_lt_of_le HXL.out (pow_mono (by omega))
      clear HXL
      rw [show ((2 * n : Nat) : Int) = 2 * (n : Int) by omega]
      go_wp2
      go_loopw [7, 8, 9, 10, 11, 12] (fun a b _ _ _ _ wq => ∃ (v b' : Int) (j : Nat), Hid (b' = 2 ^ j / 2) ∧ Hid (fracB x n j v = fracB x n 37 0) ∧ 0 ≤ v ∧ 0 ≤ b' ∧ v + 2 * b' ≤ 137438953472 ∧ a = .int .i64 v ∧ b = .int .i64 b' ∧ IsNum wq u5 x ∧ Below w.heap.size w wq) (fun _ b _ _ _ _ _ => (intOf b).toNat)
      case atStart => exact ⟨0, _, 37, Hid.mk (by decide), Hid.mk rfl, by omega, by omega, by omega, rfl, rfl, hx, hbel⟩
      case round =>
        clear hx hbel hbs
        obtain ⟨v, b, j, HB, HF, hv0, hb0, hvb, rfl, rfl, hx, hbel⟩ := hrel
        have hbs := hbel.size
        by_cases hb1 : 0 < b
        · go_wp2_with (go_at_call 45; refine (int_any (v + b) (by omega) (by omega) _).mono ?_; rintro e wi ⟨vi, rfl, hi, hbi⟩)
          have hi3 : Hid (v + b < 65536 ^ 3) := by
            have : (65536 : Int) ^ 3 = 281474976710656 := by decide
            show _ < _
            rw [this]; omega
          replace hx := hx.below hbi
          replace hbel := below_lift hbel hbs hbi
          clear hbi hbs
          go_loopw [10, 11] (fun vy i wq => ∃ (k : Nat) (y : Int), 1 ≤ k ∧ k ≤ n ∧ i = .int .i64 k ∧ IsNum wq vy y ∧ 0 ≤ y ∧ Hid (y < 65536 ^ (3 * k)) ∧ Hid (y = (v + b) ^ k) ∧ IsNum wq vi (v + b) ∧ IsNum wq u5 x ∧ Below w.heap.size w wq) (fun _ i _ => n - (intOf i).toNat)
          case atStart => exact ⟨1, v + b, by omega, by omega, rfl, hi, by omega, hi3, Hid.mk (by rw [Int.pow_succ, Int.pow_zero, Int.one_mul]), hi, hx, hbel⟩
          case round =>
            clear hi hx hbel
            obtain ⟨k, y, hk1, hkn, rfl, hy, hy0, HY, HYV, hi, hx, hbel⟩ := hrel
            have hbs := hbel.size
            by_cases hlt : k < n
            · have c1 : (k : Int) < n := by omega
              go_wp2_with (go_at_call 46; refine (rtimes_any hy hi ?_ ?_).mono ?_; (focus (exact Int.lt_of_lt_of_le HY.out (pow_mono (by omega)))); (focus (exact Int.lt_of_lt_of_le hi3.out (pow_mono (by omega)))); rintro e wt ⟨vt, rfl, ht, hbt⟩)
              go_roundw
              case rel => exact ⟨k + 1, _, by omega, by omega, by go_num, ht, Int.mul_nonneg hy0 (by omega), mul_lt_pow hy0 HY.out hi3.out, Hid.mk (by rw [HYV.out, Int.pow_succ]), hi.below hbt, hx.below hbt, below_lift hbel hbs hbt⟩
              case measure => simp [intOf]; omega
            · have hk' : k = n := by omega
              subst hk'
              have HY2 : Hid (y < 65536 ^ 1000) := Int.lt_of_lt_of_le HY.out (pow_mono (by omega))
              clear HY
              by_cases hc : x < y
              · have hcd : decide (x < y) = true := decide_eq_true hc
                go_wp2_with (go_at_call 47; refine (less_any hx hy hx1000.out HY2.out).mono ?_; rintro e wl ⟨rfl, hbl⟩; rw [hcd])
                go_roundw
                case rel => exact ⟨v, b / 2, j - 1, frac_half hb1 HB.out, Hid.mk (by rw [← HF.out]; exact (frac_no hb1 HB.out (by rw [← HYV.out]; exact hc)).symm), by omega, by omega, by omega, rfl, rfl, hx.below hbl, below_lift hbel hbs hbl⟩
                case measure => simp [intOf]; omega
              · have hcd : decide (x < y) = false := decide_eq_false hc
                go_wp2_with (go_at_call 47; refine (less_any hx hy hx1000.out HY2.out).mono ?_; rintro e wl ⟨rfl, hbl⟩; rw [hcd])
                go_roundw
                case rel => exact ⟨v + b, b / 2, j - 1, frac_half hb1 HB.out, Hid.mk (by rw [← HF.out]; exact (frac_yes hb1 HB.out (by rw [← HYV.out]; omega)).symm), by omega, by omega, by omega, rfl, rfl, hx.below hbl, below_lift hbel hbs hbl⟩
                case measure => simp [intOf]; omega
        · have c1 : b = 0 := by omega
          have hv : v = fracB x n 37 0 := by rw [← HF.out, frac_end c1 HB.out]
          have hr : v % 4294967296 = frac p n := by rw [hv, HXV.out]; rfl
          have HR : Hid _ := hr
          clear hr hv
          go_wp2
          go_ret
          exact ⟨congrArg (fun z => Ending.returned (Value.int IntKind.i64 z)) HR.out, hbel⟩
end Go.Proofs.YteghoooelgcpkaaGreatDoor
namespace Go.Proofs.YteghoooelgcpkaaGreatDoor
open Go.RowKit Go.Msg
def Agr (n : Nat) (c f : Nat → Int) : Prop := ∀ i, i < n → f i = c i
theorem Agr.snoc {n : Nat} {c f : Nat → Int} (h : Agr n c f) {z : Int} (hz : z = c n) : Agr (n + 1) c (upd f n z) := fun i hi => by
  by_cases e : i = n
  · subst e; simp only [upd, if_true]; exact hz
  · simp only [upd, e, if_false]; exact h i (by omega)
theorem num_set {w : World} {v : Value} {n : Nat} {f : Nat → Int} (h : NumAt w v n f) (a : Addr) (u s : Value) (hs : w.cell? ⟨a.block, 0, none⟩ = some s) (hne : ∀ z, s ≠ .int .i64 z) : NumAt (w.setCell a u) v n f := by
  obtain ⟨ao, cap, g, hv, hc, hao, hcell⟩ := h
  refine ⟨ao, cap, g, hv, hc, hao, fun i hi => ?_⟩
  have hg : g ≠ a.block := fun e => by
    have := hcell 0 (by omega)
    rw [e, hs] at this
    exact hne _ (Option.some.inj this)
  rw [World.cell?_of_block (w := w) (Below.heap_setCell w a u g hg)]; exact hcell i hi
theorem own_slice {w : World} {B e : Nat} {v : Value} {n : Nat} {xs : List Value} (h : w.ownsRow B e 1 v n xs) : ∀ z, v ≠ .int .i64 z := fun z hz => by
  subst hz
  rcases h.2 with hn | ⟨g, cap, cur, hv, _⟩
  · exact absurd hn.1 (by simp)
  · exact absurd hv (by simp)
theorem own_below {w w' : World} {B e : Nat} {v : Value} {n : Nat} {xs : List Value} (h : w.ownsRow B e 1 v n xs) (hb : Below w.heap.size w w') : w'.ownsRow B e 1 v n xs := by
  refine ⟨h.1, ?_⟩
  rcases h.2 with hn | ⟨g, cap, cur, rfl, hg, hh, rest⟩
  · exact Or.inl hn
  · exact Or.inr ⟨g, cap, cur, rfl, hg, by rw [hb.block g (Array.getElem?_eq_some_iff.1 hh).1]; exact hh, rest⟩
theorem own_some {w : World} {B e : Nat} {v : Value} {n : Nat} {xs : List Value} (h : w.ownsRow B e 1 v n xs) (hn : 0 < n) : ∃ g cap, v = .slice (some ⟨g, 0, none⟩) n cap := by
  rcases h.2 with h0 | ⟨g, cap, cur, rfl, _⟩
  · omega
  · exact ⟨g, cap, rfl⟩
theorem own_set {w : World} {B e : Nat} {v : Value} {n : Nat} {xs : List Value} (h : w.ownsRow B e 1 v n xs) (a : Addr) (u : Value) (ha : a.block < B) : (w.setCell a u).ownsRow B e 1 v n xs := by
  refine ⟨h.1, ?_⟩
  rcases h.2 with hn | ⟨g, cap, cur, rfl, hg, hh, rest⟩
  · exact Or.inl hn
  · exact Or.inr ⟨g, cap, cur, rfl, hg, by rw [Below.heap_setCell w a u g (by omega)]; exact hh, rest⟩
def PrimAt (w : World) (v : Value) : Prop := ∃ g vk vh, v = .pointer (some ⟨g, 0, none⟩) ∧ w.cell? ⟨g, 0, none⟩ = some vk ∧ w.cell? ⟨g, 1, none⟩ = some vh ∧ NumAt w vk 64 Kc ∧ NumAt w vh 8 Hc
theorem PrimAt.below {w w' : World} {v : Value} (h : PrimAt w v) (hb : Below w.heap.size w w') : PrimAt w' v := by
  obtain ⟨g, vk, vh, h1, h2, h3, h4, h5⟩ := h
  exact ⟨g, vk, vh, h1, by rw [hb.cell (World.block_lt_of_cell? w _ h2)]; exact h2, by rw [hb.cell (World.block_lt_of_cell? w _ h3)]; exact h3, h4.below hb, h5.below hb⟩
set_option maxHeartbeats 4000000 in
theorem constants_any (w : World) : Calls Tryz.prog 17 #[] w fun e w' => ∃ v, e = .returned v ∧ PrimAt w' v ∧ Below w.heap.size w w' := by
  go_enter Tryz.func17, Tryz.ntmps17
  go_wp2_with (go_at_call 25; refine (primes_any _).mono ?_; rintro e wp ⟨vl, rfl, hl, hbp⟩)
  obtain ⟨fl, hfl⟩ : ∃ f, f = prm := ⟨_, rfl⟩
  rw [← hfl] at hl
  have hlb : ∀ i, i < 64 → 2 ≤ fl i ∧ fl i ≤ 1000 := by rw [hfl]; exact prm_bd
  have HFL : Hid (fl = prm) := hfl
  clear hfl
  have k0 : wp.cell? ⟨w.heap.size, 0, none⟩ = some (.slice none 0 0) := by rw [hbp.cell (by simp)]; simp [go_sem]
  have k1 : wp.cell? ⟨w.heap.size, 1, none⟩ = some (.slice none 0 0) := by rw [hbp.cell (by simp)]; simp [go_sem]
  have z0 : wp.frozen? ⟨w.heap.size, 0, none⟩ = false := by rw [hbp.frozen (by simp)]; simp [go_sem]
  have z1 : wp.frozen? ⟨w.heap.size, 1, none⟩ = false := by rw [hbp.frozen (by simp)]; simp [go_sem]
  have hz : w.heap.size + 1 ≤ wp.heap.size := by have := hbp.size; simp at this; exact this
  have hB := below_lift (by_alloc w _) (by simp) hbp
  clear hbp
  obtain ⟨ao, cap, gl, rfl, hc1, ha1, hx1⟩ := hl
  obtain rfl := ha1 (by omega)
  have hgl : gl < wp.heap.size := World.block_lt_of_cell? wp _ (hx1 0 (by omega))
  have hgl2 : gl ≠ w.heap.size := fun e => by
    have := hx1 0 (by omega)
    rw [e, k0] at this; exact absurd this (by simp)
  have HL : Hid _ := hlb
  have HX : Hid _ := hx1
  clear hlb hx1 ha1
  have HG : Hid (gl ≠ w.heap.size) := hgl2
  clear hgl2
  go_loopw [3, 4] (fun i _ wr => ∃ (k : Nat) (vk : Value) (f : Nat → Int), k ≤ 64 ∧ i = .int .i64 k ∧ wr.ownsRow wp.heap.size 3 1 vk k (ints .i64 k f) ∧ Agr k Kc f ∧ wr.cell? ⟨w.heap.size, 0, none⟩ = some vk ∧ wr.cell? ⟨w.heap.size, 1, none⟩ = some (.slice none 0 0) ∧ wr.frozen? ⟨w.heap.size, 0, none⟩ = false ∧ wr.frozen? ⟨w.heap.size, 1, none⟩ = false ∧ Hid (∀ i, i < 64 → wr.cell? ⟨gl, i, none⟩ = some (.int .i64 (fl i))) ∧ Below w.heap.size w wr ∧ wp.heap.size ≤ wr.heap.size) (fun i _ _ => 64 - (intOf i).toNat)
  case atStart => exact ⟨0, _, fun _ => 0, by omega, rfl, World.ownsRow_nil _ _ _ _, fun i hi => by omega, k0, k1, z0, z1, HX, hB, Nat.le_refl _⟩
  case round =>
    clear k0 k1 z0 z1 hB HX
    obtain ⟨k, v0, f, hk, rfl, hown, hw, k0, k1, z0, z1, HX, hB, hzr⟩ := hrel
    have hs0 := hB.size
    have hv1 : Hid (∃ v1, v1 = Value.slice none 0 0) := ⟨_, rfl⟩
    by_cases hlt : k < 64
    · have c1 : (k : Int) < 64 := by omega
      have y1 := HX.out k hlt
      obtain ⟨v1, hv1⟩ := hv1.out
      rw [← hv1] at k1
      go_wp2_with (first
        | (go_at_call 26; refine (fraction_any (fl k) 3 (HL.out k (by omega)) (by omega) _).mono ?_; rintro e wf ⟨rfl, hbf⟩; obtain ⟨r, hr⟩ : ∃ r, r = frac (fl k) 3 := ⟨_, rfl⟩; rw [← hr]; have HR : Hid (r = Kc k) := (by rw [hr, HFL.out]; rfl); clear hr; have k0' : wf.cell? ⟨w.heap.size, 0, none⟩ = some v0 := (by rw [hbf.cell (by simp; omega)]; exact k0); have k1' : wf.cell? ⟨w.heap.size, 1, none⟩ = some v1 := (by rw [hbf.cell (by simp; omega)]; exact k1); have z0' : wf.frozen? ⟨w.heap.size, 0, none⟩ = false := (by rw [hbf.frozen (by simp; omega)]; exact z0); have z1' : wf.frozen? ⟨w.heap.size, 1, none⟩ = false := (by rw [hbf.frozen (by simp; omega)]; exact z1); have hs' := hbf.size; have hown' := own_below hown hbf; clear k0 k1 z0 z1 hown)
        | (refine wpl_append1 intS rfl _ _ rfl wp.heap.size _ k f rfl ?_ (wf.heap.size) r rfl ?_ (by omega) ?_ ?_; (focus (exact owns_alloc hown' _)); (focus (simp [go_sem]; done)); (focus (simp; omega)); intro v' w' hown2 hbel' hsz'; obtain ⟨g2, cap2, rfl⟩ := own_some hown2 (by omega); have hb1 := hbel' _ ((Below.refl wp.heap.size wf).alloc (by omega) (.cells #[.int .i64 r] 3)); have k0 : w'.cell? ⟨w.heap.size, 0, none⟩ = some v0 := (by rw [hb1.cell (by simp; omega)]; exact k0'); have k1 : w'.cell? ⟨w.heap.size, 1, none⟩ = some v1 := (by rw [hb1.cell (by simp; omega)]; exact k1'); have z0 : w'.frozen? ⟨w.heap.size, 0, none⟩ = false := (by rw [hb1.frozen (by simp; omega)]; exact z0'); have z1 : w'.frozen? ⟨w.heap.size, 1, none⟩ = false := (by rw [hb1.frozen (by simp; omega)]; exact z1')))
      go_roundw
      case rel =>
        have hw' : wp.heap.size ≤ w'.heap.size := by simp at hsz'; omega
        refine ⟨k + 1, _, _, by omega, by go_num, own_set hown2 _ _ (by simp; omega), hw.snoc HR.out, World.cell?_setCell_same _ _ _ k0, ?_, by simp [z0], by simp [z1], ?_, ?_, by simp; exact hw'⟩
        · rw [World.cell?_setCell_other _ _ _ _ (by simp), k1, hv1]
        · intro i hi
          rw [World.cell?_setCell_other _ _ _ _ (by simp; exact fun h => absurd h.symm HG.out), hb1.cell (by simp; omega), hbf.cell (by simp; omega)]
          exact HX.out i hi
        · exact Below.setCell ((below_lift hB hs0 hbf).trans (hb1.mono (by omega))) (by simp) _
      case measure => simp [intOf]; omega
    · have hk' : k = 64 := by omega
      subst hk'
      rw [show ((64 : Nat) : Int) = 64 from rfl]
      obtain ⟨gk, capk, rfl⟩ := own_some hown (by omega)
      have hnk := NumAt.of_owns hown
      obtain ⟨ao2, cap2, gk2, hvk, hck, hak, hxk⟩ := hnk
      have hao := hak (by omega)
      subst hao
      obtain ⟨rfl, rfl⟩ : gk = gk2 ∧ capk = cap2 := by simp at hvk; exact hvk
      obtain ⟨W1, hW1⟩ : ∃ W, W = wr := ⟨_, rfl⟩
      subst hW1
      have hgk : gk < W1.heap.size := World.block_lt_of_cell? W1 _ (hxk 0 (by omega))
      have hgk2 : gk ≠ w.heap.size := fun e => by
        have := hxk 0 (by omega)
        rw [e, k0] at this; exact absurd this (by simp)
      have HGK : Hid (gk ≠ w.heap.size) := hgk2
      have HXK : Hid _ := hxk
      have HW : Hid _ := hw
      have hck2 : Hid (64 ≤ capk) := hck
      obtain ⟨f0, hf0⟩ : ∃ g, g = f := ⟨_, rfl⟩
      subst hf0
      clear hgk2 hxk hak hck hvk hw hown hv1
      go_wp2
      go_loopw [5, 6] (fun i _ wr => ∃ (k : Nat) (vk : Value) (f : Nat → Int), k ≤ 8 ∧ i = .int .i64 k ∧ wr.ownsRow W1.heap.size 3 1 vk k (ints .i64 k f) ∧ Agr k Hc f ∧ wr.cell? ⟨w.heap.size, 0, none⟩ = some (.slice (some ⟨gk, 0, none⟩) 64 capk) ∧ wr.cell? ⟨w.heap.size, 1, none⟩ = some vk ∧ wr.frozen? ⟨w.heap.size, 0, none⟩ = false ∧ wr.frozen? ⟨w.heap.size, 1, none⟩ = false ∧ Hid (∀ i, i < 64 → wr.cell? ⟨gl, i, none⟩ = some (.int .i64 (fl i))) ∧ Hid (∀ i, i < 64 → wr.cell? ⟨gk, i, none⟩ = some (.int .i64 (f0 i))) ∧ Below w.heap.size w wr ∧ W1.heap.size ≤ wr.heap.size) (fun i _ _ => 8 - (intOf i).toNat)
      case atStart => exact ⟨0, _, fun _ => 0, by omega, rfl, World.ownsRow_nil _ _ _ _, fun i hi => by omega, k0, k1, z0, z1, HX, HXK, hB, Nat.le_refl _⟩
      case round =>
        clear k0 k1 z0 z1 hB HX HXK hs0
        obtain ⟨k, v1, f, hk, rfl, hown, hw, k0, k1, z0, z1, HX, HXK, hB, hzr2⟩ := hrel
        have hs0 := hB.size
        have hv0 : Hid (∃ v0, v0 = Value.slice (some ⟨gk, 0, none⟩) 64 capk) := ⟨_, rfl⟩
        by_cases hlt : k < 8
        · have c1 : (k : Int) < 8 := by omega
          have c2 : (k : Int) < 64 := by omega
          have y1 := HX.out k (by omega)
          obtain ⟨v0, hv0⟩ := hv0.out
          rw [← hv0] at k0
          go_wp2_with (first
            | (go_at_call 26; refine (fraction_any (fl k) 2 (HL.out k (by omega)) (by omega) _).mono ?_; rintro e wf ⟨rfl, hbf⟩; obtain ⟨r, hr⟩ : ∃ r, r = frac (fl k) 2 := ⟨_, rfl⟩; rw [← hr]; have HR : Hid (r = Hc k) := (by rw [hr, HFL.out]; rfl); clear hr; have k0' : wf.cell? ⟨w.heap.size, 0, none⟩ = some v0 := (by rw [hbf.cell (by simp; omega)]; exact k0); have k1' : wf.cell? ⟨w.heap.size, 1, none⟩ = some v1 := (by rw [hbf.cell (by simp; omega)]; exact k1); have z0' : wf.frozen? ⟨w.heap.size, 0, none⟩ = false := (by rw [hbf.frozen (by simp; omega)]; exact z0); have z1' : wf.frozen? ⟨w.heap.size, 1, none⟩ = false := (by rw [hbf.frozen (by simp; omega)]; exact z1); have hs' := hbf.size; have hown' := own_below hown hbf; clear k0 k1 z0 z1 hown)
            | (refine wpl_append1 intS rfl _ _ rfl W1.heap.size _ k f rfl ?_ (wf.heap.size) r rfl ?_ (by omega) ?_ ?_; (focus (exact owns_alloc hown' _)); (focus (simp [go_sem]; done)); (focus (simp; omega)); intro v' w' hown2 hbel' hsz'; obtain ⟨g2, cap2, rfl⟩ := own_some hown2 (by omega); have hb1 := hbel' _ ((Below.refl W1.heap.size wf).alloc (by omega) (.cells #[.int .i64 r] 3)); have k0 : w'.cell? ⟨w.heap.size, 0, none⟩ = some v0 := (by rw [hb1.cell (by simp; omega)]; exact k0'); have k1 : w'.cell? ⟨w.heap.size, 1, none⟩ = some v1 := (by rw [hb1.cell (by simp; omega)]; exact k1'); have z0 : w'.frozen? ⟨w.heap.size, 0, none⟩ = false := (by rw [hb1.frozen (by simp; omega)]; exact z0'); have z1 : w'.frozen? ⟨w.heap.size, 1, none⟩ = false := (by rw [hb1.frozen (by simp; omega)]; exact z1')))
          go_roundw
          case rel =>
            have hw' : W1.heap.size ≤ w'.heap.size := by simp at hsz'; omega
            refine ⟨k + 1, _, _, by omega, by go_num, own_set hown2 _ _ (by simp; omega), hw.snoc HR.out, ?_, World.cell?_setCell_same _ _ _ k1, by simp [z0], by simp [z1], ?_, ?_, ?_, by simp; exact hw'⟩
            · rw [World.cell?_setCell_other _ _ _ _ (by simp), k0, hv0]
            · intro i hi
              rw [World.cell?_setCell_other _ _ _ _ (by simp; exact fun h => absurd h.symm HG.out), hb1.cell (by simp; omega), hbf.cell (by simp; omega)]
              exact HX.out i hi
            · intro i hi
              rw [World.cell?_setCell_other _ _ _ _ (by simp; exact fun h => absurd h.symm HGK.out), hb1.cell (by simp; omega), hbf.cell (by simp; omega)]
              exact HXK.out i hi
            · exact Below.setCell ((below_lift hB hs0 hbf).trans (hb1.mono (by omega))) (by simp) _
          case measure => simp [intOf]; omega
        · have hk' : k = 8 := by omega
          subst hk'
          have HN : Hid _ := NumAt.of_owns hown
          have HW8 : Hid _ := hw
          clear hown hw hv0
          go_wp2
          go_ret
          exact ⟨_, rfl, ⟨w.heap.size, _, _, rfl, k0, k1, num_congr ⟨_, capk, gk, rfl, hck2.out, fun _ => rfl, HXK.out⟩ HW.out, num_congr HN.out HW8.out⟩, hB⟩
end Go.Proofs.YteghoooelgcpkaaGreatDoor
