/- The walks of the document's own answer: bytes and numbers. -/
import Derived.Test.YtogkchcclcbobaaRf7
import Derived.Test.YtogkchcclcbobaaCvP
namespace Go.Msg
open Go.RowKit
/-- The bytes of a text as a number's, the last bit left out. -/
def cb (b : Nat → Int) (i : Nat) : Int := if i = 31 then b 31 % 128 else b i
theorem cb_bd {b : Nat → Int} (hb : ∀ i, 0 ≤ b i ∧ b i ≤ 255) (i : Nat) : 0 ≤ cb b i ∧ cb b i ≤ 255 := by
  unfold cb; split
  · omega
  · exact hb i
theorem cb_sum {b : Nat → Int} (hb : ∀ i, 0 ≤ b i ∧ b i ≤ 255) : bval 32 (cb b) = bsum b 255 := by
  rw [bsum_255 b (fun i _ => hb i)]
  simp only [bval]
  simp [cb]
/-- The digits behind k bytes. -/
structure BFill (b : Nat → Int) (k : Nat) (F : Nat → Int) : Prop where
  dig : Dig 16 F
  at_ : k % 2 = 1 → F (k / 2) ≤ 255
  z : ∀ i, (k + 1) / 2 ≤ i → F i = 0
  vl : dval 16 F = bval k (cb b)
theorem BFill.start (b : Nat → Int) : BFill b 0 (fun _ => 0) := ⟨fun _ _ => by omega, fun h => by omega, fun _ _ => rfl, by rw [dval_zero]; rfl⟩
theorem pow_half (k : Nat) : (65536 : Int) ^ (k / 2) * 256 ^ (k % 2) = 256 ^ k := by
  rw [show (65536 : Int) = 256 ^ 2 by decide, ← Int.pow_mul, ← Int.pow_add]; congr 1; omega
theorem BFill.step {b F : Nat → Int} {k : Nat} (h : BFill b k F) (hb : ∀ i, 0 ≤ b i ∧ b i ≤ 255) (hk : k < 32) {z : Int} (hz : z = F (k / 2) + cb b k * 256 ^ (k % 2)) : BFill b (k + 1) (upd F (k / 2) z) := by
  have h1 := cb_bd hb k
  have hd := h.dig (k / 2) (by omega)
  have hz2 : 0 ≤ z ∧ z < 65536 ∧ (k % 2 = 0 → z ≤ 255) := by
    have : k % 2 = 0 ∨ k % 2 = 1 := by omega
    rcases this with e | e
    · have := h.z (k / 2) (by omega)
      rw [e] at hz; simp at hz; omega
    · have := h.at_ e
      rw [e] at hz; simp at hz; omega
  refine ⟨fun i hi => ?_, fun ho => ?_, fun i hi => ?_, ?_⟩
  · by_cases e : i = k / 2
    · subst e; simp only [upd, if_true]; omega
    · simp only [upd, e, if_false]; exact h.dig i hi
  · have e : (k + 1) / 2 = k / 2 := by omega
    rw [e]; simp only [upd, if_true]; exact hz2.2.2 (by omega)
  · have e : ¬ i = k / 2 := by omega
    simp only [upd, e, if_false]; exact h.z i (by omega)
  · rw [dval_upd _ _ _ _ (by omega), h.vl, hz]
    simp only [bval]
    rw [← pow_half k]; grind
end Go.Msg
namespace Go.Proofs.Ytogkchcclcbobaa
open Go.RowKit Go.Msg
theorem sb_at (s : ByteArray) (k : Nat) (h : k < s.size) : sb s k = (s[k].toNat : Int) := by simp [sb, h]
theorem num_trimmed {w : World} {g j N : Nat} {F : Nat → Int} (hr : w.rowOf g = tab .i64 N F) (hj : j ≤ N) (hd : Dig N F) (htr : Trim j F) (hz : ∀ i, j ≤ i → i < N → F i = 0) : IsNum w (.slice (some ⟨g, 0, none⟩) j N) (dval N F) := by
  refine ⟨j, F, NumAt.of_row hr hj hj (fun _ _ => rfl), fun i hi => hd i (by omega), htr, ?_⟩
  obtain ⟨c, hc⟩ : ∃ c, N = j + c := ⟨N - j, by omega⟩
  rw [hc, dval_shift, dval_congr (n := c) (g := fun _ => 0) (fun i hi => hz _ (by omega) (by omega)), dval_zero]; omega
theorem bsum_33 (b : Nat → Int) : bsum b 255 < 65536 ^ 33 := by
  have := (bsum_lt b 255).2
  have : (2 : Int) ^ 255 < 65536 ^ 33 := by decide +kernel
  omega
set_option maxHeartbeats 1000000 in
theorem rbytes_any (s : ByteArray) (hs : 32 ≤ s.size) (w : World) :
    Calls Try.prog 62 #[.string s] w fun e w' => ∃ v, e = .returned v ∧ Res w' v (bsum (sb s) 255 % P25519) ∧ Below w.heap.size w w' := by
  go_enter Try.func62, Try.ntmps62
  go_wp2_with (refine wpl_make nums rfl _ _ rfl 16 16 16 rfl rfl rfl rfl (by omega) ?_)
  go_loopw [4, 5] (fun i _ wr => ∃ (k : Nat) (F : Nat → Int), k ≤ 32 ∧ i = .int .i64 k ∧ BFill (sb s) k F ∧ wr = w.alloc (.cells (tab .i64 16 F) 3)) (fun i _ _ => 32 - (intOf i).toNat)
  case atStart => exact ⟨0, _, by omega, rfl, BFill.start _, rfl⟩
  case round =>
    obtain ⟨k, F, hk, rfl, hF, rfl⟩ := hrel
    by_cases hlt : k < 32
    · have c1 : (k : Int) < 32 := by omega
      have c2 : (k : Int) < s.size := by omega
      have c2' : k < s.size := by omega
      have c3 : (k : Int) / 2 < 16 := by omega
      have c3n : k / 2 < 16 := by omega
      have d1 := hF.dig (k / 2) (by omega)
      have b1 : (s[k].toNat : Int) ≤ 255 := by rw [← sb_at s k c2']; exact (sb_bd s k).2
      have hk2 : k % 2 = 0 ∨ k % 2 = 1 := by omega
      have STP := fun z => hF.step (sb_bd s) hlt (z := z)
      have HST : Hid _ := STP
      clear STP hF
      rcases hk2 with e | e
      · have c4 : ((k : Int) == 31) = false := by simp; omega
        have c5 : ((k : Int) % 2 == 1) = false := by simp; omega
        have cbk : cb (sb s) k = (s[k].toNat : Int) := by rw [← sb_at s k c2']; unfold cb; rw [if_neg (by omega)]
        have HK : Hid _ := cbk
        have HE : Hid _ := e
        clear cbk e
        go_wp2
        go_roundw
        case rel => exact ⟨k + 1, _, by omega, by go_num, HST.out _ (by rw [HK.out, HE.out, Int.pow_zero, Int.mul_one]), by simp⟩
        case measure => simp [intOf]; omega
      · by_cases h31 : k = 31
        · subst h31
          have d15 : 0 ≤ F 15 ∧ F 15 < 65536 := d1
          clear d1
          go_wp2
          go_roundw
          case rel => exact ⟨32, _, by omega, by go_num, HST.out (F 15 + (s[31].toNat : Int) % 128 * 256) (by simp [cb, sb_at s 31 c2']), by simp⟩
          case measure => simp [intOf]
        · have c4 : ((k : Int) == 31) = false := by simp; omega
          have c5 : ((k : Int) % 2 == 1) = true := by simp; omega
          have cbk : cb (sb s) k = (s[k].toNat : Int) := by rw [← sb_at s k c2']; unfold cb; rw [if_neg (by omega)]
          have HK : Hid _ := cbk
          have HE : Hid _ := e
          clear cbk e
          go_wp2
          go_roundw
          case rel => exact ⟨k + 1, _, by omega, by go_num, HST.out _ (by rw [HK.out, HE.out, Int.pow_one]), by simp⟩
          case measure => simp [intOf]; omega
    · have hk' : k = 32 := by omega
      subst hk'
      have hcell : ∀ i, i < 16 → (w.alloc (.cells (tab .i64 16 F) 3)).cell? ⟨w.heap.size, i, none⟩ = some (.int .i64 (F i)) := fun i hi => by simp [go_sem, hi]
      have HC : Hid _ := hcell
      have HV : Hid _ := hF.vl
      have HD := hF.dig
      clear hcell hF
      go_wp2_with (first
        | (go_at_call 41; refine (trim_at _ _ _ _ F HC.out (by omega) (by omega)).mono ?_; rintro e w' ⟨j, hj, rfl, htr, hz, rfl⟩; have hnum : IsNum (w.alloc (.cells (tab .i64 16 F) 3)) (.slice (some ⟨w.heap.size, 0, none⟩) j 16) (bsum (sb s) 255) := (by rw [← cb_sum (sb_bd s), ← HV.out]; exact num_trimmed (by simp [go_sem]) hj HD htr hz))
        | (go_at_call 73; refine (mod_any _ _ _ hnum (bsum_33 _)).mono ?_; rintro e w' ⟨v', rfl, hv, hb⟩))
      go_ret
      exact ⟨_, rfl, ⟨hv, Int.emod_lt_of_pos _ (by decide)⟩, below_lift (by_alloc w _) (by simp) hb⟩
/-- Thirty-two bytes, the lowest first. -/
def tb (n : Nat) (f : Nat → Int) (i : Nat) : Int := if i < 2 * n then (if i % 2 = 0 then f (i / 2) % 256 else f (i / 2) / 256) else 0
theorem tb_bd {n : Nat} {f : Nat → Int} (h : Dig n f) (i : Nat) : 0 ≤ tb n f i ∧ tb n f i ≤ 255 := by
  unfold tb
  split
  · have := h (i / 2) (by omega)
    split <;> omega
  · omega
theorem tb_val {n : Nat} {f : Nat → Int} (m : Nat) : bval (2 * m) (tb (n + m) f) = dval m f := by
  induction m generalizing n with
  | zero => rfl
  | succ m ih =>
    rw [show 2 * (m + 1) = 2 * m + 1 + 1 by omega]
    simp only [bval, dval]
    rw [show n + (m + 1) = (n + 1) + m by omega, ih]
    have e1 : tb (n + 1 + m) f (2 * m) = f m % 256 := by
      unfold tb; rw [if_pos (by omega), if_pos (by omega)]; congr 2; omega
    have e2 : tb (n + 1 + m) f (2 * m + 1) = f m / 256 := by
      unfold tb; rw [if_pos (by omega), if_neg (by omega)]; congr 2; omega
    have e3 : (256 : Int) ^ (2 * m) = 65536 ^ m := by rw [Int.pow_mul, show (256 : Int) ^ 2 = 65536 by decide]
    rw [e1, e2, Int.pow_succ, e3]
    have := Int.mul_ediv_add_emod (f m) 256
    generalize f m / 256 = q at *
    generalize f m % 256 = r at *
    rw [← this]; grind
theorem bval_tail {n m : Nat} {f : Nat → Int} (h : ∀ i, n ≤ i → f i = 0) : bval (n + m) f = bval n f := by
  induction m with
  | zero => rfl
  | succ m ih => rw [show n + (m + 1) = (n + m) + 1 by omega]; simp only [bval]; rw [ih, h _ (by omega)]; omega
theorem tb_all {n : Nat} {f : Nat → Int} (h : n ≤ 16) : bval 32 (tb n f) = dval n f := by
  have e := tb_val (n := 0) (f := f) n
  rw [Nat.zero_add] at e
  rw [← e, show 32 = 2 * n + (32 - 2 * n) by omega]
  exact bval_tail fun i hi => by unfold tb; rw [if_neg (by omega)]
theorem tb_next (k : Nat) (f : Nat → Int) : upd (upd (tb k f) (2 * k) (f k % 256)) (2 * k + 1) (f k / 256) = tb (k + 1) f := by
  funext i
  unfold upd tb
  by_cases e1 : i = 2 * k + 1
  · subst e1
    rw [if_pos rfl, if_pos (by omega), if_neg (by omega)]; congr 2; omega
  · rw [if_neg e1]
    by_cases e2 : i = 2 * k
    · subst e2
      rw [if_pos rfl, if_pos (by omega), if_pos (by omega)]; congr 2; omega
    · rw [if_neg e2]
      by_cases e3 : i < 2 * k
      · rw [if_pos e3, if_pos (show i < 2 * (k + 1) by omega)]
      · rw [if_neg e3, if_neg (by omega)]
theorem u8s : SliceTy Try.prog 58 5 .u8 1 := ⟨Try.underlying58, by kernel_rfl, by omega⟩
set_option maxHeartbeats 1000000 in
theorem rtext_any {w : World} {v : Value} {x : Int} (h : Res w v x) :
    Calls Try.prog 67 #[v] w fun e w' => ∃ b, e = .returned (.string (bstr 32 b)) ∧ (∀ i, i < 32 → 0 ≤ b i ∧ b i ≤ 255) ∧ bval 32 b = x ∧ Below w.heap.size w w' := by
  obtain ⟨⟨n, f, ⟨ao, cap, g, rfl, hc1, ha1, hx1⟩, dg, tr, hv⟩, hlt⟩ := h
  have hn : n ≤ 16 := trim_len dg tr (by rw [hv]; have : P25519 < 65536 ^ 16 := (by decide); omega)
  have HV : Hid _ := hv
  clear hv hlt tr
  go_enter Try.func67, Try.ntmps67
  go_wp2_with (refine wpl_make u8s rfl _ _ rfl 32 32 32 rfl rfl rfl rfl (by omega) ?_)
  go_loopw [4] (fun i wr => ∃ (k : Nat), k ≤ n ∧ i = .int .i64 k ∧ wr = w.alloc (.cells (tab .u8 32 (tb k f)) 5)) (fun i _ => n - (intOf i).toNat)
  case atStart => exact ⟨0, by omega, rfl, by congr 3⟩
  case round =>
    obtain ⟨k, hk, rfl, rfl⟩ := hrel
    by_cases hlt : k < n
    · have c1 : (k : Int) < n := by omega
      obtain rfl := ha1 (by omega)
      have y1 := hx1 k hlt
      have l1 := World.block_lt_of_cell? w _ y1
      have d1 := dg k hlt
      have c2 : 2 * (k : Int) < 32 := by omega
      have c3 : 2 * k < 32 := by omega
      have c4 : 2 * (k : Int) + 1 < 32 := by omega
      have c5 : 2 * k + 1 < 32 := by omega
      have HN : Hid _ := tb_next k f
      clear hx1 ha1
      go_wp2
      go_roundw
      case rel => exact ⟨k + 1, by omega, by go_num, by rw [← HN.out]⟩
      case measure => simp [intOf]; omega
    · have hk' : k = n := by omega
      subst hk'
      clear hx1 ha1
      go_wp2_with (refine wpl_convert rfl 58 9 5 _ rfl Try.underlying58 Try.underlying5 Try.underlying9 w.heap.size 0 32 32 rfl 32 (tb k f) ?_ (by decide) ?_; (focus (simp [go_sem]; done)))
      go_ret
      exact ⟨tb k f, rfl, fun i _ => tb_bd dg i, by rw [tb_all hn]; exact HV.out, by_alloc _ _⟩
end Go.Proofs.Ytogkchcclcbobaa
