/- The walks of package curve: bits and bytes. -/
import Derived.Test.YtogkchcclcbobaaCv6
namespace Go.Proofs.Ytogkchcclcbobaa
open Go.RowKit Go.Msg

theorem rt107 : RowTy Try.prog 107 32 := ⟨by decide, by kernel_rfl, _, Try.underlying107, rfl⟩
abbrev c32 (f : Nat → Int) : Obj := .cells (tab .u8 32 f) 107
abbrev z32 : Obj := .cells (tab .u8 32 (fun _ => 0)) 107
@[go_sem] theorem zero32 : #[Value.int IntKind.u8 0, Value.int IntKind.u8 0, Value.int IntKind.u8 0, Value.int IntKind.u8 0, Value.int IntKind.u8 0, Value.int IntKind.u8 0, Value.int IntKind.u8 0, Value.int IntKind.u8 0, Value.int IntKind.u8 0, Value.int IntKind.u8 0, Value.int IntKind.u8 0, Value.int IntKind.u8 0, Value.int IntKind.u8 0, Value.int IntKind.u8 0, Value.int IntKind.u8 0, Value.int IntKind.u8 0, Value.int IntKind.u8 0, Value.int IntKind.u8 0, Value.int IntKind.u8 0, Value.int IntKind.u8 0, Value.int IntKind.u8 0, Value.int IntKind.u8 0, Value.int IntKind.u8 0, Value.int IntKind.u8 0, Value.int IntKind.u8 0, Value.int IntKind.u8 0, Value.int IntKind.u8 0, Value.int IntKind.u8 0, Value.int IntKind.u8 0, Value.int IntKind.u8 0, Value.int IntKind.u8 0, Value.int IntKind.u8 0] = tab .u8 32 (fun _ => 0) := by rw [tab_eq]; rfl
theorem ret_int {k : IntKind} {a b : Int} (h : a = b) : Ending.returned (.int k a) = .returned (.int k b) := by rw [h]

set_option maxHeartbeats 400000 in
theorem bitOf_any (b : Nat → Int) (hb : ∀ i, i < 32 → 0 ≤ b i ∧ b i ≤ 255) (i : Nat) (hi : i < 256) (w : World) :
    Calls Try.prog 79 #[.agg (tab .u8 32 b), .int .i64 i] w fun e w' => e = .returned (.int .u32 (bitAt b i)) ∧ Below w.heap.size w w' := by
  have h1 : i / 8 < 32 := by omega
  have h2 := hb (i / 8) h1
  have h3 := shr_bd (i % 8) h2.1 (by omega)
  go_enter Try.func79, Try.ntmps79
  go_wp2
  go_ret
  exact ⟨ret_int (by rw [bits_and_1 _ h3.1 h3.2]; rfl), (Below.refl _ _).alloc (Nat.le_refl _) _⟩

/-- A key as it multiplies. -/
def clampF (b : Nat → Int) : Nat → Int := upd (upd b 0 (b 0 / 8 * 8)) 31 (b 31 % 64 + 64)
theorem u8_nat {x : Int} (h : 0 ≤ x ∧ x ≤ 255) : ∃ n : Nat, n < 256 ∧ x = n := ⟨x.toNat, by omega, by omega⟩
set_option maxHeartbeats 400000 in
theorem clamp_any (b : Nat → Int) (hb : ∀ i, i < 32 → 0 ≤ b i ∧ b i ≤ 255) (w : World) :
    Calls Try.prog 69 #[.agg (tab .u8 32 b)] w fun e w' => e = .returned (.agg (tab .u8 32 (clampF b))) ∧ Below w.heap.size w w' := by
  have h0 : bits .and .u8 (b 0) 248 = b 0 / 8 * 8 := by
    obtain ⟨n, hn, e⟩ := u8_nat (hb 0 (by omega)); rw [e]; exact u8_248 n hn
  have h1 : bits .and .u8 (b 31) 127 = b 31 % 128 := by
    obtain ⟨n, hn, e⟩ := u8_nat (hb 31 (by omega)); rw [e]; exact u8_127 n hn
  have h2 : bits .or .u8 (b 31 % 128) 64 = b 31 % 64 + 64 := by
    obtain ⟨n, hn, e⟩ := u8_nat (hb 31 (by omega)); rw [e]; exact u8_or64 n hn
  have h3 : upd (upd (upd b 0 (b 0 / 8 * 8)) 31 (b 31 % 128)) 31 (b 31 % 64 + 64) = clampF b := by
    funext i; unfold clampF upd; by_cases e : i = 31 <;> simp [e]
  have hb0 := hb 0 (by omega)
  have hb31 := hb 31 (by omega)
  clear hb
  go_enter Try.func69, Try.ntmps69
  go_wp2_with (first | (refine wpl_load rt107 rfl _ rfl _ rfl (tab .u8 32 (clampF b)) ?_ (tab_size _ _ _) ?_; (focus (first | (simp [go_sem]; done) | (simp (disch := first | (simp [go_sem]; done) | (simp [go_sem]; omega)) [go_sem]; done)))) | (refine wpl_store rt107 rfl _ _ rfl _ rfl (tab .u8 32 (clampF b)) rfl ?_ (tab_size _ _ _) (tab_all _ _ _) ((w.alloc (c32 (clampF b))).alloc (c32 (clampF b))) ?_ ?_; (focus (first | (simp [go_sem]; done) | (simp (disch := first | (simp [go_sem]; done) | (simp [go_sem]; omega)) [go_sem]; done))); (focus (first | (simp [go_sem]; done) | (simp (disch := first | (simp [go_sem]; done) | (simp [go_sem]; omega)) [go_sem]; done)))))
  exact bodyPost_ret (v := .agg (tab .u8 32 (clampF b))) (by rw [results_row rt107 Try.results69 _ _ (w.heap.size + 1) rfl (by first | (simp [go_sem]; done) | (simp (disch := first | (simp [go_sem]; done) | (simp [go_sem]; omega)) [go_sem]; done))]; first | (simp [go_sem]; done) | (simp (disch := first | (simp [go_sem]; done) | (simp [go_sem]; omega)) [go_sem]; done)) rfl ⟨rfl, ((Below.refl _ _).alloc (Nat.le_refl _) _).alloc (by simp) _⟩

/-- A text's bytes, filled with noughts. -/
def sb (s : ByteArray) (i : Nat) : Int := if h : i < s.size then (s[i].toNat : Int) else 0
def sbTo (s : ByteArray) (k : Nat) (i : Nat) : Int := if i < k then sb s i else 0
theorem sbTo_step (s : ByteArray) (k : Nat) (h : k < s.size) : upd (sbTo s k) k (s[k].toNat : Int) = sbTo s (k + 1) := by
  funext i
  unfold upd sbTo
  by_cases e : i = k
  · subst e; simp [sb, h]
  · by_cases h2 : i < k
    · simp [e, h2, show i < k + 1 by omega]
    · simp [e, h2, show ¬ i < k + 1 by omega]
theorem sbTo_zero (s : ByteArray) : sbTo s 0 = fun _ => 0 := by funext i; simp [sbTo]
theorem sb_bd (s : ByteArray) (i : Nat) : 0 ≤ sb s i ∧ sb s i ≤ 255 := by
  unfold sb; split
  · have := s[i].toNat_lt; omega
  · omega
set_option maxHeartbeats 400000 in
theorem bytesOf_any (s : ByteArray) (hs : s.size ≤ 9223372036854775807) (w : World) :
    Calls Try.prog 68 #[.string s] w fun e w' => e = .returned (.agg (tab .u8 32 (sb s))) ∧ Below w.heap.size w w' := by
  go_enter Try.func68, Try.ntmps68
  go_wp2
  go_loopw [4] (fun i wr => ∃ (k n : Nat), k ≤ 32 ∧ k ≤ s.size ∧ i = .int .i64 k ∧ wr = ((w.alloc z32).alloc (c32 (sbTo s k))).dr n) (fun i _ => 32 - (intOf i).toNat)
  case atStart => exact ⟨0, _, by omega, by omega, rfl, by rw [sbTo_zero, World.dr_self]⟩
  case round =>
    obtain ⟨k, n, hk, hks, rfl, rfl⟩ := hrel
    by_cases hlt : k < s.size
    · by_cases hlt2 : k < 32
      · have c1 : (k : Int) < 32 := by omega
        have c2 : (k : Int) < s.size := by omega
        have HS : Hid (upd (sbTo s k) k (s[k].toNat : Int) = sbTo s (k + 1)) := sbTo_step s k hlt
        go_wp2
        go_roundw
        case rel => exact ⟨k + 1, _, by omega, by omega, by go_num, by rw [HS.out]⟩
        case measure => simp [intOf]; omega
      · have hk' : k = 32 := by omega
        subst hk'
        have c2 : (32 : Int) < s.size := by omega
        have hT : tab .u8 32 (sbTo s 32) = tab .u8 32 (sb s) := tab_congr fun i hi => by simp [sbTo, hi]
        go_wp2_with (first | (refine wpl_load rt107 rfl _ rfl _ rfl (tab .u8 32 (sbTo s 32)) ?_ (tab_size _ _ _) ?_; (focus (first | (simp [go_sem]; done) | (simp (disch := first | (simp [go_sem]; done) | (simp [go_sem]; omega)) [go_sem]; done)))) | (refine wpl_store rt107 rfl _ _ rfl _ rfl (tab .u8 32 (sbTo s 32)) rfl ?_ (tab_size _ _ _) (tab_all _ _ _) (((w.alloc (c32 (sbTo s 32))).alloc (c32 (sbTo s 32))).dr n) ?_ ?_; (focus (first | (simp [go_sem]; done) | (simp (disch := first | (simp [go_sem]; done) | (simp [go_sem]; omega)) [go_sem]; done))); (focus (first | (simp [go_sem]; done) | (simp (disch := first | (simp [go_sem]; done) | (simp [go_sem]; omega)) [go_sem]; done)))))
        rw [← hT]
        exact bodyPost_ret (v := .agg (tab .u8 32 (sbTo s 32))) (by rw [results_row rt107 Try.results68 _ _ (w.heap.size) rfl (by first | (simp [go_sem]; done) | (simp (disch := first | (simp [go_sem]; done) | (simp [go_sem]; omega)) [go_sem]; done))]; first | (simp [go_sem]; done) | (simp (disch := first | (simp [go_sem]; done) | (simp [go_sem]; omega)) [go_sem]; done)) rfl ⟨rfl, below2 _ _ _ _⟩
    · have c2 : ¬ (k : Int) < s.size := by omega
      have hT : tab .u8 32 (sbTo s k) = tab .u8 32 (sb s) := tab_congr fun i hi => by
        unfold sbTo
        by_cases e : i < k
        · simp [e]
        · simp [e, sb, show ¬ i < s.size by omega]
      have HT : Hid (tab .u8 32 (sbTo s k) = tab .u8 32 (sb s)) := hT
      clear hT
      go_wp2_with (first | (refine wpl_load rt107 rfl _ rfl _ rfl (tab .u8 32 (sbTo s k)) ?_ (tab_size _ _ _) ?_; (focus (first | (simp [go_sem]; done) | (simp (disch := first | (simp [go_sem]; done) | (simp [go_sem]; omega)) [go_sem]; done)))) | (refine wpl_store rt107 rfl _ _ rfl _ rfl (tab .u8 32 (sbTo s k)) rfl ?_ (tab_size _ _ _) (tab_all _ _ _) (((w.alloc (c32 (sbTo s k))).alloc (c32 (sbTo s k))).dr n) ?_ ?_; (focus (first | (simp [go_sem]; done) | (simp (disch := first | (simp [go_sem]; done) | (simp [go_sem]; omega)) [go_sem]; done))); (focus (first | (simp [go_sem]; done) | (simp (disch := first | (simp [go_sem]; done) | (simp [go_sem]; omega)) [go_sem]; done)))))
      rw [← HT.out]
      exact bodyPost_ret (v := .agg (tab .u8 32 (sbTo s k))) (by rw [results_row rt107 Try.results68 _ _ (w.heap.size) rfl (by first | (simp [go_sem]; done) | (simp (disch := first | (simp [go_sem]; done) | (simp [go_sem]; omega)) [go_sem]; done))]; first | (simp [go_sem]; done) | (simp (disch := first | (simp [go_sem]; done) | (simp [go_sem]; omega)) [go_sem]; done)) rfl ⟨rfl, below2 _ _ _ _⟩
end Go.Proofs.Ytogkchcclcbobaa
