/- The walks of the document's own answer: Shared, Public. -/
import Derived.Test.YtogkchcclcbobaaRf9
namespace Go.Proofs.Ytogkchcclcbobaa
open Go.RowKit Go.Msg
attribute [simp, go_sem] bstr_size
/-- One byte as a text. -/
def b1 (x : Int) : ByteArray := bstr 1 (fun _ => x)
@[simp, go_sem] theorem b1_size (x : Int) : (b1 x).size = 1 := bstr_size _ _
theorem arr_1 (k : IntKind) (x : Int) : #[Value.int k x] = tab k 1 (fun _ => x) := by rw [tab_eq]; rfl
theorem cv_row (W : World) (g : Nat) (x : Int) (h : W.rowOf g = #[.int .u8 x]) : (convert 58 9 (.slice (some ⟨g, 0, none⟩) 1 1)).run Try.prog W = .ok (.string (b1 x)) W := by
  rw [run_convert_row W 58 9 5 Try.underlying58 Try.underlying5 Try.underlying9 g 0 1 1 1 (fun _ => x) (by rw [h, arr_1]) (by omega)]; rfl
theorem cv1 (w : World) (x : Int) : (convert 58 9 (.slice (some ⟨w.heap.size, 0, none⟩) 1 1)).run Try.prog (w.alloc (.cells #[.int .u8 x] 5)).drew = .ok (.string (b1 x)) (w.alloc (.cells #[.int .u8 x] 5)).drew := cv_row _ _ _ (by simp [go_sem])
theorem cv2 (w : World) (x : Int) (o : Obj) : (convert 58 9 (.slice (some ⟨w.heap.size, 0, none⟩) 1 1)).run Try.prog ((w.alloc (.cells #[.int .u8 x] 5)).alloc o).drew = .ok (.string (b1 x)) ((w.alloc (.cells #[.int .u8 x] 5)).alloc o).drew := cv_row _ _ _ (by simp [go_sem])
theorem cv3 (w : World) (x : Int) (o : Obj) : (convert 58 9 (.slice (some ⟨w.heap.size + 1, 0, none⟩) 1 1)).run Try.prog ((w.alloc o).alloc (.cells #[.int .u8 x] 5)).drew = .ok (.string (b1 x)) ((w.alloc o).alloc (.cells #[.int .u8 x] 5)).drew := cv_row _ _ _ (by simp [go_sem])
theorem get_data (s : ByteArray) (i : Nat) (h : i < s.size) : s[i] = s.data[i]'h := rfl
theorem sb_data (s : ByteArray) (i : Nat) : sb s i = ((s.data[i]?).map fun c => (c.toNat : Int)).getD 0 := by
  unfold sb
  by_cases h : i < s.size
  · rw [dif_pos h, get_data s i h, Array.getElem?_eq_getElem h]; rfl
  · rw [dif_neg h, Array.getElem?_eq_none (by simpa using h)]; rfl
theorem sb_append (a b : ByteArray) (i : Nat) : sb (a ++ b) i = if i < a.size then sb a i else sb b (i - a.size) := by
  simp only [sb_data, ByteArray.data_append]
  by_cases h : i < a.size
  · rw [if_pos h, Array.getElem?_append_left h]
  · rw [if_neg h, Array.getElem?_append_right (by simpa using h)]; rfl
theorem sb_bstr (n : Nat) (f : Nat → Int) (i : Nat) (hi : i < n) (h : 0 ≤ f i ∧ f i ≤ 255) : sb (bstr n f) i = f i := by
  unfold sb
  rw [dif_pos (by rw [bstr_size]; exact hi), bstr_get]; omega
theorem sb_b1 (x : Int) (h : 0 ≤ x ∧ x ≤ 255) : sb (b1 x) 0 = x := sb_bstr 1 (fun _ => x) 0 (by omega) h
theorem sb_extract (s : ByteArray) (i j n : Nat) (h : i + n < j) (hj : j ≤ s.size) : sb (s.extract i j) n = sb s (i + n) := by
  simp only [sb_data, ByteArray.data_extract]
  rw [Array.getElem?_extract, if_pos (by simp; omega)]
theorem sb_high (s : ByteArray) (i : Nat) (h : s.size ≤ i) : sb s i = 0 := by unfold sb; rw [dif_neg (by omega)]
theorem clamp_text (k : ByteArray) (hk : k.size = 32) : sb (b1 (sb k 0 / 8 * 8) ++ k.extract 1 31 ++ b1 (sb k 31 % 64 + 64)) = clampF (sb k) := by
  have h0 := sb_bd k 0
  have h31 := sb_bd k 31
  funext i
  have z1 : (b1 (sb k 0 / 8 * 8) ++ k.extract 1 31).size = 31 := by simp [ByteArray.size_extract, hk]
  rw [sb_append, z1, sb_append, b1_size]
  unfold clampF upd
  by_cases e0 : i = 0
  · subst e0; simp [sb_b1 (sb k 0 / 8 * 8) (by omega)]
  · by_cases e1 : i = 31
    · subst e1; simp [sb_b1 (sb k 31 % 64 + 64) (by omega)]
    · by_cases e2 : i < 31
      · rw [if_pos e2, if_neg (by omega), sb_extract k 1 31 _ (by omega) (by omega), if_neg e1, if_neg e0]; congr 1; omega
      · rw [if_neg e2, if_neg e1, if_neg e0, sb_high _ _ (by simp; omega), sb_high k i (by omega)]
theorem by_alloc2 (w : World) (o1 o2 : Obj) : Below w.heap.size w ((w.alloc o1).alloc o2) := ((Below.refl _ _).alloc (Nat.le_refl _) _).alloc (by simp) _
set_option maxHeartbeats 2000000 in
theorem rclamp_any (k : ByteArray) (hk : k.size = 32) (w : World) :
    Calls Try.prog 54 #[.string k] w fun e w' => ∃ s, e = .returned (.string s) ∧ s.size = 32 ∧ sb s = clampF (sb k) ∧ Below w.heap.size w w' := by
  have c1 : (0 : Int) < k.size := by omega
  have c2 : (31 : Int) < k.size := by omega
  have c3 : (31 : Int) ≤ k.size := by omega
  have c4 : 0 < k.size := by omega
  have c5 : 31 < k.size := by omega
  have hb0 : (k[0].toNat : Int) ≤ 255 := by rw [← sb_at k 0 c4]; exact (sb_bd k 0).2
  have hb1 : (k[31].toNat : Int) ≤ 255 := by rw [← sb_at k 31 c5]; exact (sb_bd k 31).2
  go_enter Try.func54, Try.ntmps54
  go_wp2
  have q1 := cv1
  have q2 := cv2
  have q3 := cv3
  go_region
  all_goals
    go_wp2
    go_ret
    refine ⟨_, rfl, ?_, ?_, (by_alloc2 _ _ _).drew⟩
    · simp [ByteArray.size_extract, hk]
    · rw [← sb_at k 0 c4, ← sb_at k 31 c5]; exact clamp_text k hk
/-- What a key and a point make, in the document's own answer. -/
def SharedR (k p : ByteArray) (s : ByteArray) : Prop := ∃ b, s = bstr 32 b ∧ (∀ i, i < 32 → 0 ≤ b i ∧ b i ≤ 255) ∧ bval 32 b = lout (bitAt (clampF (sb k))) (bsum (sb p) 255 % P25519)
theorem SharedR.size {k p s : ByteArray} (h : SharedR k p s) : s.size = 32 := by obtain ⟨b, rfl, _⟩ := h; exact bstr_size _ _
theorem SharedR.same {k p s : ByteArray} {b : Nat → Int} (h : SharedR k p s) (hb : sharedF k p b) : s = bstr 32 b := by
  obtain ⟨c, rfl, h1, h2⟩ := h
  exact bstr_congr (bval_uniq h1 hb.1 (h2.trans hb.2.symm))
set_option maxHeartbeats 400000 in
theorem rshared_any (k p : ByteArray) (hk : k.size = 32) (hp : 32 ≤ p.size) (w : World) :
    Calls Try.prog 42 #[.string k, .string p] w fun e w' => ∃ s q, e = .returned (.tuple #[.string s, .bool q]) ∧ SharedR k p s ∧ Below w.heap.size w w' := by
  go_enter Try.func42, Try.ntmps42
  go_wp2_with (first
    | (go_at_call 54; refine (rclamp_any k hk _).mono ?_; rintro e w1 ⟨c, rfl, hc, hs, hb1⟩; have s1 := hb1.size)
    | (go_at_call 55; refine (rladder_any c p hc hp _).mono ?_; rintro e w2 ⟨b, rfl, hbb, hbv, hb2⟩; have b2 := below_lift hb1 s1 hb2; have s2 := b2.size)
    | (refine wpl_make u8s rfl _ _ rfl 32 32 32 rfl rfl rfl rfl (by omega) ?_)
    | (refine wpl_convert rfl 58 9 5 _ rfl Try.underlying58 Try.underlying5 Try.underlying9 w2.heap.size 0 32 32 rfl 32 (fun _ => 0) ?_ (by decide) ?_; (focus (simp [go_sem]; done))))
  go_ret2
  exact ⟨_, _, rfl, ⟨b, rfl, hbb, by rw [← hs]; exact hbv⟩, b2.alloc s2 _⟩
theorem sb_nine : sb (⟨#[9]⟩ ++ bstr 31 (fun _ => 0)) = sb ⟨#[9]⟩ := by
  funext i
  rw [sb_append]
  by_cases h : i < (ByteArray.mk #[9]).size
  · rw [if_pos h]
  · rw [if_neg h, sb_high ⟨#[9]⟩ i (by omega)]
    by_cases h2 : i - (ByteArray.mk #[9]).size < 31
    · exact sb_bstr _ _ _ h2 (by omega)
    · exact sb_high _ _ (by rw [bstr_size]; omega)
set_option maxHeartbeats 400000 in
theorem rpublic_any (k : ByteArray) (hk : k.size = 32) (w : World) :
    Calls Try.prog 32 #[.string k] w fun e w' => ∃ s, e = .returned (.string s) ∧ SharedR k ⟨#[9]⟩ s ∧ Below w.heap.size w w' := by
  go_enter Try.func32, Try.ntmps32
  go_wp2_with (first
    | (refine wpl_make u8s rfl _ _ rfl 31 31 31 rfl rfl rfl rfl (by omega) ?_)
    | (refine wpl_convert rfl 58 9 5 _ rfl Try.underlying58 Try.underlying5 Try.underlying9 w.heap.size 0 31 31 rfl 31 (fun _ => 0) ?_ (by decide) ?_; (focus (simp [go_sem]; done)))
    | (go_at_call 42; refine (rshared_any k _ hk ?_ _).mono ?_; (focus (rw [ByteArray.size_append, bstr_size]; decide)); rintro e w1 ⟨s, q, rfl, ⟨b, hsb, hbb, hbv⟩, hb1⟩))
  go_ret
  exact ⟨_, rfl, ⟨b, rfl, hbb, by rw [sb_nine] at hbv; exact hbv⟩, below_lift (by_alloc w _) (by simp) hb1⟩
end Go.Proofs.Ytogkchcclcbobaa
