/- The walks of the statement's own world: a step on what it owns. -/
import Derived.Test.YtogkchcclcbobaaLw1
import Derived.Deep.RegionWith
import Derived.Deep.Cut
namespace Go.Proofs.Ytogkchcclcbobaa
open Go.RowKit Go.Msg
theorem isEmpty_of_size {b : ByteArray} (h : b.size = 0) : b.toList.isEmpty = true := by
  have e : b = ⟨#[]⟩ := ByteArray.ext (Array.eq_empty_of_size_eq_zero h)
  subst e
  unfold ByteArray.toList ByteArray.toList.loop
  rfl
theorem turned {W : World} {g n k : Nat} {f : Nat → Int} {z : Int} (hc : ∀ i, i < n → W.cell? ⟨g, i, none⟩ = some (.int .u8 (f i))) (hk : k < n) : Hid (∀ i, i < n → (W.setCell ⟨g, k, none⟩ (.int .u8 z)).drew.cell? ⟨g, i, none⟩ = some (.int .u8 (upd f k z i))) := by
  intro i hi
  show (W.setCell ⟨g, k, none⟩ (.int .u8 z)).cell? ⟨g, i, none⟩ = _
  by_cases e : i = k
  · subst e
    rw [upd_same]
    exact World.cell?_setCell_same _ _ _ (hc i hk)
  · rw [World.cell?_setCell_other _ _ _ _ (by simp <;> omega), hc i hi, upd_ne _ _ _ _ e]
set_option maxRecDepth 4000 in
set_option maxHeartbeats 4000000 in
theorem owner_any {w0 w : World} {g : Nat} {p : Value} {a b : ByteArray} (h : LW w0 g p w a b) (K A B C : Int) (hA1 : -9223372036854775808 ≤ A) (hA2 : A ≤ 9223372036854775807) (S T : ByteArray) (hS : S.size ≤ 9223372036854775807) :
    Calls Try.prog 10 #[.pointer (some ⟨g, 0, none⟩), .agg #[.int .i64 K, .int .i64 A, .int .i64 B, .int .i64 C, .string S, .string T]] w fun e w' => ∃ q a' b', e = .returned (.bool q) ∧ LW w0 g p w' a' b' ∧ But g w w' := by
  have k2 := h.c2
  have k3 := h.c3
  have k4 := h.c4
  have z3 := h.z3
  have z4 := h.z4
  have hlt := h.lt
  have H : Hid (LW w0 g p w a b) := h
  clear h
  by_cases K4 : K = 4
  · subst K4
    go_enter Try.func10, Try.ntmps10
    go_wp2_with (go_at_call 11; refine (full_any _ _ _).mono ?_; rintro e W1 ⟨t, rfl, hb⟩; (have b1 := below_lift (by_alloc _ _) (by simp) hb); (have h1 := H.out.below b1); (have k3' := h1.c3); (have z3' := h1.z3); clear hb)
    go_ret
    exact ⟨_, _, _, rfl, h1.point _, (But.of_below b1).trans (But.set W1 ⟨g, 3, none⟩ _)⟩
  · by_cases K9 : K = 9
    · subst K9
      go_enter Try.func10, Try.ntmps10
      go_wp2_with fail
      go_ret
      exact ⟨_, _, _, rfl, H.out.below (by_alloc _ _), But.of_below (by_alloc _ _)⟩
    · by_cases K10 : K = 10
      · subst K10
        go_enter Try.func10, Try.ntmps10
        go_wp2_with fail
        go_ret
        exact ⟨_, _, _, rfl, H.out.below (by_alloc _ _), But.of_below (by_alloc _ _)⟩
      · by_cases K13 : K = 13
        · subst K13
          by_cases hbe : b.toList.isEmpty = true
          · go_enter Try.func10, Try.ntmps10
            go_wp2_with fail
            go_ret
            exact ⟨_, _, _, rfl, H.out.below (by_alloc _ _), But.of_below (by_alloc _ _)⟩
          · have hbe' : b.toList.isEmpty = false := by simpa using hbe
            have hpos : 0 < b.size := by
              cases hq : b.size with
              | zero => exact absurd (isEmpty_of_size hq) hbe
              | succ n => omega
            clear hbe
            have hsz := H.out.sz
            have hsz' : (b.size : Int) ≤ 9223372036854775807 := by omega
            go_enter Try.func10, Try.ntmps10
            go_upto_region 21 with (refine wpl_bytes rfl 9 58 5 _ rfl Try.underlying9 Try.underlying58 Try.underlying5 b rfl ?_; intro cap W hcap hcell hfz hbW hszW)
            have HC : Hid (∀ i, i < b.size → W.cell? ⟨w.heap.size + 1, i, none⟩ = some (.int .u8 (sb b i))) := fun i hi => by have := hcell i hi; simpa using this
            have HF : Hid (∀ i, i < b.size → W.frozen? ⟨w.heap.size + 1, i, none⟩ = false) := fun i hi => by have := hfz i hi; simpa using this
            have f1 : W.cell? ⟨w.heap.size, 1, none⟩ = some (.int .i64 A) := by rw [hbW.cell (by simp)]; simp [go_sem]
            have f3 : W.cell? ⟨w.heap.size, 3, none⟩ = some (.int .i64 C) := by rw [hbW.cell (by simp)]; simp [go_sem]
            have B0 : Below w.heap.size w W := below_lift (by_alloc _ _) (by simp) hbW
            clear hcell hfz hbW hcap
            go_cut [10] from 118 (fun v wx => v = .slice (some ⟨w.heap.size + 1, 0, none⟩) b.size cap ∧ ∃ F : Nat → Int, Hid (∀ i, i < b.size → wx.cell? ⟨w.heap.size + 1, i, none⟩ = some (.int .u8 (F i))) ∧ Below w.heap.size w wx)
            case first =>
              go_region_with (go_at_call 16; refine (pick_any A b.size hpos hA1 hA2 hsz _).mono ?_; rintro e W2 ⟨k, rfl, hk, rfl⟩; (have y1 := HC.out k hk); (have y2 := HF.out k hk); (have y3 : (k : Int) < b.size := (by omega)))
              all_goals go_wp2_with fail
              all_goals go_meet
              all_goals exact ⟨rfl, _, turned HC.out hk, (B0.setCell (Nat.le_succ _) _).drew⟩
            case rest =>
              obtain ⟨rfl, F, hc, B1⟩ := hcut
              have hL := H.out.below B1
              have k4c := hL.c4
              have z4c := hL.z4
              go_wp2_with (refine wpl_string rfl 58 9 5 _ rfl Try.underlying58 Try.underlying5 Try.underlying9 (w.heap.size + 1) b.size cap rfl F hc.out ?_)
              go_ret
              exact ⟨_, _, _, rfl, hL.state _ (by rw [bstr_size]; exact hsz), (But.of_below B1).trans (But.set wc ⟨g, 4, none⟩ _)⟩
        · by_cases K14 : K = 14
          · subst K14
            go_enter Try.func10, Try.ntmps10
            go_wp2_with fail
            go_ret
            exact ⟨_, _, _, rfl, (H.out.state _ hS).below (by_alloc _ _), (But.set w ⟨g, 4, none⟩ _).trans (But.of_below (by_alloc _ _))⟩
          · go_enter Try.func10, Try.ntmps10
            go_wp2_with fail
            go_ret
            exact ⟨_, _, _, rfl, H.out.below (by_alloc _ _), But.of_below (by_alloc _ _)⟩
end Go.Proofs.Ytogkchcclcbobaa
