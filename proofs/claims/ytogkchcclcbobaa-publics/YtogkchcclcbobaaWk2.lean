/- The walks of the document's own answer: numbers in a state. -/
import Derived.Test.YtogkchcclcbobaaWk1
namespace Go.Proofs.Ytogkchcclcbobaa
open Go.RowKit Go.Msg
set_option maxHeartbeats 1000000 in
theorem value_any (t : ByteArray) (ht : t.size = 2) (w : World) :
    Calls Try.prog 58 #[.string t] w fun e w' => ∃ v : Nat, e = .returned (.int .i64 (v : Int)) ∧ Below w.heap.size w w' := by
  have c0 : (0 : Int) < t.size := by omega
  have c1 : (1 : Int) < t.size := by omega
  have d0 : 0 < t.size := by omega
  have d1 : 1 < t.size := by omega
  have b0 : (t[0].toNat : Int) ≤ 255 := by rw [← sb_at t 0 d0]; exact (sb_bd t 0).2
  have b1 : (t[1].toNat : Int) ≤ 255 := by rw [← sb_at t 1 d1]; exact (sb_bd t 1).2
  go_enter Try.func58, Try.ntmps58
  go_wp2_with fail
  go_quiet (fail)
  go_wp2
  go_ret
  exact ⟨256 * t[0].toNat + t[1].toNat, by go_num, below_drewN (Below.refl _ _) _⟩
set_option maxHeartbeats 1000000 in
theorem pair_any (n : Int) (w : World) :
    Calls Try.prog 49 #[.int .i64 n] w fun e w' => ∃ t, e = .returned (.string t) ∧ t.size = 2 ∧ Below w.heap.size w w' := by
  have qB := cvB
  go_enter Try.func49, Try.ntmps49
  go_wp2
  go_ret
  exact ⟨_, rfl, b2_size _ _, by_alloc _ _⟩
set_option maxHeartbeats 2000000 in
theorem count_any (g : Nat) (s : ByteArray) (b m : Nat) (hb : b ≤ 90000) (w : World) (hS : ShAt w g s b) :
    Calls Try.prog 46 #[.pointer (some ⟨g, 0, none⟩), .int .i64 (m : Int)] w fun e w' => ∃ v : Nat, e = .returned (.int .i64 (v : Int)) ∧ v ≤ m ∧ ShAt w' g s (b + 1) ∧ But g w w' := by
  go_enter Try.func46, Try.ntmps46
  go_wp2_with (go_at_call 45; refine (cut_any g s b 1 (by omega) (by omega) _ hS).mono ?_; rintro e w1 ⟨t, rfl, ht, hS1, hB1⟩; have d0 : 0 < t.size := (by omega); have c0 : (0 : Int) < t.size := (by omega); have HS1 : Hid (ShAt w1 g s (b + 1)) := hS1; obtain ⟨k, ok, hk, hks, h3, h4, h5, h6, h7, h8⟩ := hS1; have b0 : (t[0].toNat : Int) ≤ 255 := (by rw [← sb_at t 0 d0]; exact (sb_bd t 0).2))
  all_goals go_ret
  · exact ⟨0, rfl, by omega, HS1.out.no, hB1.trans (But.set w1 ⟨g, 2, none⟩ _)⟩
  · exact ⟨t[0].toNat, rfl, by omega, HS1.out, hB1⟩
set_option maxHeartbeats 2000000 in
theorem upTo_any (g : Nat) (s : ByteArray) (b m : Nat) (hb : b ≤ 90000) (w : World) (hS : ShAt w g s b) :
    Calls Try.prog 47 #[.pointer (some ⟨g, 0, none⟩), .int .i64 (m : Int)] w fun e w' => ∃ v : Nat, e = .returned (.int .i64 (v : Int)) ∧ v ≤ m ∧ ShAt w' g s (b + 2) ∧ But g w w' := by
  go_enter Try.func47, Try.ntmps47
  go_wp2_with (first
    | (go_at_call 45; refine (cut_any g s b 2 (by omega) (by omega) _ hS).mono ?_; rintro e w1 ⟨t, rfl, ht, hS1, hB1⟩)
    | (go_at_call 58; refine (value_any t ht _).mono ?_; rintro e w2 ⟨v, rfl, hb2⟩; have HS1 : Hid (ShAt w2 g s (b + 2)) := hS1.below hb2; obtain ⟨k, ok, hk, hks, h3, h4, h5, h6, h7, h8⟩ := hS1.below hb2; have hB2 := hB1.trans (But.of_below hb2)))
  all_goals go_ret
  · exact ⟨0, rfl, by omega, HS1.out.no, hB2.trans (But.set w2 ⟨g, 2, none⟩ _)⟩
  · exact ⟨v, rfl, by omega, HS1.out, hB2⟩
end Go.Proofs.Ytogkchcclcbobaa
