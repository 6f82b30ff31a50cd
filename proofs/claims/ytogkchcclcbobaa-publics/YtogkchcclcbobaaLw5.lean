/- The walks of the statement's own world: a step. -/
import Derived.Test.YtogkchcclcbobaaLw2
import Derived.Test.YtogkchcclcbobaaLw3
import Derived.Test.YtogkchcclcbobaaLw4
import Derived.Deep.Cut
namespace Go.Proofs.Ytogkchcclcbobaa
open Go.RowKit Go.Msg
set_option maxRecDepth 4000 in
set_option maxHeartbeats 4000000 in
theorem lawstep_any {w0 w : World} {g : Nat} {p : Value} {a b : ByteArray} (h : LW w0 g p w a b) (K A B C : Int) (hA1 : -9223372036854775808 ≤ A) (hA2 : A ≤ 9223372036854775807) (S T : ByteArray) (hS : S.size ≤ 9223372036854775807) :
    Calls Try.prog 6 #[.pointer (some ⟨g, 0, none⟩), .agg #[.int .i64 K, .int .i64 A, .int .i64 B, .int .i64 C, .string S, .string T]] w fun e w' => ∃ q a' b', e = .returned (.bool q) ∧ (q = false → K ≠ 3) ∧ LW w0 g p w' a' b' := by
  have h0 : LW w0 g p (w.alloc (.cells #[.int .i64 K, .int .i64 A, .int .i64 B, .int .i64 C, .string S, .string T] 25)) a b := h.below (by_alloc _ _)
  have R0 : (w.alloc (.cells #[.int .i64 K, .int .i64 A, .int .i64 B, .int .i64 C, .string S, .string T] 25)).rowOf w.heap.size = #[.int .i64 K, .int .i64 A, .int .i64 B, .int .i64 C, .string S, .string T] := rowOf_new _ _ _ _ rfl
  have hne : w.heap.size ≠ g := by have := h.lt; omega
  have H0 : Hid _ := h0
  have HR0 : Hid _ := R0
  clear h h0 R0
  go_enter Try.func6, Try.ntmps6
  go_upto_region 2 with (go_at_call 10; refine (owner_any H0.out K A B C hA1 hA2 S T hS).mono ?_; rintro e W1 ⟨q, a1, b1, rfl, h1, hbut⟩; (have R1 : W1.rowOf w.heap.size = #[.int .i64 K, .int .i64 A, .int .i64 B, .int .i64 C, .string S, .string T] := (by rw [hbut.row hne (by rw [HR0.out]; exact Nat.succ_pos 5)]; exact HR0.out)); clear hbut)
  generalize w.heap.size = g6 at *
  clear HR0 H0
  cases q with
  | true =>
    go_wp2
    go_ret
    exact ⟨_, _, _, rfl, fun e => absurd e (by decide), h1⟩
  | false =>
    have u4 := rowcell R1 4 (.string S) rfl
    have u3 := rowcell R1 3 (.int .i64 C) rfl
    go_upto_region 6 with (first
      | (go_at_call 11; (have M := full_any S C W1; with_reducible refine M.mono ?_; clear M); rintro e W2 ⟨s, rfl, hb2⟩; (have h2 := h1.below hb2); (have R2 := (below_row hb2 (by rw [R1]; exact Nat.succ_pos 5)).trans R1); (have u5 := rowcell R2 5 (.string T) rfl); (have u3' := rowcell R2 3 (.int .i64 C) rfl); clear hb2)
      | (go_at_call 11; (have M := full_any T C W2; with_reducible refine M.mono ?_; clear M); rintro e W3 ⟨t, rfl, hb3⟩; (have h3 := h2.below hb3); (have R3 := (below_row hb3 (by rw [R2]; exact Nat.succ_pos 5)).trans R2); (have u0 := rowcell R3 0 (.int .i64 K) rfl); clear hb3)
      | fail)
    have l1 := h3.c1
    have l4 := h3.c4
    have H3 : Hid (LW w0 g p W3 a1 b1) := h3
    clear h1 h2 h3 R1 R2 R3 u4 u3 u5 u3'
    by_cases K1 : K = 1
    · subst K1
      go_wp2_with (go_at_call 12; refine (started_any H3.out s t).mono ?_; rintro e W4 ⟨rfl, hb4⟩)
      go_ret
      exact ⟨_, _, _, rfl, fun _ => by decide, H3.out.below hb4⟩
    · by_cases K2 : K = 2
      · subst K2
        go_wp2_with (go_at_call 13; refine (waited_any g s t _).mono ?_; rintro e W4 ⟨rfl, hb4⟩)
        go_ret
        exact ⟨_, _, _, rfl, fun _ => by decide, H3.out.below hb4⟩
      · by_cases K3 : K = 3
        · subst K3
          go_wp2_with (go_at_call 14; refine (published_any H3.out s).mono ?_; rintro e W4 ⟨rfl, a4, h4⟩)
          go_ret
          exact ⟨_, _, _, rfl, fun e => absurd e (by decide), h4⟩
        · by_cases K12 : K = 12
          · subst K12
            go_wp2_with (go_at_call 15; refine (woken_any g b1 _).mono ?_; rintro e W4 ⟨rfl, hb4⟩)
            go_ret
            exact ⟨_, _, _, rfl, fun _ => by decide, H3.out.below hb4⟩
          · go_wp2_with fail
            go_ret
            exact ⟨_, _, _, rfl, fun _ => K3, H3.out⟩
end Go.Proofs.Ytogkchcclcbobaa
