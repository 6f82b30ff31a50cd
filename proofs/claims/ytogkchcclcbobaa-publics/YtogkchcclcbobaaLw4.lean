/- The walks of the statement's own world: Import on both sides. -/
import Derived.Test.YtogkchcclcbobaaLw1
import Derived.Test.YtogkchcclcbobaaWk5
namespace Go.Proofs.Ytogkchcclcbobaa
open Go.RowKit Go.Msg
set_option maxHeartbeats 2000000 in
theorem woken_any (g : Nat) (s : ByteArray) (w : World) :
    Calls Try.prog 15 #[.pointer (some ⟨g, 0, none⟩), .string s] w fun e w' => e = .returned (.bool false) ∧ Below w.heap.size w w' := by
  go_enter Try.func15, Try.ntmps15
  go_wp2_with (first
    | (go_at_call 33; refine (simport_any s _).mono ?_; rintro e W1 ⟨rfl, rfl⟩)
    | (go_at_call 34; refine (rwoken_any s _).mono ?_; rintro e W2 ⟨c, q, rfl, hc1, hc2, hb⟩)
    | (refine wpl_store rtSide rfl _ _ rfl W2.heap.size rfl c rfl ?_ hc1 hc2 _ rfl ?_; (focus (rw [rowOf_new _ _ _ _ rfl]; rfl)))
    | fail)
  all_goals go_ret
  all_goals exact ⟨rfl, hb.alloc hb.size _⟩
end Go.Proofs.Ytogkchcclcbobaa
