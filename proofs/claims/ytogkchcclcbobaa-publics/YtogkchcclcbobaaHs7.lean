/- The walks of the document's own answer: rooted, Start, Wait. -/
import Derived.Test.YtogkchcclcbobaaHs6
namespace Go
open Go.RowKit
theorem results_row_tmp {P : Program} {fn : Func} {p u : Tmp} {t n : Nat} (ht : RowTy P t n) (hr : fn.results = #[.cell p t, .tmp u]) (tmps : Array Value) (w : World) (g : Nat)
    (hp : tmps.getD p undef = .pointer (some ⟨g, 0, none⟩)) (h : (w.rowOf g).size = n) : (results fn tmps).run P w = .ok (.tuple #[.agg (w.rowOf g), tmps.getD u undef]) w := by
  obtain ⟨hn, hi, d, hu, hd⟩ := ht
  obtain ⟨t', hg⟩ := rowOf_heap h hn
  have hl := run_loadVar_row (P := P) w g t' t _ (0, 0) d hg hu (by cases d <;> first | rfl | simp [TypeDesc.isRow] at hd) (by rw [hi, h])
  simp only [results, hr]
  have hp' : tmps[p]?.getD undef = .pointer (some ⟨g, 0, none⟩) := by simpa using hp
  simp [asAddr, hp', hl]
end Go
namespace Go.Proofs.Ytogkchcclcbobaa
open Go.RowKit Go.Msg
theorem rtSide : RowTy Try.prog 50 12 := ⟨by decide, by kernel_rfl, _, Try.underlying50, rfl⟩
set_option maxHeartbeats 1000000 in
theorem rooted_any (p : Value) (r s : ByteArray) (hr : r.size = 32) (hs : s.size = 32) (w : World) (hp : PrimAt w p) :
    Calls Try.prog 43 #[p, .string r, .string s] w fun e w' => ∃ a b, e = .returned (.tuple #[.string a, .string b]) ∧ Below w.heap.size w w' := by
  go_enter Try.func43, Try.ntmps43
  go_wp2_with (go_at_call 56; refine (expand_any _ r s _ 64 (by omega) (by omega) (by decide) (by omega) _ hp).mono ?_; rintro e w1 ⟨a, rfl, ha, hb⟩)
  have c1 : (32 : Int) ≤ a.size := by omega
  go_region
  go_wp2
  go_ret2
  exact ⟨_, _, rfl, hb.drew⟩
/-- A Side of no bytes. -/
def side0 : Array Value := #[.string ⟨#[]⟩, .string ⟨#[]⟩, .string ⟨#[]⟩, .string ⟨#[]⟩, .string ⟨#[]⟩, .string ⟨#[]⟩, .int .i64 0, .int .i64 0, .int .i64 0, .slice none 0 0, .slice none 0 0, .slice none 0 0]
set_option maxHeartbeats 2000000 in
theorem pstart_any (p : Value) (s t k : ByteArray) (hs : s.size = 32) (ht : t.size = 32) (hk : k.size = 32) (w : World) (hp : PrimAt w p) :
    Calls Try.prog 27 #[p, .string s, .string t, .string k] w fun e w' => ∃ c0 c1 c2 c3 c4 c5 n0 n1 n2 q, e = .returned (.tuple #[.agg #[.string c0, .string c1, .string c2, .string c3, .string c4, .string c5, .int .i64 n0, .int .i64 n1, .int .i64 n2, .slice none 0 0, .slice none 0 0, .slice none 0 0], .bool q]) ∧ Below w.heap.size w w' := by
  go_enter Try.func27, Try.ntmps27
  have B0 : Below w.heap.size w (w.alloc (.cells side0 50)) := by_alloc w _
  have R0 : (w.alloc (.cells side0 50)).rowOf w.heap.size = side0 := by simp [go_sem]
  go_wp2_with (first
    | (go_at_call 42; refine (rshared_any k t hk (by omega) _).mono ?_; rintro e w1 ⟨sh, q, rfl, hsh, hb⟩; have r1 : w1.rowOf w.heap.size = side0 := (by rw [below_row hb (by simp [go_sem])]; exact R0); have B1 := below_lift B0 (by simp) hb; have s1 := B1.size; have hp1 := hp.below B1; have z1 := hsh.size; clear hb B0 R0)
    | (go_at_call 43; refine (rooted_any _ s sh hs z1 _ hp1).mono ?_; rintro e w2 ⟨x, y, rfl, b2⟩; have r2 : w2.rowOf w.heap.size = side0 := (by rw [below_row b2 (by rw [r1]; decide), r1]); have B2 := below_lift B1 s1 b2; have s2 := B2.size)
    | (go_at_call 32; refine (rpublic_any k hk _).mono ?_; rintro e w3 ⟨m, rfl, hm, b3⟩; have r3 : w3.rowOf w.heap.size = side0 := (by rw [below_row b3 (by rw [r2]; decide), r2]); have B3 := below_lift B2 s2 b3)
    | (refine wpl_store rtSide rfl _ _ rfl w.heap.size rfl _ rfl ?_ ?_ ?_ _ rfl ?_; (focus (first | (rw [r3]; rfl) | (rw [r1]; rfl))); (focus rfl); (focus (simp [Value.oneCell']; done))))
  all_goals
    refine bodyPost_ret (results_row_tmp rtSide Try.results27 _ _ w.heap.size rfl ?_) rfl ?_
  · rw [rowOf_setRow_same (by rw [r1]; decide)]; rfl
  · rw [rowOf_setRow_same (by rw [r1]; decide)]; exact ⟨_, _, _, _, _, _, _, _, _, _, rfl, below_setRow B1 (Nat.le_refl _) _⟩
  · rw [rowOf_setRow_same (by rw [r3]; decide)]; rfl
  · rw [rowOf_setRow_same (by rw [r3]; decide)]; exact ⟨_, _, _, _, _, _, _, _, _, _, rfl, below_setRow B3 (Nat.le_refl _) _⟩
set_option maxHeartbeats 2000000 in
theorem rwait_any (s k : ByteArray) (hk : k.size = 32) (w : World) :
    Calls Try.prog 30 #[.string s, .string k] w fun e w' => ∃ c, e = .returned (.agg c) ∧ c.size = 12 ∧ c.all (·.oneCell') = true ∧ Below w.heap.size w w' := by
  go_enter Try.func30, Try.ntmps30
  have B0 : Below w.heap.size w (w.alloc (.cells side0 50)) := by_alloc w _
  have R0 : (w.alloc (.cells side0 50)).rowOf w.heap.size = side0 := by simp [go_sem]
  go_wp2_with (first
      | (go_at_call 32; refine (rpublic_any k hk _).mono ?_; rintro e w3 ⟨m, rfl, hm, b3⟩; have r3 : w3.rowOf w.heap.size = side0 := (by rw [below_row b3 (by simp [go_sem])]; exact R0); have B3 := below_lift B0 (by simp) b3; clear B0 R0)
      | (refine wpl_store rtSide rfl _ _ rfl w.heap.size rfl _ rfl ?_ ?_ ?_ _ rfl ?_; (focus (rw [r3]; rfl)); (focus rfl); (focus (simp [Value.oneCell']; done))))
  refine bodyPost_ret (results_row rtSide Try.results30 _ _ w.heap.size rfl ?_) rfl ?_
  · rw [rowOf_setRow_same (by rw [r3]; decide)]; rfl
  · rw [rowOf_setRow_same (by rw [r3]; decide)]; exact ⟨_, rfl, rfl, by simp [Value.oneCell'], below_setRow B3 (Nat.le_refl _) _⟩
end Go.Proofs.Ytogkchcclcbobaa
