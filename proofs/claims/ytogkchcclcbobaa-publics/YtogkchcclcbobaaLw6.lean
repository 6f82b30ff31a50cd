/- The walks of the statement: the first step that is not as it should be; Publics. -/
import Derived.Test.YtogkchcclcbobaaLw5
import Derived.Deep.CutRange
namespace Go.Proofs.Ytogkchcclcbobaa
open Go.RowKit Go.Msg
/-- A step of the script, in its six cells. -/
structure Ops where
  K : Nat → Int
  A : Nat → Int
  B : Nat → Int
  C : Nat → Int
  S : Nat → ByteArray
  T : Nat → ByteArray
def OpAt (w : World) (b off : Nat) (o : Ops) (i : Nat) : Prop :=
  w.cell? ⟨b, off + i * 6, none⟩ = some (.int .i64 (o.K i)) ∧ w.cell? ⟨b, off + i * 6 + 1, none⟩ = some (.int .i64 (o.A i)) ∧ w.cell? ⟨b, off + i * 6 + 2, none⟩ = some (.int .i64 (o.B i)) ∧
  w.cell? ⟨b, off + i * 6 + 3, none⟩ = some (.int .i64 (o.C i)) ∧ w.cell? ⟨b, off + i * 6 + 4, none⟩ = some (.string (o.S i)) ∧ w.cell? ⟨b, off + i * 6 + 5, none⟩ = some (.string (o.T i))
theorem OpAt.lt {w : World} {b off : Nat} {o : Ops} {i : Nat} (h : OpAt w b off o i) : b < w.heap.size := World.block_lt_of_cell? w _ h.1
theorem OpAt.below {w w' : World} {b off : Nat} {o : Ops} {i : Nat} (h : OpAt w b off o i) (hb : Below w.heap.size w w') : OpAt w' b off o i := by
  have hl := h.lt
  obtain ⟨h0, h1, h2, h3, h4, h5⟩ := h
  exact ⟨by rw [hb.cell hl]; exact h0, by rw [hb.cell hl]; exact h1, by rw [hb.cell hl]; exact h2, by rw [hb.cell hl]; exact h3, by rw [hb.cell hl]; exact h4, by rw [hb.cell hl]; exact h5⟩
set_option maxRecDepth 20000 in
set_option maxHeartbeats 4000000 in
theorem upto_any (at0 : Option Addr) (b off n cap : Nat) (o : Ops) (w : World) (hat : 0 < n → at0 = some ⟨b, off, none⟩) (hn : n ≤ 9223372036854775807) (hO : ∀ i, i < n → OpAt w b off o i)
    (hA : ∀ i, i < n → -9223372036854775808 ≤ o.A i ∧ o.A i ≤ 9223372036854775807) (hS : ∀ i, i < n → (o.S i).size ≤ 9223372036854775807) :
    Calls Try.prog 4 #[.slice at0 n cap] w fun e w' => ∃ r : Int, e = .returned (.int .i64 r) ∧ (r = -1 ∨ ∃ i, i < n ∧ r = (i : Int) ∧ o.K i ≠ 3) ∧ Below w.heap.size w w' := by
  have HAt : Hid (0 < n → at0 = some ⟨b, off, none⟩) := hat
  have HO : Hid (∀ i, i < n → OpAt w b off o i) := hO
  have HA : Hid (∀ i, i < n → -9223372036854775808 ≤ o.A i ∧ o.A i ≤ 9223372036854775807) := hA
  have HS : Hid (∀ i, i < n → (o.S i).size ≤ 9223372036854775807) := hS
  clear hat hO hA hS
  go_enter Try.func4, Try.ntmps4
  go_wp2_with (go_at_call 5; refine (constants_any _).mono ?_; rintro e W1 ⟨v, rfl, hP, hb1⟩; obtain ⟨gp, rfl⟩ : ∃ gp, v = .pointer (some ⟨gp, 0, none⟩) := (let ⟨g', _, _, _, _, h1, _⟩ := hP; ⟨g', h1⟩); (have HP : Hid (PrimAt W1 (.pointer (some ⟨gp, 0, none⟩))) := hP); clear hP)
  have L0 : LW W1 W1.heap.size (.pointer (some ⟨gp, 0, none⟩)) (W1.alloc (.cells #[.pointer (some ⟨gp, 0, none⟩), .slice none 0 0, .slice none 0 0, .string ⟨#[]⟩, .string ⟨#[]⟩] 33)) ⟨#[]⟩ ⟨#[]⟩ :=
    ⟨rowOf_new _ _ _ _ rfl, by_alloc _ _, HP.out, Nat.le_refl _, by decide⟩
  generalize W1.alloc (.cells #[.pointer (some ⟨gp, 0, none⟩), .slice none 0 0, .slice none 0 0, .string ⟨#[]⟩, .string ⟨#[]⟩] 33) = Wa at *
  generalize hg : W1.heap.size = g at *
  go_loopw [5] (fun i wq => ∃ (k : Nat) (a' b' : ByteArray), i = .int .i64 k ∧ k ≤ n ∧ LW W1 g (.pointer (some ⟨gp, 0, none⟩)) wq a' b') (fun i _ => n - (intOf i).toNat)
  case atStart => exact ⟨0, _, _, rfl, by omega, L0⟩
  case round =>
    clear L0
    obtain ⟨k, a', b', rfl, hk, L⟩ := hrel
    by_cases hlt : k < n ∧ k < 1048576
    · obtain ⟨hlt, hlt2⟩ := hlt
      have c1 : (k : Int) < n := by omega
      have c2 : (k : Int) < 1048576 := by omega
      obtain rfl := HAt.out (by omega)
      have hO := ((HO.out k hlt).below hb1).below L.bl
      obtain ⟨o0, o1, o2, o3, o4, o5⟩ := hO
      go_upto_region 7 with (go_at_call 6; refine (lawstep_any L (o.K k) (o.A k) (o.B k) (o.C k) (HA.out k hlt).1 (HA.out k hlt).2 (o.S k) (o.T k) (HS.out k hlt)).mono ?_; rintro e W2 ⟨q, a2, b2, rfl, hq, L2⟩)
      clear o0 o1 o2 o3 o4 o5
      obtain ⟨o0, o1, o2, o3, o4, o5⟩ := ((HO.out k hlt).below hb1).below L2.bl
      cases q with
      | false =>
        have hq' := hq rfl
        clear hq
        go_wp2_with fail
        go_ret
        exact ⟨k, rfl, Or.inr ⟨k, hlt, rfl, hq'⟩, below_lift hb1 hb1.size L2.bl⟩
      | true =>
        clear hq o0 o1 o2 o4 o5 L
        have HL2 : Hid (LW W1 g (.pointer (some ⟨gp, 0, none⟩)) W2 a2 b2) := L2
        clear L2
        go_upto_region 9 with fail
        go_cut [36] from 11 to 41 (fun v wx => (∃ x, v = .bool x) ∧ wx = W2)
        case first =>
          go_wp2_with fail
          go_meet
          exact ⟨⟨_, rfl⟩, rfl⟩
        case rest =>
        obtain ⟨⟨x, rfl⟩, rfl⟩ := hcut
        cases x
        all_goals go_wp2_with (go_at_call 7; refine (looks_any HL2.out).mono ?_; rintro e W3 ⟨rfl, rfl⟩)
        all_goals go_roundw
        all_goals first
          | (simp [intOf]; omega)
          | exact ⟨k + 1, _, _, by go_num, by omega, HL2.out⟩
    · by_cases hlt1 : k < n
      · have c1 : (k : Int) < n := by omega
        have c2 : ¬ (k : Int) < 1048576 := by omega
        go_wp2_with fail
        go_ret
        exact ⟨_, rfl, Or.inl rfl, below_lift hb1 hb1.size L.bl⟩
      · have c1 : ¬ (k : Int) < n := by omega
        go_wp2_with fail
        go_ret
        exact ⟨_, rfl, Or.inl rfl, below_lift hb1 hb1.size L.bl⟩
set_option maxHeartbeats 1000000 in
theorem publics_any (at0 : Option Addr) (b off n cap : Nat) (o : Ops) (w : World) (hat : 0 < n → at0 = some ⟨b, off, none⟩) (hn : n ≤ 9223372036854775807) (hO : ∀ i, i < n → OpAt w b off o i)
    (hA : ∀ i, i < n → -9223372036854775808 ≤ o.A i ∧ o.A i ≤ 9223372036854775807) (hS : ∀ i, i < n → (o.S i).size ≤ 9223372036854775807) :
    Calls Try.prog 3 #[.slice at0 n cap] w fun e w' => e = .returned (.bool true) ∧ Below w.heap.size w w' := by
  have HAt : Hid (0 < n → at0 = some ⟨b, off, none⟩) := hat
  have HO : Hid (∀ i, i < n → OpAt w b off o i) := hO
  have HA : Hid (∀ i, i < n → -9223372036854775808 ≤ o.A i ∧ o.A i ≤ 9223372036854775807) := hA
  have HS : Hid (∀ i, i < n → (o.S i).size ≤ 9223372036854775807) := hS
  clear hat hO hA hS
  go_enter Try.func3, Try.ntmps3
  go_upto_region 2 with (go_at_call 4; refine (upto_any at0 b off n cap o w HAt.out hn HO.out HA.out HS.out).mono ?_; rintro e W1 ⟨r, rfl, hr, hb⟩)
  rcases hr with rfl | ⟨i, hi, rfl, hK⟩
  · go_wp2_with fail
    go_ret
    exact ⟨rfl, hb⟩
  · obtain rfl := HAt.out (by omega)
    obtain ⟨o0, o1, o2, o3, o4, o5⟩ := (HO.out i hi).below hb
    clear o1 o2 o3 o4 o5
    have c1 : (i : Int) < n := by omega
    have c2 : ¬ (i : Int) < 0 := by omega
    have c3 : (o.K i != 3) = true := by simpa using hK
    go_wp2_with fail
    go_ret
    exact ⟨rfl, hb⟩
end Go.Proofs.Ytogkchcclcbobaa
