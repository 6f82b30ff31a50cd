/- The walks of the document's own answer: SHA-256. -/
import Derived.Test.YtogkchcclcbobaaHs4
namespace Go.Proofs.Ytogkchcclcbobaa
open Go.RowKit Go.Msg
def slen : Value → Nat
  | .string s => s.size
  | _ => 0
theorem cvA (w : World) (x : Int) : (convert 58 9 (.slice (some ⟨w.heap.size, 0, none⟩) 1 1)).run Try.prog (w.alloc (.cells #[.int .u8 x] 5)) = .ok (.string (b1 x)) (w.alloc (.cells #[.int .u8 x] 5)) := cv_row _ _ _ (by simp [go_sem])
@[simp, go_sem] theorem lit1_size (x : UInt8) : (ByteArray.mk #[x]).size = 1 := rfl
/-- Two bytes, four bytes as a text. -/
def b2 (x y : Int) : ByteArray := bstr 2 (fun i => [x, y].getD i 0)
def b4 (x y z u : Int) : ByteArray := bstr 4 (fun i => [x, y, z, u].getD i 0)
@[simp, go_sem] theorem b2_size (x y : Int) : (b2 x y).size = 2 := bstr_size _ _
@[simp, go_sem] theorem b4_size (x y z u : Int) : (b4 x y z u).size = 4 := bstr_size _ _
theorem cvB (w : World) (x y : Int) : (convert 58 9 (.slice (some ⟨w.heap.size, 0, none⟩) 2 2)).run Try.prog (w.alloc (.cells #[.int .u8 x, .int .u8 y] 5)) = .ok (.string (b2 x y)) (w.alloc (.cells #[.int .u8 x, .int .u8 y] 5)) := by
  rw [run_convert_row _ 58 9 5 Try.underlying58 Try.underlying5 Try.underlying9 w.heap.size 0 2 2 2 (fun i => [x, y].getD i 0) (by rw [tab_eq]; simp [go_sem]) (by omega)]
  simp only [Nat.zero_add]; rfl
theorem cvD (w : World) (x y z u : Int) : (convert 58 9 (.slice (some ⟨w.heap.size, 0, none⟩) 4 4)).run Try.prog (w.alloc (.cells #[.int .u8 x, .int .u8 y, .int .u8 z, .int .u8 u] 5)) = .ok (.string (b4 x y z u)) (w.alloc (.cells #[.int .u8 x, .int .u8 y, .int .u8 z, .int .u8 u] 5)) := by
  rw [run_convert_row _ 58 9 5 Try.underlying58 Try.underlying5 Try.underlying9 w.heap.size 0 4 4 4 (fun i => [x, y, z, u].getD i 0) (by rw [tab_eq]; simp [go_sem]) (by omega)]
  simp only [Nat.zero_add]; rfl
set_option maxRecDepth 4000 in
set_option maxHeartbeats 8000000 in
theorem sha_any (p : Value) (t : ByteArray) (ht : t.size ≤ 100000) (w : World) (hp : PrimAt w p) :
    Calls Try.prog 59 #[p, .string t] w fun e w' => ∃ s, e = .returned (.string s) ∧ s.size = 32 ∧ Below w.heap.size w w' := by
  have qA := cvA
  have qD := cvD
  obtain ⟨gp, vk, vh, fk, fh, rfl, kp0, kp1, nk, nh, bk, bh⟩ := hp
  have hp : PrimAt w (.pointer (some ⟨gp, 0, none⟩)) := ⟨gp, vk, vh, fk, fh, rfl, kp0, kp1, nk, nh, bk, bh⟩
  obtain ⟨N, hN⟩ : ∃ N, N = t.size + 1 + (120 - (t.size + 1) % 64) % 64 := ⟨_, rfl⟩
  have hN1 : N % 64 = 56 := by omega
  have hN2 : N ≤ t.size + 64 := by omega
  have hN3 : ∀ x, t.size + 1 ≤ x → x ≤ N → x % 64 = 56 → x = N := fun x h1 h2 h3 => by omega
  have hN4 : t.size + 1 ≤ N := by omega
  clear hN
  go_enter Try.func59, Try.ntmps59
  go_wp2
  go_loop [1] (fun v => ∃ s : ByteArray, v = .string s ∧ t.size + 1 ≤ s.size ∧ s.size ≤ N) (fun v => N - slen v)
  case atStart => exact ⟨_, rfl, by simp [ByteArray.size_append], by simp [ByteArray.size_append]; exact hN4⟩
  case round =>
    obtain ⟨s, rfl, hs1, hs2⟩ := hrel
    by_cases hs : s.size = N
    · have c1 : ((s.size : Int) % 64 != 56) = false := by simp; omega
      have HS : Hid (s.size = N) := hs
      have c2 : s.size ≤ 200000 := by omega
      clear hs1 hs2 hs hN3
      go_wp2
      go_loopw [5, 6, 7] (fun x z i wr => ∃ (y : Int) (b : ByteArray) (k : Nat), x = .int .i64 y ∧ z = .string b ∧ i = .int .i64 k ∧ k ≤ 8 ∧ b.size = k ∧ Below w.heap.size w wr) (fun _ _ i _ => 8 - (intOf i).toNat)
      case atStart => exact ⟨_, _, 0, rfl, rfl, rfl, by omega, rfl, Below.refl _ _⟩
      case round =>
        obtain ⟨y, b, k, rfl, rfl, rfl, hk, hb, hbel⟩ := hrel
        have hbs := hbel.size
        by_cases hlt : k < 8
        · have c3 : (k : Int) < 8 := by omega
          have c4 : b.size ≤ 8 := by omega
          have HB : Hid (b.size = k) := hb
          clear hb
          go_wp2
          go_roundw
          case rel => exact ⟨_, _, k + 1, rfl, rfl, by go_num, by omega, by rw [ByteArray.size_append, b1_size, HB.out]; omega, hbel.alloc hbs _⟩
          case measure => simp [intOf]; omega
        · have hk' : k = 8 := by omega
          subst hk'
          rw [show ((8 : Nat) : Int) = 8 from rfl]
          obtain ⟨W1, hW1⟩ : ∃ W, W = wr := ⟨_, rfl⟩
          subst hW1
          have q1 : W1.cell? ⟨gp, 1, none⟩ = some vh := by rw [hbel.cell (World.block_lt_of_cell? w _ kp1)]; exact kp1
          obtain ⟨m, hm⟩ : ∃ m, (s ++ b).size = 64 * m := ⟨(N + 8) / 64, by rw [ByteArray.size_append, HS.out, hb]; omega⟩
          have hm2 : (s ++ b).size ≤ 300000 := by rw [ByteArray.size_append, hb]; omega
          have HM : Hid ((s ++ b).size = 64 * m) := hm
          have HM2 : Hid ((s ++ b).size ≤ 300000) := hm2
          have c4 : b.size ≤ 8 := by omega
          clear hm hm2 hb qA
          go_wp2
          have hm := HM.out
          have hm2 := HM2.out
          clear HM HM2 HS c2 c4
          generalize s ++ b = T at *
          have nh1 : NumAt W1 vh 8 fh := nh.below hbel
          have hp1 := hp.below hbel
          obtain ⟨vl, hvl⟩ : ∃ v, v = vh := ⟨_, rfl⟩
          go_loopw [8, 9] (fun v i wr => ∃ (f : Nat → Int) (k : Nat), i = .int .i64 (64 * (k : Int)) ∧ k ≤ m ∧ NumAt wr v 8 f ∧ PrimAt wr (.pointer (some ⟨gp, 0, none⟩)) ∧ Below w.heap.size w wr) (fun _ i _ => 64 * m - (intOf i).toNat)
          case atStart => exact ⟨fh, 0, rfl, by omega, nh1, hp1, hbel⟩
          case round =>
            clear nh1 hp1 hbel hbs q1
            obtain ⟨f, k, rfl, hk, nv, hp1, hbel⟩ := hrel
            have hbs := hbel.size
            by_cases hlt : k < m
            · have c3 : 64 * (k : Int) < T.size := by omega
              have c5 : 64 * (k : Int) + 64 ≤ T.size := by omega
              have c6 : (T.size : Int) ≤ 300000 := by omega
              have c7 : (64 * (k : Int)).toNat = 64 * k := by omega
              have c8 : (64 * (k : Int) + 64).toNat = 64 * k + 64 := by omega
              go_wp2_with (go_at_call 71; refine (block_any _ _ f _ ?_ _ hp1 nv).mono ?_; (focus (simp [ByteArray.size_extract]; omega)); rintro e w2 ⟨v2, f2, rfl, n2, hb2⟩)
              go_roundw
              case rel => exact ⟨f2, k + 1, by go_num, by omega, n2, hp1.below hb2, below_lift hbel hbs hb2⟩
              case measure => simp [intOf]; omega
            · have hk' : k = m := by omega
              subst hk'
              have c3 : ¬ 64 * (k : Int) < T.size := by omega
              obtain ⟨ao, cap, g, rfl, hc1, ha1, hx1⟩ := nv
              obtain rfl := ha1 (by omega)
              have HX : Hid _ := hx1
              clear hx1 ha1 hp1
              obtain ⟨W2, hW2⟩ : ∃ W, W = wr := ⟨_, rfl⟩
              subst hW2
              have HB : Hid _ := hbel
              clear hbel
              go_wp2
              go_loopw [10, 11] (fun o i wq => ∃ (b : ByteArray) (k : Nat), o = .string b ∧ i = .int .i64 k ∧ k ≤ 8 ∧ b.size = 4 * k ∧ Below W2.heap.size W2 wq) (fun _ i _ => 8 - (intOf i).toNat)
              case atStart => exact ⟨_, 0, rfl, rfl, by omega, rfl, Below.refl _ _⟩
              case round =>
                obtain ⟨b, j, rfl, rfl, hj, hb, hbel⟩ := hrel
                have hbs2 := hbel.size
                by_cases hlt2 : j < 8
                · have c5 : (j : Int) < 8 := by omega
                  have y0 := HX.out j hlt2
                  have y1 : wr.cell? ⟨g, j, none⟩ = some (.int .i64 (f j)) := by rw [hbel.cell (World.block_lt_of_cell? W2 _ y0)]; exact y0
                  have c6 : b.size ≤ 32 := by omega
                  have HBS : Hid (b.size = 4 * j) := hb
                  clear hb y0
                  go_wp2
                  go_roundw
                  case rel => exact ⟨_, j + 1, rfl, by go_num, by omega, by rw [ByteArray.size_append, b4_size, HBS.out]; omega, hbel.alloc hbs2 _⟩
                  case measure => simp [intOf]; omega
                · have hj' : j = 8 := by omega
                  subst hj'
                  go_wp2
                  go_ret
                  exact ⟨b, rfl, by omega, below_lift HB.out hbs hbel⟩
    · have c1 : ((s.size : Int) % 64 != 56) = true := by
        have := hN3 s.size hs1 hs2
        simp; omega
      have c2 : s.size ≤ 200000 := by omega
      have HN3 : Hid _ := hN3
      clear hN3
      go_wp2
      go_round
      case rel => exact ⟨_, rfl, by simp [ByteArray.size_append]; omega, by simp [ByteArray.size_append]; omega⟩
      case measure => simp [slen, ByteArray.size_append]; omega
end Go.Proofs.Ytogkchcclcbobaa
