/- The walks of the document's own answer: the constants: primes. -/
import Derived.Test.YtogkchcclcbobaaRfA
namespace Go.Msg
open Go.RowKit
/-- The primes below n + 2. -/
def PL : Nat → List Int
  | 0 => []
  | n + 1 => if (PL n).all (fun p => ((n : Int) + 2) % p != 0) then PL n ++ [(n : Int) + 2] else PL n
theorem PL_two (n : Nat) : ∀ p ∈ PL n, 2 ≤ p ∧ p ≤ (n : Int) + 1 := by
  induction n with
  | zero => intro p hp; cases hp
  | succ n ih =>
    intro p hp
    rw [PL] at hp
    split at hp
    · rcases List.mem_append.1 hp with h | h
      · have := ih p h; omega
      · have : p = (n : Int) + 2 := by simpa using h
        omega
    · have := ih p hp; omega
theorem PL_len (n : Nat) : (PL n).length ≤ (PL (n + 1)).length := by
  rw [PL]; split
  · simp
  · omega
theorem PL_mono {a b : Nat} (h : a ≤ b) : (PL a).length ≤ (PL b).length := by
  induction b with
  | zero => have : a = 0 := by omega
            subst this; omega
  | succ b ih =>
    by_cases e : a = b + 1
    · subst e; omega
    · have := ih (by omega); have := PL_len b; omega
theorem PL_64 : (PL 310).length = 64 := by decide +kernel
def PLf (n : Nat) (i : Nat) : Int := (PL n).getD i 0
theorem ints_of_list (l : List Int) : ints .i64 l.length (fun i => l.getD i 0) = l.map (Value.int .i64) := by
  apply List.ext_getElem?
  intro i
  by_cases h : i < l.length
  · rw [ints_get _ _ _ _ h]; simp [h]
  · simp [ints, h]
def PT (n k : Nat) : Bool := ((PL n).take k).all (fun p => ((n : Int) + 2) % p != 0)
theorem PT_zero (n : Nat) : PT n 0 = true := by simp [PT]
theorem PT_succ (n k : Nat) (h : k < (PL n).length) : PT n (k + 1) = (PT n k && (((n : Int) + 2) % (PLf n k) != 0)) := by
  unfold PT PLf
  rw [List.take_succ_eq_append_getElem h, List.all_append]
  simp only [List.all_cons, List.all_nil, Bool.and_true, List.getD_eq_getElem?_getD, List.getElem?_eq_getElem h, Option.getD_some]
theorem PT_all (n : Nat) : PT n (PL n).length = (PL n).all (fun p => ((n : Int) + 2) % p != 0) := by
  unfold PT; rw [List.take_length]
theorem PL_yes {n : Nat} (h : PT n (PL n).length = true) : (PL (n + 1)).length = (PL n).length + 1 ∧ ints .i64 (PL (n + 1)).length (PLf (n + 1)) = ints .i64 ((PL n).length + 1) (upd (PLf n) (PL n).length ((n : Int) + 2)) := by
  rw [PT_all] at h
  have e : PL (n + 1) = PL n ++ [(n : Int) + 2] := by rw [PL, if_pos h]
  refine ⟨by rw [e]; simp, ?_⟩
  unfold PLf
  rw [ints_of_list, ← ints_snoc, ints_of_list, e]; simp
theorem PL_no {n : Nat} (h : PT n (PL n).length = false) : PL (n + 1) = PL n := by
  rw [PT_all] at h
  rw [PL, if_neg (by rw [h]; simp)]
end Go.Msg
namespace Go.Proofs.Ytogkchcclcbobaa
open Go.RowKit Go.Msg
theorem owns_alloc {w : World} {B e : Nat} {v : Value} {n : Nat} {xs : List Value} (h : w.ownsRow B e 1 v n xs) (o : Obj) : (w.alloc o).ownsRow B e 1 v n xs := h.alloc o
theorem intS : SliceTy Try.prog 36 3 .i64 8 := ⟨Try.underlying36, by kernel_rfl, by omega⟩
set_option maxHeartbeats 2000000 in
theorem primes_any (w : World) : Calls Try.prog 8 #[.int .i64 64] w fun e w' => ∃ v f, e = .returned v ∧ NumAt w' v 64 f ∧ (∀ i, i < 64 → 2 ≤ f i ∧ f i ≤ 1000) ∧ Below w.heap.size w w' := by
  go_enter Try.func8, Try.ntmps8
  go_wp2
  go_loopw [3, 4, 5, 6] (fun v i _ _ wr => ∃ (n : Nat), n ≤ 310 ∧ (PL n).length ≤ 64 ∧ i = .int .i64 ((n : Int) + 2) ∧ wr.ownsRow w.heap.size 3 1 v (PL n).length (ints .i64 (PL n).length (PLf n)) ∧ Below w.heap.size w wr) (fun _ i _ _ _ => 1000 - (intOf i).toNat)
  case atStart => exact ⟨0, by omega, by decide, rfl, World.ownsRow_nil _ _ _ _, Below.refl _ _⟩
  case round =>
    obtain ⟨n, hn311, hn, rfl, hown, hbel⟩ := hrel
    have hbs := hbel.size
    have hnum := NumAt.of_owns hown
    obtain ⟨ao, cap, g, rfl, hc1, ha1, hx1⟩ := hnum
    have hf : ∀ i, i < (PL n).length → 2 ≤ PLf n i ∧ PLf n i ≤ (n : Int) + 1 := fun i hi => by
      unfold PLf
      have : (PL n).getD i 0 = (PL n)[i] := by simp [hi]
      rw [this]; exact PL_two n _ (List.getElem_mem hi)
    by_cases hlt : (PL n).length < 64
    · have hn310 : n < 310 := by
        by_cases h : 310 ≤ n
        · have := PL_mono h; rw [PL_64] at this; omega
        · omega
      have c1 : ((PL n).length : Int) < 64 := by omega
      go_wp2
      have HT1 : Hid _ := PT_succ n
      have HT0 := PT_zero n
      have HY : Hid _ := @PL_yes n
      have HN : Hid _ := @PL_no n
      have Hown : Hid _ := hown
      have hL : ((PL n).length : Int) ≤ 64 := by omega
      have hLn : (PL n).length ≤ 64 := hn
      clear hown
      go_loop [5, 6] (fun b i => ∃ k : Nat, k ≤ (PL n).length ∧ i = .int .i64 k ∧ b = .bool (PT n k)) (fun _ i => (PL n).length - (intOf i).toNat)
      case atStart => exact ⟨0, by omega, rfl, by rw [HT0]⟩
      case round =>
        obtain ⟨k, hk, rfl, rfl⟩ := hrel
        by_cases hk2 : k < (PL n).length
        · have c2 : (k : Int) < (PL n).length := by omega
          obtain rfl := ha1 (by omega)
          have y1 := hx1 k hk2
          have f1 := hf k hk2
          have f2 : ¬ PLf n k = 0 := by omega
          have hs := HT1.out k hk2
          clear hx1 ha1 hf
          cases hb : PT n k with
          | true =>
            rw [hb, Bool.true_and] at hs
            have HS : Hid _ := hs
            clear hs hb
            go_wp2
            go_round
            case rel => exact ⟨k + 1, by omega, by go_num, by rw [HS.out]⟩
            case measure => simp [intOf]; omega
          | false =>
            rw [hb, Bool.false_and] at hs
            have HS : Hid _ := hs
            clear hs hb
            go_wp2
            go_round
            case rel => exact ⟨k + 1, by omega, by go_num, by rw [HS.out]⟩
            case measure => simp [intOf]; omega
        · have hk' : k = (PL n).length := by omega
          subst hk'
          cases hb : PT n (PL n).length with
          | true =>
            have HY2 := HY.out hb
            have HY3 : Hid _ := HY2
            clear HY2 hb ha1 hx1 hf
            go_wp2_with (refine wpl_append1 intS rfl _ _ rfl w.heap.size _ (PL n).length (PLf n) rfl ?_ (wr.heap.size) ((n : Int) + 2) rfl ?_ (by omega) ?_ ?_; (focus (exact owns_alloc Hown.out _)); (focus (simp [go_sem]; done)); (focus (simp; omega)); intro v' w' hown' hbel' hsz')
            go_roundw
            case rel => exact ⟨n + 1, by omega, by rw [HY3.out.1]; omega, by go_num, by rw [HY3.out.2, HY3.out.1]; exact hown', hbel' _ (hbel.alloc hbs _)⟩
            case measure => simp [intOf]; omega
          | false =>
            have HN2 : Hid _ := HN.out hb
            clear hb ha1 hx1 hf
            go_wp2
            go_roundw
            case rel => exact ⟨n + 1, by omega, by rw [HN2.out]; omega, by go_num, by unfold PLf; rw [HN2.out]; exact Hown.out, hbel⟩
            case measure => simp [intOf]; omega
    · have hl : (PL n).length = 64 := by omega
      have HF : Hid _ := hf
      have c1 : ((PL n).length : Int) = 64 := by omega
      have HX : Hid (NumAt wr (.slice ao (PL n).length cap) (PL n).length (PLf n)) := ⟨ao, cap, g, rfl, hc1, ha1, hx1⟩
      clear hf hx1 ha1 hown
      go_wp2
      go_ret
      have hX := HX.out
      rw [hl] at hX
      exact ⟨.slice ao (PL n).length cap, PLf n, rfl, (by rw [hl]; exact hX), fun i hi => (by have := HF.out i (by omega); omega), hbel⟩
end Go.Proofs.Ytogkchcclcbobaa
