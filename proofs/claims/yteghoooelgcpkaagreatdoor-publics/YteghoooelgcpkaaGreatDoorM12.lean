import Derived.Test.YteghoooelgcpkaaGreatDoorM11
namespace Go.Proofs.YteghoooelgcpkaaGreatDoor
open Go.RowKit Go.Msg
set_option maxHeartbeats 1000000 in
theorem cut32 (t : ByteArray) (h : 32 ≤ t.size) (h2 : t.size ≤ 1000) (w : World) : Calls Tryz.prog 140 #[.string t, .int .i64 32] w fun e w' => e = .returned (.tuple #[.string (t.extract 0 32), .string (t.extract 32 t.size)]) ∧ ∃ q, w' = w.drewN q := by
  have c1 : ¬ (32 : Int) > t.size := by omega
  have c2 : (32 : Int) ≤ t.size := by omega
  go_enter Tryz.func140, Tryz.ntmps140
  go_wp2_with fail
  go_region
  go_wp2
  go_ret2
  exact ⟨rfl, 1, rfl⟩
theorem derive64 (k t u : ByteArray) (hk : k.size ≤ 64) (ht : t.size ≤ 1000) (hu : u.size ≤ 100) (w : World) (hT : Tbl w) :
    Calls Tryz.prog 139 #[.string k, .string t, .string u, .int .i64 64] w fun e w' => e = .returned (.string (hkdfF k t u 64)) ∧ Below w.heap.size w w' := derive_any k t u 64 hk ht hu (by omega) w hT
theorem derive76 (k t u : ByteArray) (hk : k.size ≤ 64) (ht : t.size ≤ 1000) (hu : u.size ≤ 100) (w : World) (hT : Tbl w) :
    Calls Tryz.prog 139 #[.string k, .string t, .string u, .int .i64 76] w fun e w' => e = .returned (.string (hkdfF k t u 76)) ∧ Below w.heap.size w w' := derive_any k t u 76 hk ht hu (by omega) w hT
theorem below_drewN {B : Nat} {a w : World} (h : Below B a w) (n : Nat) : Below B a (w.drewN n) := ⟨h.os, h.tape, h.output, h.size, h.block⟩
set_option maxHeartbeats 1000000 in
theorem root_any (r s : ByteArray) (hr : r.size = 32) (hs : s.size = 32) (w : World) (hT : Tbl w) :
    Calls Tryz.prog 117 #[.string r, .string s] w fun e w' => e = .returned (.tuple #[.string (rootA r s), .string (rootC r s)]) ∧ Below w.heap.size w w' := by
  have hz : (hkdfF r s sRoot 64).size = 64 := hkdfF_size _ _ _ _
  have HA : Hid ((hkdfF r s sRoot 64).extract 0 32 = rootA r s) := Hid.mk rfl
  have HC : Hid ((hkdfF r s sRoot 64).extract 32 (hkdfF r s sRoot 64).size = rootC r s) := Hid.mk (by rw [hz]; rfl)
  go_enter Tryz.func117, Tryz.ntmps117
  go_wp2_with (first
    | (go_at_call 139; refine (derive64 r s sRoot (by omega) (by omega) (by decide) _ hT).mono ?_; rintro e w1 ⟨rfl, hb⟩)
    | (go_at_call 140; have M := cut32 (hkdfF r s sRoot 64) (by omega) (by omega) w1; with_reducible refine M.mono ?_; clear M; rintro e w2 ⟨rfl, q, rfl⟩; rw [HA.out, HC.out]))
  go_ret2
  exact ⟨rfl, below_drewN hb q⟩
set_option maxHeartbeats 1000000 in
theorem messageKey_any (c : ByteArray) (hc : c.size ≤ 64) (w : World) (hT : Tbl w) : Calls Tryz.prog 69 #[.string c] w fun e w' => e = .returned (.string (keyF c)) ∧ Below w.heap.size w w' := by
  go_enter Tryz.func69, Tryz.ntmps69
  go_wp2_with (go_at_call 102; refine (dmac_any c sOne hc (by decide) _ hT).mono ?_; rintro e w1 ⟨rfl, hb⟩)
  go_ret
  exact ⟨rfl, hb⟩
set_option maxHeartbeats 1000000 in
theorem behind_any (c : ByteArray) (hc : c.size ≤ 64) (w : World) (hT : Tbl w) : Calls Tryz.prog 71 #[.string c] w fun e w' => e = .returned (.string (behF c)) ∧ Below w.heap.size w w' := by
  go_enter Tryz.func71, Tryz.ntmps71
  go_wp2_with (go_at_call 102; refine (dmac_any c sTwo hc (by decide) _ hT).mono ?_; rintro e w1 ⟨rfl, hb⟩)
  go_ret
  exact ⟨rfl, hb⟩
def skC (k : ByteArray) : Array Value := #[.string ((sealK k).extract 0 32), .string ((sealK k).extract 32 64), .string ((sealK k).extract 64 76)]
def sk0 : Array Value := #[.string ⟨#[]⟩, .string ⟨#[]⟩, .string ⟨#[]⟩]
theorem sk0_pos : 0 < sk0.size := by decide
theorem row_drewN {w : World} {n g : Nat} {c : Array Value} (h : w.rowOf g = c) : (w.drewN n).rowOf g = c := h
theorem rowcel {W : World} {g : Nat} {c : Array Value} (h : W.rowOf g = c) (j : Nat) (v : Value) (hj : c[j]? = some v) : W.cell? ⟨g, j, none⟩ = some v := by
  have hlt : j < c.size := (Array.getElem?_eq_some_iff.1 hj).1
  rw [(cell_of_rowOf h j hlt).1, hj]
theorem rtKeys : RowTy Tryz.prog 142 3 := ⟨by decide, by kernel_rfl, _, Tryz.underlying142, rfl⟩
theorem skC_size (k : ByteArray) : (skC k).size = 3 := rfl
theorem skC_one (k : ByteArray) : (skC k).all (·.oneCell') = true := by simp [skC, Value.oneCell']
theorem sk_c0 {w : World} {g : Nat} {k : ByteArray} (h : w.rowOf g = skC k) : w.cell? ⟨g, 0, none⟩ = some (.string ((sealK k).extract 0 32)) := rowcel h 0 _ rfl
theorem sk_c1 {w : World} {g : Nat} {k : ByteArray} (h : w.rowOf g = skC k) : w.cell? ⟨g, 1, none⟩ = some (.string ((sealK k).extract 32 64)) := rowcel h 1 _ rfl
theorem sk_c2 {w : World} {g : Nat} {k : ByteArray} (h : w.rowOf g = skC k) : w.cell? ⟨g, 2, none⟩ = some (.string ((sealK k).extract 64 76)) := rowcel h 2 _ rfl
theorem new_stored {w w1 : World} (B1 : Below w.heap.size w w1) (z c : Array Value) (t : Nat) (hz : 0 < z.size) : (w1.alloc (.cells z t)).rowOf w1.heap.size = z ∧ ∃ W, W = (w1.alloc (.cells z t)).setRow w1.heap.size c ∧ W.rowOf w1.heap.size = c ∧ Below w.heap.size w W ∧ w1.heap.size < W.heap.size := by
  have r : (w1.alloc (.cells z t)).rowOf w1.heap.size = z := by simp [go_sem]
  refine ⟨r, _, rfl, rowOf_setRow_same (by rw [r]; exact hz), below_setRow (B1.alloc B1.size _) B1.size _, ?_⟩
  simp [World.setRow]
set_option maxHeartbeats 2000000 in
theorem sealKeysOf_any (k : ByteArray) (hk : k.size ≤ 64) (w : World) (hT : Tbl w) :
    Calls Tryz.prog 103 #[.string k] w fun e w' => e = .returned (.agg (skC k)) ∧ Below w.heap.size w w' := by
  have hz := sealK_size k
  have HK : Hid (hkdfF sNil k sMK 76 = sealK k) := Hid.mk rfl
  have HSK : Hid (skC k = #[.string ((sealK k).extract 0 32), .string ((sealK k).extract 32 64), .string ((sealK k).extract 64 76)]) := Hid.mk rfl
  rw [HSK.out]
  generalize sealK k = s at *
  have x0 : (s.extract 0 32).size = 32 := ext_size (by omega)
  have x1 : (s.extract 32 64).size = 32 := ext_size (by omega)
  have x2 : (s.extract 64 76).size = 12 := ext_size (by omega)
  have x3 : (s.extract 32 76).size = 44 := ext_size (by omega)
  have HE0 : Hid (s.extract 32 s.size = s.extract 32 76) := Hid.mk (by rw [hz])
  have HE1 : Hid ((s.extract 32 76).extract 0 32 = s.extract 32 64) := Hid.mk (ext_ext s 32 76 0 32 (by omega) (by omega))
  have HE2 : Hid ((s.extract 32 76).extract 32 (s.extract 32 76).size = s.extract 64 76) := Hid.mk (by rw [x3]; exact ext_ext s 32 76 32 44 (by omega) (by omega))
  clear HSK
  go_enter Tryz.func103, Tryz.ntmps103
  have B0 : Below w.heap.size w (w.alloc (.cells sk0 142)) := by_alloc w _
  have R0 : (w.alloc (.cells sk0 142)).rowOf w.heap.size = sk0 := by simp [go_sem]
  go_wp2_with (first
    | (go_at_call 139; refine (derive76 sNil k sMK (by decide) (by omega) (by decide) _ (hT.below B0)).mono ?_; rintro e w1 ⟨rfl, hb1⟩; rw [HK.out]; have r1 : w1.rowOf w.heap.size = sk0 := (by rw [below_row hb1 (by rw [R0]; exact sk0_pos)]; exact R0); have B1 := below_lift B0 (by simp) hb1; have s1 := B1.size; clear hb1 B0 R0)
    | (go_at_call 140; have M := cut32 s (by omega) (by omega) w1; with_reducible refine M.mono ?_; clear M; rintro e w2 ⟨rfl, q2, rfl⟩; rw [HE0.out]; have B2 := below_drewN B1 q2; have r2 := row_drewN (n := q2) r1; generalize w1.drewN q2 = w2 at B2 r2 ⊢)
    | (go_at_call 140; have M := cut32 (s.extract 32 76) (by omega) (by omega) w2; with_reducible refine M.mono ?_; clear M; rintro e w3 ⟨rfl, q3, rfl⟩; rw [HE1.out, HE2.out]; have B3 := below_drewN B2 q3; have r3 := row_drewN (n := q3) r2; generalize w2.drewN q3 = w3 at B3 r3 ⊢; have s3 := B3.size)
    | (refine wpl_store rtKeys rfl _ _ rfl w.heap.size rfl _ rfl ?_ ?_ ?_ _ rfl ?_; (focus (rw [r3]; rfl)); (focus rfl); (focus (simp [Value.oneCell']; done)))
    | fail)
  refine bodyPost_ret (results_row rtKeys Tryz.results103 _ _ w.heap.size rfl ?_) rfl ?_
  · rw [rowOf_setRow_same (by rw [r3]; decide)]; rfl
  · rw [rowOf_setRow_same (by rw [r3]; decide)]; exact ⟨rfl, below_setRow B3 (Nat.le_refl _) _⟩
set_option maxHeartbeats 2000000 in
theorem tagOf_any (k a t : ByteArray) (ha : a.size ≤ 200) (ht : t.size ≤ 200) (w : World) (hT : Tbl w) :
    Calls Tryz.prog 105 #[.agg (skC k), .string a, .string t] w fun e w' => e = .returned (.string (tagF k a t)) ∧ Below w.heap.size w w' := by
  have ca : (a.size : Int) ≤ 200 := by omega
  have hz := sealK_size k
  have HG : Hid (macF ((sealK k).extract 32 64) (be 4 (a.size : Int) ++ a ++ t) = tagF k a t) := Hid.mk rfl
  have zf : (be 4 (a.size : Int)).size = 4 := be_size _ _
  rw [skC]
  generalize sealK k = s at *
  have x1 : (s.extract 32 64).size = 32 := ext_size (by omega)
  have B0 : Below w.heap.size w (w.alloc (.cells #[.string (s.extract 0 32), .string (s.extract 32 64), .string (s.extract 64 76)] 142)) := by_alloc w _
  have R0 : (w.alloc (.cells #[.string (s.extract 0 32), .string (s.extract 32 64), .string (s.extract 64 76)] 142)).rowOf w.heap.size = #[.string (s.extract 0 32), .string (s.extract 32 64), .string (s.extract 64 76)] := by simp [go_sem]
  have HR0 := Hid.mk R0
  have HRC : Hid (∀ W : World, W.rowOf w.heap.size = #[.string (s.extract 0 32), .string (s.extract 32 64), .string (s.extract 64 76)] → W.cell? ⟨w.heap.size, 1, none⟩ = some (.string (s.extract 32 64))) := Hid.mk (fun W h => rowcel h 1 _ rfl)
  clear R0
  go_enter Tryz.func105, Tryz.ntmps105
  go_wp2_with (first
    | (go_at_call 100; have M := otext4 (a.size : Int) ⟨by omega, by omega⟩ (w.alloc (.cells #[.string (s.extract 0 32), .string (s.extract 32 64), .string (s.extract 64 76)] 142)); with_reducible refine M.mono ?_; clear M; rintro e w5 ⟨rfl, hb5⟩; have B5 := below_lift B0 (by simp) hb5; have s5 := B5.size; have hT5 := hT.below B5; have R5 := (below_row hb5 (by rw [HR0.out]; simp)).trans HR0.out; have f1 := HRC.out _ R5; clear R5)
    | (go_at_call 102; refine (dmac_any (s.extract 32 64) (be 4 (a.size : Int) ++ a ++ t) (by omega) ?_ _ hT5).mono ?_; (focus (simp only [ByteArray.size_append]; omega)); rintro e w6 ⟨rfl, hb6⟩; rw [HG.out])
    | fail)
  go_ret
  exact ⟨rfl, below_lift B5 s5 hb6⟩
set_option maxHeartbeats 2000000 in
theorem seal_any (k a t : ByteArray) (hk : k.size ≤ 64) (ha : a.size ≤ 200) (ht : t.size ≤ 200) (w : World) (hT : Tbl w) :
    Calls Tryz.prog 70 #[.string k, .string a, .string t] w fun e w' => e = .returned (.tuple #[.string (turnF k t), .string (tagF k a (turnF k t))]) ∧ Below w.heap.size w w' := by
  have hz := sealK_size k
  have HTT : Hid (streamF ((sealK k).extract 0 32) ((sealK k).extract 64 76) t = turnF k t) := Hid.mk rfl
  have zt : (turnF k t).size ≤ 200 := by rw [turnF_size]; exact ht
  have x0 : ((sealK k).extract 0 32).size = 32 := ext_size (by omega)
  have x2 : ((sealK k).extract 64 76).size = 12 := ext_size (by omega)
  have HT := Hid.mk hT
  clear hT
  go_enter Tryz.func70, Tryz.ntmps70
  go_wp2_with (first
    | (go_at_call 103; have M := sealKeysOf_any k hk w HT.out; with_reducible refine M.mono ?_; clear M; rintro e w1 ⟨rfl, B1⟩; obtain ⟨r1, w2, hw2, R2, B2, z2⟩ := new_stored B1 sk0 (skC k) 142 sk0_pos; have s2 := B2.size; have f0 := sk_c0 R2; have f2 := sk_c2 R2; have HR2 := Hid.mk R2; clear R2)
    | (refine wpl_store rtKeys rfl _ _ rfl w1.heap.size rfl (skC k) rfl ?_ (skC_size k) (skC_one k) w2 hw2.symm ?_; (focus (exact congrArg Array.size r1)); clear hw2 r1)
    | (go_at_call 104; have M := turn_any ((sealK k).extract 0 32) ((sealK k).extract 64 76) t x0 x2 ht w2; with_reducible refine M.mono ?_; clear M; rintro e w4 ⟨rfl, hb4⟩; rw [HTT.out]; have B4 := below_lift B2 s2 hb4; have s4 := B4.size; have R4 := (below_row hb4 (by rw [HR2.out, skC_size]; omega)).trans HR2.out)
    | (refine wpl_load rtKeys rfl _ rfl w1.heap.size rfl (skC k) R4 (skC_size k) ?_)
    | (go_at_call 105; have M := tagOf_any k a (turnF k t) ha zt w4 (HT.out.below B4); with_reducible refine M.mono ?_; clear M; rintro e w6 ⟨rfl, hb6⟩)
    | fail)
  go_ret2
  exact ⟨rfl, below_lift B4 s4 hb6⟩
def orX (a b : ByteArray) : Nat → Int
  | 0 => 0
  | k + 1 => bits .or .u8 (orX a b k) (bits .xor .u8 (sb a k) (sb b k))
theorem xor8_nat (a b : Nat) (ha : a < 256) (hb : b < 256) : bits .xor .u8 (a : Int) (b : Int) = ((a ^^^ b : Nat) : Int) := by
  have ha' : a % 2 ^ IntKind.u8.bits = a := Nat.mod_eq_of_lt ha
  have hb' : b % 2 ^ IntKind.u8.bits = b := Nat.mod_eq_of_lt hb
  simp only [bits, BitVec.ofInt_natCast, BitVec.toNat_xor, BitVec.toNat_ofNat, ha', hb']
  have h : a ^^^ b < 256 := Nat.xor_lt_two_pow (n := 8) ha hb
  exact wraps_u8 _ (Int.natCast_nonneg _) (by omega)
theorem xor8_zero {x y : Int} (hx : 0 ≤ x ∧ x < 256) (hy : 0 ≤ y ∧ y < 256) : (bits .xor .u8 x y = 0 ↔ x = y) ∧ 0 ≤ bits .xor .u8 x y ∧ bits .xor .u8 x y < 256 := by
  obtain ⟨a, rfl⟩ : ∃ a : Nat, x = a := ⟨x.toNat, by omega⟩
  obtain ⟨b, rfl⟩ : ∃ b : Nat, y = b := ⟨y.toNat, by omega⟩
  have h : a ^^^ b < 256 := Nat.xor_lt_two_pow (n := 8) (by omega) (by omega)
  rw [xor8_nat a b (by omega) (by omega)]
  refine ⟨⟨fun e => ?_, fun e => ?_⟩, by omega, by omega⟩
  · have : a ^^^ b = 0 := by omega
    have e : (a ^^^ b) ^^^ b = a := by rw [Nat.xor_assoc, Nat.xor_self, Nat.xor_zero]
    rw [this, Nat.zero_xor] at e
    omega
  · have : a = b := by omega
    subst this; simp
theorem or8_zero' {x y : Int} (hx : 0 ≤ x ∧ x < 256) (hy : 0 ≤ y ∧ y < 256) : bits .or .u8 x y = 0 ↔ x = 0 ∧ y = 0 := by
  obtain ⟨a, rfl⟩ : ∃ a : Nat, x = a := ⟨x.toNat, by omega⟩
  obtain ⟨b, rfl⟩ : ∃ b : Nat, y = b := ⟨y.toNat, by omega⟩
  rw [(bits_nat .u8 8 (by decide) wraps_u8 a b (by omega) (by omega)).2]
  constructor
  · intro h
    have h0 : a ||| b = 0 := by omega
    have := Nat.or_eq_zero_iff.1 h0
    omega
  · rintro ⟨h1, h2⟩
    have e1 : a = 0 := by omega
    have e2 : b = 0 := by omega
    subst e1 e2; rfl
theorem orX_bd (a b : ByteArray) (k : Nat) : 0 ≤ orX a b k ∧ orX a b k < 256 := by
  cases k with
  | zero => simp [orX]
  | succ k => exact ⟨bits_lo_u8 _ _ _, by have := bits_hi_u8 .or (orX a b k) (bits .xor .u8 (sb a k) (sb b k)); rw [orX]; omega⟩
theorem orX_zero (a b : ByteArray) (k : Nat) : orX a b k = 0 ↔ ∀ i, i < k → sb a i = sb b i := by
  induction k with
  | zero => simp [orX]
  | succ k ih =>
    have ha := sb_bd a k
    have hb := sb_bd b k
    obtain ⟨x1, x2, x3⟩ := xor8_zero (x := sb a k) (y := sb b k) (by omega) (by omega)
    rw [orX, or8_zero' (orX_bd a b k) ⟨x2, x3⟩, ih, x1]
    constructor
    · intro h i hi
      by_cases e : i = k
      · subst e; exact h.2
      · exact h.1 i (by omega)
    · intro h; exact ⟨fun i hi => h i (by omega), h k (by omega)⟩
set_option maxHeartbeats 2000000 in
theorem alike_any (a b : ByteArray) (ha : a.size = 32) (hb : b.size = 32) (w : World) :
    Calls Tryz.prog 151 #[.string a, .string b] w fun e w' => e = .returned (.bool (decide (a = b))) ∧ ∃ q, w' = w.drewN q := by
  have c0 : ((a.size : Int) != (b.size : Int)) = false := by simp; omega
  have c00 : (a.size : Int) = (b.size : Int) := by omega
  have HA := Hid.mk ha
  have hab : a.size = b.size := by omega
  have HAB := Hid.mk hab
  have cA : (a.size : Int) ≤ 100 := by omega
  clear ha hb
  go_enter Tryz.func151, Tryz.ntmps151
  go_wp2
  go_loopw [5, 6] (fun x i wr => ∃ (y : Int) (k : Nat), x = .int .u8 y ∧ i = .int .i64 k ∧ k ≤ a.size ∧ Hid (y = orX a b k) ∧ ∃ q, wr = w.drewN q) (fun _ i _ => a.size - (intOf i).toNat)
  case atStart => exact ⟨0, 0, rfl, rfl, by omega, Hid.mk rfl, 0, rfl⟩
  case round =>
    obtain ⟨y, k, rfl, rfl, hk, HY, q, rfl⟩ := hrel
    by_cases hlt : k < a.size
    · have c3 : (k : Int) < a.size := by omega
      have c4 : k < b.size := by omega
      have c5 : (k : Int) < b.size := by omega
      have HV : Hid (sb a k = (a[k].toNat : Int)) := Hid.mk (sb_at a k hlt)
      have HW : Hid (sb b k = (b[k].toNat : Int)) := Hid.mk (sb_at b k c4)
      clear c0 c00 hab
      go_wp2_with fail
      go_region
      go_wp2
      go_roundw
      case rel => exact ⟨_, k + 1, rfl, by go_num, by omega, Hid.mk (by rw [orX, ← HY.out, HV.out, HW.out]), q + 1, rfl⟩
      case measure => simp [intOf]; omega
    · have c3 : ¬ (k : Int) < a.size := by omega
      have hk' : k = a.size := by omega
      have HE : Hid ((y == 0) = decide (a = b)) := Hid.mk (by
        rw [Bool.eq_iff_iff]
        simp only [beq_iff_eq, decide_eq_true_eq]
        rw [HY.out, hk', orX_zero]
        constructor
        · intro h; exact ba_ext HAB.out (fun i hi => h i hi)
        · intro h i _; rw [h])
      clear hk' c0 c00 hab
      go_wp2
      go_ret
      exact ⟨congrArg (fun z => Ending.returned (Value.bool z)) HE.out, q, rfl⟩
set_option maxHeartbeats 2000000 in
theorem open_any (k a t g : ByteArray) (hk : k.size ≤ 64) (ha : a.size ≤ 200) (ht : t.size ≤ 200) (hg : g.size = 32) (w : World) (hT : Tbl w) :
    Calls Tryz.prog 122 #[.string k, .string a, .string t, .string g] w fun e w' => ((tagF k a t = g ∧ e = .returned (.tuple #[.string (turnF k t), .bool true])) ∨ (tagF k a t ≠ g ∧ e = .returned (.tuple #[.string ⟨#[]⟩, .bool false]))) ∧ Below w.heap.size w w' := by
  have hz := sealK_size k
  have HTT : Hid (streamF ((sealK k).extract 0 32) ((sealK k).extract 64 76) t = turnF k t) := Hid.mk rfl
  have x0 : ((sealK k).extract 0 32).size = 32 := ext_size (by omega)
  have x2 : ((sealK k).extract 64 76).size = 12 := ext_size (by omega)
  have zg := tagF_size k a t
  have HT := Hid.mk hT
  clear hT
  by_cases hq : tagF k a t = g
  · have HQ := Hid.mk hq
    have HD : Hid (decide (g = tagF k a t) = true) := Hid.mk (by simp [hq])
    clear hq
    go_enter Tryz.func122, Tryz.ntmps122
    go_wp2_with (first
      | (go_at_call 103; have M := sealKeysOf_any k hk w HT.out; with_reducible refine M.mono ?_; clear M; rintro e w1 ⟨rfl, B1⟩; obtain ⟨r1, w2, hw2, R2, B2, z2⟩ := new_stored B1 sk0 (skC k) 142 sk0_pos; have s2 := B2.size; have HR2 := Hid.mk R2)
      | (refine wpl_store rtKeys rfl _ _ rfl w1.heap.size rfl (skC k) rfl ?_ (skC_size k) (skC_one k) w2 hw2.symm ?_; (focus (exact congrArg Array.size r1)); clear hw2 r1)
      | (refine wpl_load rtKeys rfl _ rfl w1.heap.size rfl (skC k) R2 (skC_size k) ?_)
      | (go_at_call 105; have M := tagOf_any k a t ha ht w2 (HT.out.below B2); with_reducible refine M.mono ?_; clear M; rintro e w4 ⟨rfl, hb4⟩; have B4 := below_lift B2 s2 hb4; have s4 := B4.size; have R4 := (below_row hb4 (by rw [HR2.out, skC_size]; omega)).trans HR2.out; clear R2)
      | (go_at_call 151; have M := alike_any g (tagF k a t) hg zg w4; with_reducible refine M.mono ?_; clear M; rintro e w5 ⟨rfl, q, rfl⟩; rw [HD.out]; have B5 := below_drewN B4 q; have R5 := row_drewN (n := q) R4; generalize w4.drewN q = w5 at B5 R5 ⊢; have s5 := B5.size; have f0 := sk_c0 R5; have f2 := sk_c2 R5; clear R5 R4)
      | (go_at_call 104; have M := turn_any ((sealK k).extract 0 32) ((sealK k).extract 64 76) t x0 x2 ht w5; with_reducible refine M.mono ?_; clear M; rintro e w6 ⟨rfl, hb6⟩; rw [HTT.out])
      | fail)
    go_ret2
    exact ⟨Or.inl ⟨HQ.out, rfl⟩, below_lift B5 s5 hb6⟩
  · have HQ := Hid.mk hq
    have HD : Hid (decide (g = tagF k a t) = false) := Hid.mk (by simp; exact fun e => hq e.symm)
    clear hq
    go_enter Tryz.func122, Tryz.ntmps122
    go_wp2_with (first
      | (go_at_call 103; have M := sealKeysOf_any k hk w HT.out; with_reducible refine M.mono ?_; clear M; rintro e w1 ⟨rfl, B1⟩; obtain ⟨r1, w2, hw2, R2, B2, z2⟩ := new_stored B1 sk0 (skC k) 142 sk0_pos; have s2 := B2.size; have HR2 := Hid.mk R2)
      | (refine wpl_store rtKeys rfl _ _ rfl w1.heap.size rfl (skC k) rfl ?_ (skC_size k) (skC_one k) w2 hw2.symm ?_; (focus (exact congrArg Array.size r1)); clear hw2 r1)
      | (refine wpl_load rtKeys rfl _ rfl w1.heap.size rfl (skC k) R2 (skC_size k) ?_)
      | (go_at_call 105; have M := tagOf_any k a t ha ht w2 (HT.out.below B2); with_reducible refine M.mono ?_; clear M; rintro e w4 ⟨rfl, hb4⟩; have B4 := below_lift B2 s2 hb4; have s4 := B4.size; clear R2)
      | (go_at_call 151; have M := alike_any g (tagF k a t) hg zg w4; with_reducible refine M.mono ?_; clear M; rintro e w5 ⟨rfl, q, rfl⟩; rw [HD.out]; have B5 := below_drewN B4 q; generalize w4.drewN q = w5 at B5 ⊢)
      | fail)
    go_ret2
    exact ⟨Or.inr ⟨HQ.out, rfl⟩, B5⟩
end Go.Proofs.YteghoooelgcpkaaGreatDoor
namespace Go
open Go.RowKit
def OffS (g : Nat) (v : Value) : Prop := v.ownBlock ≠ some g
def Off (g : Nat) (v : Value) : Prop := ∀ a m c, v = .slice (some a) m c → 0 < m → a.block ≠ g
theorem OffS.off {g : Nat} {v : Value} (h : OffS g v) : Off g v := fun a m c e _ he => h (by rw [e, ← he]; rfl)
end Go
namespace Go.Msg
open Go.RowKit Go.Proofs.YteghoooelgcpkaaGreatDoor
structure Kp where
  pt : ByteArray
  n : Nat
  key : ByteArray
structure Sd where
  root : ByteArray
  self : ByteArray
  theirs : ByteArray
  send : ByteArray
  read : ByteArray
  ns : Nat
  nr : Nat
  pn : Nat
  saved : List Kp
  past : List ByteArray
  draws : List ByteArray
def Opt (t : ByteArray) : Prop := t.size = 0 ∨ t.size = 32
structure Kp.Wf (k : Kp) : Prop where
  pt : k.pt.size = 32
  n : k.n < 300
  key : k.key.size = 32
structure Sd.Wf (x : Sd) : Prop where
  root : x.root.size = 32
  self : x.self.size = 32
  theirs : Opt x.theirs
  send : Opt x.send
  read : Opt x.read
  ns : x.ns ≤ 300
  nr : x.nr ≤ 300
  pn : x.pn ≤ 300
  saved : x.saved.length ≤ 32
  savedW : ∀ k ∈ x.saved, k.Wf
  past : x.past.length ≤ 24
  pastW : ∀ t ∈ x.past, t.size = 32
  draws : x.draws.length ≤ 8
  drawsW : ∀ t ∈ x.draws, t.size = 32
  both : x.read.size ≠ 0 → x.theirs.size ≠ 0
def optB (t : ByteArray) : ByteArray := if t.size = 0 then b1 0 else b1 1 ++ t
def kpB (k : Kp) : ByteArray := k.pt ++ be 2 (k.n : Int) ++ k.key
def kpsB : List Kp → ByteArray
  | [] => ⟨#[]⟩
  | k :: l => kpB k ++ kpsB l
def strsB : List ByteArray → ByteArray
  | [] => ⟨#[]⟩
  | t :: l => t ++ strsB l
def sRS : ByteArray := ⟨#[82, 83]⟩
def sRM : ByteArray := ⟨#[82, 77]⟩
def keptB (x : Sd) : ByteArray :=
  sRS ++ x.root ++ x.self ++ optB x.theirs ++ optB x.send ++ optB x.read ++ be 2 (x.ns : Int) ++ be 2 (x.nr : Int) ++ be 2 (x.pn : Int) ++ b1 (x.saved.length : Int) ++ kpsB x.saved ++ b1 (x.past.length : Int) ++ strsB x.past ++ b1 (x.draws.length : Int) ++ strsB x.draws
theorem nil_ba (a : ByteArray) : (⟨#[]⟩ : ByteArray) ++ a = a := by apply ByteArray.ext; simp
theorem kpsB_snoc (l : List Kp) (k : Kp) : kpsB (l ++ [k]) = kpsB l ++ kpB k := by
  induction l with
  | nil => show kpB k ++ ⟨#[]⟩ = ⟨#[]⟩ ++ kpB k; rw [ba_empty, nil_ba]
  | cons a l ih => show kpB a ++ kpsB (l ++ [k]) = kpB a ++ kpsB l ++ kpB k; rw [ih, ByteArray.append_assoc]
theorem strsB_snoc (l : List ByteArray) (t : ByteArray) : strsB (l ++ [t]) = strsB l ++ t := by
  induction l with
  | nil => show t ++ ⟨#[]⟩ = ⟨#[]⟩ ++ t; rw [ba_empty, nil_ba]
  | cons a l ih => show a ++ strsB (l ++ [t]) = a ++ strsB l ++ t; rw [ih, ByteArray.append_assoc]
theorem kpsB_size (l : List Kp) (h : ∀ k ∈ l, k.Wf) : (kpsB l).size = 66 * l.length := by
  induction l with
  | nil => rfl
  | cons a l ih =>
    have h1 := h a (by simp)
    show (kpB a ++ kpsB l).size = _
    rw [ByteArray.size_append, ih (fun k hk => h k (by simp [hk]))]
    simp only [kpB, ByteArray.size_append, be_size, h1.pt, h1.key, List.length_cons]; omega
theorem strsB_size (l : List ByteArray) (h : ∀ t ∈ l, t.size = 32) : (strsB l).size = 32 * l.length := by
  induction l with
  | nil => rfl
  | cons a l ih =>
    show (a ++ strsB l).size = _
    rw [ByteArray.size_append, ih (fun k hk => h k (by simp [hk])), h a (by simp), List.length_cons]; omega
theorem take_snoc {α : Type} (l : List α) (k : Nat) (a : α) (h : l[k]? = some a) : l.take (k + 1) = l.take k ++ [a] := by
  rw [List.take_add_one, h]; rfl
end Go.Msg
namespace Go.Proofs.YteghoooelgcpkaaGreatDoor
open Go.RowKit Go.Msg
def StrsAt (w : World) (v : Value) (l : List ByteArray) : Prop := ∃ ao cap g o, v = .slice ao l.length cap ∧ l.length ≤ cap ∧ (0 < l.length → ao = some ⟨g, o, none⟩) ∧ ∀ i t, l[i]? = some t → w.cell? ⟨g, o + i, none⟩ = some (.string t)
theorem StrsAt.nil (w : World) : StrsAt w (.slice none 0 0) [] := ⟨none, 0, 0, 0, rfl, by simp, fun h => absurd h (by simp), fun i t h => by simp at h⟩
theorem StrsAt.below {w w' : World} {v : Value} {l : List ByteArray} (h : StrsAt w v l) (hb : Below w.heap.size w w') : StrsAt w' v l := by
  obtain ⟨ao, cap, g, o, h1, h2, h3, h4⟩ := h
  exact ⟨ao, cap, g, o, h1, h2, h3, fun i t hi => by rw [hb.cell (World.block_lt_of_cell? w _ (h4 i t hi))]; exact h4 i t hi⟩
theorem StrsAt.one {w : World} {v : Value} {l : List ByteArray} (h : StrsAt w v l) : v.oneCell' = true := by obtain ⟨ao, cap, g, o, rfl, _⟩ := h; rfl
def KpsAt (w : World) (v : Value) (l : List Kp) : Prop := ∃ ao cap g o, v = .slice ao l.length cap ∧ l.length ≤ cap ∧ (0 < l.length → ao = some ⟨g, o, none⟩) ∧ ∀ i k, l[i]? = some k → w.cell? ⟨g, o + i * 3, none⟩ = some (.string k.pt) ∧ w.cell? ⟨g, o + i * 3 + 1, none⟩ = some (.int .i64 (k.n : Int)) ∧ w.cell? ⟨g, o + i * 3 + 2, none⟩ = some (.string k.key)
theorem KpsAt.nil (w : World) : KpsAt w (.slice none 0 0) [] := ⟨none, 0, 0, 0, rfl, by simp, fun h => absurd h (by simp), fun i t h => by simp at h⟩
theorem KpsAt.below {w w' : World} {v : Value} {l : List Kp} (h : KpsAt w v l) (hb : Below w.heap.size w w') : KpsAt w' v l := by
  obtain ⟨ao, cap, g, o, h1, h2, h3, h4⟩ := h
  refine ⟨ao, cap, g, o, h1, h2, h3, fun i k hi => ?_⟩
  obtain ⟨a, b, c⟩ := h4 i k hi
  exact ⟨by rw [hb.cell (World.block_lt_of_cell? w _ a)]; exact a, by rw [hb.cell (World.block_lt_of_cell? w _ b)]; exact b, by rw [hb.cell (World.block_lt_of_cell? w _ c)]; exact c⟩
theorem KpsAt.one {w : World} {v : Value} {l : List Kp} (h : KpsAt w v l) : v.oneCell' = true := by obtain ⟨ao, cap, g, o, rfl, _⟩ := h; rfl
def sideC (x : Sd) (vS vP vD : Value) : Array Value := #[.string x.root, .string x.self, .string (pubF x.self), .string x.theirs, .string x.send, .string x.read, .int .i64 (x.ns : Int), .int .i64 (x.nr : Int), .int .i64 (x.pn : Int), vS, vP, vD]
structure SideAt (w : World) (c : Array Value) (x : Sd) (vS vP vD : Value) : Prop where
  eq : c = sideC x vS vP vD
  vs : KpsAt w vS x.saved
  vp : StrsAt w vP x.past
  vd : StrsAt w vD x.draws
theorem SideAt.below {w w' : World} {c : Array Value} {x : Sd} {vS vP vD : Value} (h : SideAt w c x vS vP vD) (hb : Below w.heap.size w w') : SideAt w' c x vS vP vD := ⟨h.eq, h.vs.below hb, h.vp.below hb, h.vd.below hb⟩
end Go.Proofs.YteghoooelgcpkaaGreatDoor
namespace Go.Msg
open Go.RowKit Go.Proofs.YteghoooelgcpkaaGreatDoor
def optP (x : Sd) : Nat → ByteArray
  | 0 => sRS ++ x.root ++ x.self
  | 1 => sRS ++ x.root ++ x.self ++ optB x.theirs
  | 2 => sRS ++ x.root ++ x.self ++ optB x.theirs ++ optB x.send
  | _ => sRS ++ x.root ++ x.self ++ optB x.theirs ++ optB x.send ++ optB x.read
theorem optB_size {t : ByteArray} (h : Opt t) : (optB t).size ≤ 33 := by
  unfold optB; split
  · exact Nat.le_trans (Nat.le_of_eq (b1_size _)) (by decide)
  · rw [ByteArray.size_append, b1_size]; rcases h with h | h <;> omega
theorem optP_size {x : Sd} (h : x.Wf) (k : Nat) : (optP x k).size ≤ 200 := by
  have h1 := h.root; have h2 := h.self; have h3 := optB_size h.theirs; have h4 := optB_size h.send; have h5 := optB_size h.read
  have h0 : sRS.size = 2 := rfl
  unfold optP; split <;> simp only [ByteArray.size_append] <;> omega
structure Kp.Sz (k : Kp) : Prop where
  pt : k.pt.size ≤ 32
  n : k.n < 300
  key : k.key.size ≤ 32
structure Sd.Sz (x : Sd) : Prop where
  root : x.root.size ≤ 32
  self : x.self.size ≤ 32
  theirs : x.theirs.size ≤ 32
  send : x.send.size ≤ 32
  read : x.read.size ≤ 32
  ns : x.ns ≤ 300
  nr : x.nr ≤ 300
  pn : x.pn ≤ 300
  saved : x.saved.length ≤ 32
  savedW : ∀ k ∈ x.saved, k.Sz
  past : x.past.length ≤ 24
  pastW : ∀ t ∈ x.past, t.size ≤ 32
  draws : x.draws.length ≤ 8
  drawsW : ∀ t ∈ x.draws, t.size ≤ 32
theorem Opt.le {t : ByteArray} (h : Opt t) : t.size ≤ 32 := by rcases h with h | h <;> omega
theorem Kp.Wf.sz {k : Kp} (h : k.Wf) : k.Sz := ⟨Nat.le_of_eq h.pt, h.n, Nat.le_of_eq h.key⟩
theorem Sd.Wf.sz {x : Sd} (h : x.Wf) : x.Sz := ⟨Nat.le_of_eq h.root, Nat.le_of_eq h.self, h.theirs.le, h.send.le, h.read.le, h.ns, h.nr, h.pn, h.saved, fun k hk => (h.savedW k hk).sz, h.past, fun t ht => Nat.le_of_eq (h.pastW t ht), h.draws, fun t ht => Nat.le_of_eq (h.drawsW t ht)⟩
theorem optB_le {t : ByteArray} (h : t.size ≤ 32) : (optB t).size ≤ 33 := by
  unfold optB; split
  · exact Nat.le_trans (Nat.le_of_eq (b1_size _)) (by decide)
  · rw [ByteArray.size_append, b1_size]; omega
theorem optP_le {x : Sd} (h : x.Sz) (k : Nat) : (optP x k).size ≤ 200 := by
  have h1 := h.root; have h2 := h.self; have h3 := optB_le h.theirs; have h4 := optB_le h.send; have h5 := optB_le h.read
  have h0 : sRS.size = 2 := rfl
  unfold optP; split <;> simp only [ByteArray.size_append] <;> omega
theorem optB_no {t : ByteArray} (h : t = ⟨#[]⟩) : optB t = ⟨#[0]⟩ := by subst h; rfl
theorem optB_yes {t : ByteArray} (h : ¬ t = ⟨#[]⟩) : optB t = (⟨#[1]⟩ : ByteArray) ++ t := by
  unfold optB; rw [if_neg (fun e => h (size_zero.1 e))]; rfl
theorem toList_nil {t : ByteArray} : t.toList = [] ↔ t = ⟨#[]⟩ := by
  rw [← toList_inj, show (⟨#[]⟩ : ByteArray).toList = [] from by rw [ByteArray.toList_eq]]
end Go.Msg
namespace Go.Proofs.YteghoooelgcpkaaGreatDoor
open Go.RowKit Go.Msg
theorem rowcell {W : World} {g : Nat} {c : Array Value} (h : W.rowOf g = c) (j : Nat) (v : Value) (hj : c[j]? = some v) : W.cell? ⟨g, j, none⟩ = some v := by
  have hlt : j < c.size := (Array.getElem?_eq_some_iff.1 hj).1
  rw [(cell_of_rowOf h j hlt).1, hj]
def sideM (m : ByteArray) (x : Sd) (vS vP vD : Value) : Array Value := #[.string x.root, .string x.self, .string m, .string x.theirs, .string x.send, .string x.read, .int .i64 (x.ns : Int), .int .i64 (x.nr : Int), .int .i64 (x.pn : Int), vS, vP, vD]
set_option maxRecDepth 20000 in
set_option maxHeartbeats 8000000 in
theorem kept_g (x : Sd) (hx : x.Sz) (m : ByteArray) (vS vP vD : Value) (w : World) (hS : KpsAt w vS x.saved) (hP : StrsAt w vP x.past) (hD : StrsAt w vD x.draws) :
    Calls Tryz.prog 33 #[.agg (sideM m x vS vP vD)] w fun e w' => e = .returned (.string (keptB x)) ∧ Below w.heap.size w w' := by
  have qA := cvA
  have z0 := hx.root
  have z1 := hx.self
  have HP0 : Hid (∀ k, (optP x k).size ≤ 200) := Hid.mk (optP_le hx)
  have HX : Hid _ := hx
  clear hx
  rw [sideM]
  go_enter Tryz.func33, Tryz.ntmps33
  go_wp2
  rw [show ByteArray.mk #[82, 83] ++ x.root ++ x.self = optP x 0 from rfl]
  go_loop [3, 5] (fun v i => ∃ (k : Nat), v = .string (optP x k) ∧ i = .int .i64 k ∧ k ≤ 3) (fun _ i => 3 - (intOf i).toNat)
  case atStart => exact ⟨0, rfl, rfl, by omega⟩
  case round =>
    obtain ⟨k, rfl, rfl, hk⟩ := hrel
    have hb2 := HP0.out k
    by_cases hlt : k < 3
    · have c5 : (k : Int) < 3 := by omega
      obtain rfl | rfl | rfl : k = 0 ∨ k = 1 ∨ k = 2 := by omega
      · have zt : x.theirs.size ≤ 32 := HX.out.theirs
        by_cases he : x.theirs.toList = []
        · have HE : Hid (optB x.theirs = ⟨#[0]⟩) := Hid.mk (optB_no (toList_nil.1 he))
          have hb : x.theirs.toList.isEmpty = true := by rw [he]; rfl
          go_wp2
          go_round
          case rel => exact ⟨1, by rw [← HE.out]; rfl, rfl, by omega⟩
          case measure => decide
        · have HE : Hid (optB x.theirs = (⟨#[1]⟩ : ByteArray) ++ x.theirs) := Hid.mk (optB_yes (fun e => he (toList_nil.2 e)))
          have hb : x.theirs.toList.isEmpty = false := by cases h : x.theirs.toList <;> simp_all
          go_wp2
          go_round
          case rel => exact ⟨1, by rw [ByteArray.append_assoc, ← HE.out]; rfl, rfl, by omega⟩
          case measure => decide
      · have zt : x.send.size ≤ 32 := HX.out.send
        by_cases he : x.send.toList = []
        · have HE : Hid (optB x.send = ⟨#[0]⟩) := Hid.mk (optB_no (toList_nil.1 he))
          have hb : x.send.toList.isEmpty = true := by rw [he]; rfl
          go_wp2
          go_round
          case rel => exact ⟨2, by rw [← HE.out]; rfl, rfl, by omega⟩
          case measure => decide
        · have HE : Hid (optB x.send = (⟨#[1]⟩ : ByteArray) ++ x.send) := Hid.mk (optB_yes (fun e => he (toList_nil.2 e)))
          have hb : x.send.toList.isEmpty = false := by cases h : x.send.toList <;> simp_all
          go_wp2
          go_round
          case rel => exact ⟨2, by rw [ByteArray.append_assoc, ← HE.out]; rfl, rfl, by omega⟩
          case measure => decide
      · have zt : x.read.size ≤ 32 := HX.out.read
        by_cases he : x.read.toList = []
        · have HE : Hid (optB x.read = ⟨#[0]⟩) := Hid.mk (optB_no (toList_nil.1 he))
          have hb : x.read.toList.isEmpty = true := by rw [he]; rfl
          go_wp2
          go_round
          case rel => exact ⟨3, by rw [← HE.out]; rfl, rfl, by omega⟩
          case measure => decide
        · have HE : Hid (optB x.read = (⟨#[1]⟩ : ByteArray) ++ x.read) := Hid.mk (optB_yes (fun e => he (toList_nil.2 e)))
          have hb : x.read.toList.isEmpty = false := by cases h : x.read.toList <;> simp_all
          go_wp2
          go_round
          case rel => exact ⟨3, by rw [ByteArray.append_assoc, ← HE.out]; rfl, rfl, by omega⟩
          case measure => decide
    · have hk' : k = 3 := by omega
      subst hk'
      rw [show ((3 : Nat) : Int) = 3 from rfl]
      obtain ⟨c, hc⟩ : ∃ c, c = #[Value.string x.root, .string x.self, .string m, .string x.theirs, .string x.send, .string x.read, .int .i64 (x.ns : Int), .int .i64 (x.nr : Int), .int .i64 (x.pn : Int), vS, vP, vD] := ⟨_, rfl⟩
      obtain ⟨W0, hW0⟩ : ∃ W, W = (w.alloc (.cells c 55)).alloc (.cells #[.string x.theirs, .string x.send, .string x.read] 9) := ⟨_, rfl⟩
      rw [← hc, ← hW0]
      have R0 : W0.rowOf w.heap.size = c := by rw [hW0]; simp [go_sem]
      have B0 : Below w.heap.size w W0 := by rw [hW0]; exact by_alloc2 _ _ _
      have y0 := B0.size
      have g6 : c[6]? = some (.int .i64 (x.ns : Int)) := by rw [hc]; rfl
      have g7 : c[7]? = some (.int .i64 (x.nr : Int)) := by rw [hc]; rfl
      have g8 : c[8]? = some (.int .i64 (x.pn : Int)) := by rw [hc]; rfl
      have g9 : c[9]? = some vS := by rw [hc]; rfl
      have g10 : c[10]? = some vP := by rw [hc]; rfl
      have g11 : c[11]? = some vD := by rw [hc]; rfl
      have cs : 0 < c.size := by rw [hc]; show 0 < 12; omega
      have f6 := rowcell R0 6 _ g6
      have G7 : Hid _ := g7
      have G8 : Hid _ := g8
      have G9 : Hid _ := g9
      have G10 : Hid _ := g10
      have G11 : Hid _ := g11
      have CS : Hid _ := cs
      clear hW0 hc g6 g7 g8 g9 g10 g11 cs
      have lS := HX.out.saved
      have lP := HX.out.past
      have lD := HX.out.draws
      obtain ⟨aoS, capS, gS, oS, rfl, hcS, haS, hxS⟩ := hS
      obtain ⟨aoP, capP, gP, oP, rfl, hcP, haP, hxP⟩ := hP
      obtain ⟨aoD, capD, gD, oD, rfl, hcD, haD, hxD⟩ := hD
      have XS : Hid _ := hxS
      have XP : Hid _ := hxP
      have XD : Hid _ := hxD
      clear hxS hxP hxD
      have b300 : 0 ≤ (x.ns : Int) ∧ (x.ns : Int) < 65536 := by have := HX.out.ns; omega
      have b301 : 0 ≤ (x.nr : Int) ∧ (x.nr : Int) < 65536 := by have := HX.out.nr; omega
      have b302 : 0 ≤ (x.pn : Int) ∧ (x.pn : Int) < 65536 := by have := HX.out.pn; omega
      have x1 : (be 2 (x.ns : Int)).size = 2 := be_size _ _
      have x2 : (be 2 (x.nr : Int)).size = 2 := be_size _ _
      have x3 : (be 2 (x.pn : Int)).size = 2 := be_size _ _
      obtain ⟨nS, hnS⟩ : ∃ n, n = x.saved.length := ⟨_, rfl⟩
      obtain ⟨nP, hnP⟩ : ∃ n, n = x.past.length := ⟨_, rfl⟩
      obtain ⟨nD, hnD⟩ : ∃ n, n = x.draws.length := ⟨_, rfl⟩
      have HNS : Hid _ := hnS
      have HNP : Hid _ := hnP
      have HND : Hid _ := hnD
      rw [← hnS] at lS hcS haS
      rw [← hnP] at lP hcP haP
      rw [← hnD] at lD hcD haD
      rw [← hnS] at G9
      rw [← hnP] at G10
      rw [← hnD] at G11
      clear hnS hnP hnD
      go_wp2_with (first
        | (go_at_call 67; have M := pair_any (x.ns : Int) b300 W0; with_reducible refine M.mono ?_; clear M; rintro e w1 ⟨rfl, b1⟩; have R1 : w1.rowOf w.heap.size = c := (by rw [below_row b1 (by rw [R0]; exact CS.out), R0]); have f7 := rowcell R1 7 _ G7.out; have B1 := below_lift B0 y0 b1; have y1 := B1.size; clear b1)
        | (go_at_call 67; have M := pair_any (x.nr : Int) b301 w1; with_reducible refine M.mono ?_; clear M; rintro e w2 ⟨rfl, b2⟩; have R2 : w2.rowOf w.heap.size = c := (by rw [below_row b2 (by rw [R1]; exact CS.out), R1]); have f8 := rowcell R2 8 _ G8.out; have B2 := below_lift B1 y1 b2; have y2 := B2.size; clear b2)
        | (go_at_call 67; have M := pair_any (x.pn : Int) b302 w2; with_reducible refine M.mono ?_; clear M; rintro e w3 ⟨rfl, b3⟩; have R3 : w3.rowOf w.heap.size = c := (by rw [below_row b3 (by rw [R2]; exact CS.out), R2]); have f9 := rowcell R3 9 _ G9.out; have B3 := below_lift B2 y2 b3; have y3 := B3.size; clear b3))
      have hlS : (nS : Int) ≤ 32 := by omega
      have hz4 : (optP x 3 ++ be 2 (x.ns : Int) ++ be 2 (x.nr : Int) ++ be 2 (x.pn : Int) ++ Proofs.YteghoooelgcpkaaGreatDoor.b1 (nS : Int)).size ≤ 300 := by simp only [ByteArray.size_append, b1_size, x1, x2, x3]; omega
      have B4 := B3.alloc y3 (.cells #[.int .u8 (nS : Int)] 5)
      have R4 : (w3.alloc (.cells #[.int .u8 (nS : Int)] 5)).rowOf w.heap.size = c := by rw [below_row (by_alloc w3 _) (by rw [R3]; exact CS.out), R3]
      have HK : Hid (keptB x = optP x 3 ++ be 2 (x.ns : Int) ++ be 2 (x.nr : Int) ++ be 2 (x.pn : Int) ++ Proofs.YteghoooelgcpkaaGreatDoor.b1 (nS : Int) ++ kpsB x.saved ++ Proofs.YteghoooelgcpkaaGreatDoor.b1 (nP : Int) ++ strsB x.past ++ Proofs.YteghoooelgcpkaaGreatDoor.b1 (nD : Int) ++ strsB x.draws) := Hid.mk (by rw [HNS.out, HNP.out, HND.out]; rfl)
      generalize optP x 3 ++ be 2 (x.ns : Int) ++ be 2 (x.nr : Int) ++ be 2 (x.pn : Int) ++ Proofs.YteghoooelgcpkaaGreatDoor.b1 (nS : Int) = s4 at *
      generalize w3.alloc (.cells #[.int .u8 (nS : Int)] 5) = W4 at *
      clear R0 R1 R2 R3 B0 B1 B2 B3 f6 f7 f8 f9 y0 y1 y2 y3 x1 x2 x3 hb2 b300 b301 b302
      go_loopw [3, 9] (fun v i wq => ∃ (t : ByteArray) (k : Nat), v = .string t ∧ i = .int .i64 k ∧ k ≤ nS ∧ t.size ≤ 300 + 66 * k ∧ Hid (t = s4 ++ kpsB (x.saved.take k)) ∧ wq.rowOf w.heap.size = c ∧ Below w.heap.size w wq) (fun _ i _ => nS - (intOf i).toNat)
      case atStart => exact ⟨s4, 0, rfl, rfl, by omega, by omega, Hid.mk (by show s4 = s4 ++ ⟨#[]⟩; rw [ba_empty]), R4, B4⟩
      case round =>
        clear R4 B4
        obtain ⟨t, k, rfl, rfl, hk, ht, HTT, Rq, Bq⟩ := hrel
        have yq := Bq.size
        have f9 := rowcell Rq 9 _ G9.out
        by_cases hlt : k < nS
        · have c5 : (k : Int) < nS := by omega
          have c6 : t.size ≤ 3000 := by omega
          have hao := haS (by omega)
          subst hao
          obtain ⟨kp, hkp⟩ : ∃ kp, x.saved[k]? = some kp := ⟨x.saved[k]'(by rw [← HNS.out]; exact hlt), List.getElem?_eq_getElem _⟩
          have hkw := HX.out.savedW kp (List.mem_of_getElem? hkp)
          obtain ⟨hp, hxi, hky⟩ := XS.out k kp hkp
          have e1 : wr.cell? ⟨gS, oS + k * 3 + 1, none⟩ = some (.int .i64 (kp.n : Int)) := by rw [Bq.cell (World.block_lt_of_cell? w _ hxi)]; exact hxi
          have zp := hkw.pt
          have zk := hkw.key
          have zn : 0 ≤ (kp.n : Int) ∧ (kp.n : Int) < 65536 := by have := hkw.n; omega
          have x5 : (be 2 (kp.n : Int)).size = 2 := be_size _ _
          have HST : Hid (kpsB (x.saved.take (k + 1)) = kpsB (x.saved.take k) ++ kpB kp) := Hid.mk (by rw [take_snoc _ _ _ hkp, kpsB_snoc])
          clear hkw hkp
          go_wp2_with (first
            | (go_at_call 67; have M := pair_any (kp.n : Int) zn wr; with_reducible refine M.mono ?_; clear M; rintro e w5 ⟨rfl, b5⟩; have R5 : w5.rowOf w.heap.size = c := (by rw [below_row b5 (by rw [Rq]; exact CS.out), Rq]); have f9' := rowcell R5 9 _ G9.out; have B5 := below_lift Bq yq b5; have e0 : w5.cell? ⟨gS, oS + k * 3, none⟩ = some (.string kp.pt) := (by rw [B5.cell (World.block_lt_of_cell? w _ hp)]; exact hp); have e2 : w5.cell? ⟨gS, oS + k * 3 + 2, none⟩ = some (.string kp.key) := (by rw [B5.cell (World.block_lt_of_cell? w _ hky)]; exact hky))
            | fail)
          go_quiet (fail)
          go_wp2
          go_roundw
          case rel => exact ⟨_, k + 1, rfl, by go_num, by omega, by simp only [ByteArray.size_append, x5]; omega, Hid.mk (by rw [HST.out, HTT.out]; simp only [kpB, ByteArray.append_assoc]), R5, below_drewN B5 _⟩
          case measure => simp [intOf]; omega
        · have hk' : k = nS := by omega
          have c5 : ¬ (k : Int) < nS := by omega
          have c6 : t.size ≤ 3000 := by omega
          have f10 := rowcell Rq 10 _ G10.out
          have hlP : (nP : Int) ≤ 24 := by omega
          have HK2 : Hid (keptB x = t ++ Proofs.YteghoooelgcpkaaGreatDoor.b1 (nP : Int) ++ strsB x.past ++ Proofs.YteghoooelgcpkaaGreatDoor.b1 (nD : Int) ++ strsB x.draws) := Hid.mk (by rw [HK.out, HTT.out, hk', HNS.out, List.take_length])
          clear ht
          go_wp2
          have hz5 : (t ++ Proofs.YteghoooelgcpkaaGreatDoor.b1 (nP : Int)).size ≤ 4000 := by simp only [ByteArray.size_append, b1_size]; omega
          have B5 := Bq.alloc yq (.cells #[.int .u8 (nP : Int)] 5)
          have R5 : (wr.alloc (.cells #[.int .u8 (nP : Int)] 5)).rowOf w.heap.size = c := by rw [below_row (by_alloc wr _) (by rw [Rq]; exact CS.out), Rq]
          generalize t ++ Proofs.YteghoooelgcpkaaGreatDoor.b1 (nP : Int) = s5 at *
          generalize wr.alloc (.cells #[.int .u8 (nP : Int)] 5) = W5 at *
          clear Rq Bq f9 f10 yq c6 HK HTT
          go_loopw [3, 11] (fun v i wq => ∃ (t : ByteArray) (k : Nat), v = .string t ∧ i = .int .i64 k ∧ k ≤ nP ∧ t.size ≤ 4000 + 32 * k ∧ Hid (t = s5 ++ strsB (x.past.take k)) ∧ wq.rowOf w.heap.size = c ∧ Below w.heap.size w wq) (fun _ i _ => nP - (intOf i).toNat)
          case atStart => exact ⟨s5, 0, rfl, rfl, by omega, by omega, Hid.mk (by show s5 = s5 ++ ⟨#[]⟩; rw [ba_empty]), R5, B5⟩
          case round =>
            clear R5 B5
            obtain ⟨t, j, rfl, rfl, hj, ht, HTT, Rq, Bq⟩ := hrel
            have yq := Bq.size
            have f10 := rowcell Rq 10 _ G10.out
            by_cases hlt2 : j < nP
            · have c7 : (j : Int) < nP := by omega
              have c8 : t.size ≤ 6000 := by omega
              have hao := haP (by omega)
              subst hao
              obtain ⟨p, hp⟩ : ∃ p, x.past[j]? = some p := ⟨x.past[j]'(by rw [← HNP.out]; exact hlt2), List.getElem?_eq_getElem _⟩
              have zp := HX.out.pastW p (List.mem_of_getElem? hp)
              have hpc := XP.out j p hp
              have e1 : wr.cell? ⟨gP, oP + j, none⟩ = some (.string p) := by rw [Bq.cell (World.block_lt_of_cell? w _ hpc)]; exact hpc
              have HST : Hid (strsB (x.past.take (j + 1)) = strsB (x.past.take j) ++ p) := Hid.mk (by rw [take_snoc _ _ _ hp, strsB_snoc])
              clear hp hpc
              go_wp2
              go_roundw
              case rel => exact ⟨_, j + 1, rfl, by go_num, by omega, by simp only [ByteArray.size_append]; omega, Hid.mk (by rw [HST.out, HTT.out, ByteArray.append_assoc]), Rq, Bq⟩
              case measure => simp [intOf]; omega
            · have c7 : ¬ (j : Int) < nP := by omega
              have c8 : t.size ≤ 6000 := by omega
              have f11 := rowcell Rq 11 _ G11.out
              have hlD : (nD : Int) ≤ 8 := by omega
              have HK3 : Hid (keptB x = t ++ Proofs.YteghoooelgcpkaaGreatDoor.b1 (nD : Int) ++ strsB x.draws) := Hid.mk (by rw [HK2.out, HTT.out, show j = x.past.length by rw [← HNP.out]; omega, List.take_length])
              clear ht
              go_wp2
              have hz6 : (t ++ Proofs.YteghoooelgcpkaaGreatDoor.b1 (nD : Int)).size ≤ 7000 := by simp only [ByteArray.size_append, b1_size]; omega
              have B6 := Bq.alloc yq (.cells #[.int .u8 (nD : Int)] 5)
              have R6 : (wr.alloc (.cells #[.int .u8 (nD : Int)] 5)).rowOf w.heap.size = c := by rw [below_row (by_alloc wr _) (by rw [Rq]; exact CS.out), Rq]
              generalize t ++ Proofs.YteghoooelgcpkaaGreatDoor.b1 (nD : Int) = s6 at *
              generalize wr.alloc (.cells #[.int .u8 (nD : Int)] 5) = W6 at *
              clear Rq Bq f10 f11 yq c8 HK2 HTT
              go_loopw [3, 12] (fun v i wq => ∃ (t : ByteArray) (k : Nat), v = .string t ∧ i = .int .i64 k ∧ k ≤ nD ∧ t.size ≤ 7000 + 32 * k ∧ Hid (t = s6 ++ strsB (x.draws.take k)) ∧ wq.rowOf w.heap.size = c ∧ Below w.heap.size w wq) (fun _ i _ => nD - (intOf i).toNat)
              case atStart => exact ⟨s6, 0, rfl, rfl, by omega, by omega, Hid.mk (by show s6 = s6 ++ ⟨#[]⟩; rw [ba_empty]), R6, B6⟩
              case round =>
                clear R6 B6
                obtain ⟨t, i, rfl, rfl, hi, ht, HTT, Rq, Bq⟩ := hrel
                have f11 := rowcell Rq 11 _ G11.out
                by_cases hlt3 : i < nD
                · have c9 : (i : Int) < nD := by omega
                  have c8 : t.size ≤ 8000 := by omega
                  have hao := haD (by omega)
                  subst hao
                  obtain ⟨p, hp⟩ : ∃ p, x.draws[i]? = some p := ⟨x.draws[i]'(by rw [← HND.out]; exact hlt3), List.getElem?_eq_getElem _⟩
                  have zp := HX.out.drawsW p (List.mem_of_getElem? hp)
                  have hpc := XD.out i p hp
                  have e1 : wr.cell? ⟨gD, oD + i, none⟩ = some (.string p) := by rw [Bq.cell (World.block_lt_of_cell? w _ hpc)]; exact hpc
                  have HST : Hid (strsB (x.draws.take (i + 1)) = strsB (x.draws.take i) ++ p) := Hid.mk (by rw [take_snoc _ _ _ hp, strsB_snoc])
                  clear hp hpc
                  go_wp2
                  go_roundw
                  case rel => exact ⟨_, i + 1, rfl, by go_num, by omega, by simp only [ByteArray.size_append]; omega, Hid.mk (by rw [HST.out, HTT.out, ByteArray.append_assoc]), Rq, Bq⟩
                  case measure => simp [intOf]; omega
                · have c9 : ¬ (i : Int) < nD := by omega
                  have HE : Hid (t = keptB x) := Hid.mk (by rw [HK3.out, HTT.out, show i = x.draws.length by rw [← HND.out]; omega, List.take_length])
                  go_wp2
                  go_ret
                  exact ⟨congrArg (fun z => Ending.returned (Value.string z)) HE.out, Bq⟩
theorem kept_f (x : Sd) (hx : x.Wf) (c : Array Value) (vS vP vD : Value) (w : World) (hc : SideAt w c x vS vP vD) :
    Calls Tryz.prog 33 #[.agg c] w fun e w' => e = .returned (.string (keptB x)) ∧ Below w.heap.size w w' := by rw [hc.eq]; exact kept_g x hx.sz (pubF x.self) vS vP vD w hc.vs hc.vp hc.vd
end Go.Proofs.YteghoooelgcpkaaGreatDoor
