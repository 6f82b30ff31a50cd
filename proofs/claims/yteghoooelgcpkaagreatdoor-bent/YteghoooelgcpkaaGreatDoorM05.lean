import Derived.BigQuiet
import Derived.Test.YteghoooelgcpkaaGreatDoorM00
import Derived.Test.YteghoooelgcpkaaGreatDoorM04
namespace Go.Proofs.YteghoooelgcpkaaGreatDoor
open Go.RowKit Go.Msg
theorem rtW : RowTy Tryz.prog 202 64 := ⟨by decide, by kernel_rfl, _, Tryz.underlying202, rfl⟩
theorem rtS : RowTy Tryz.prog 201 8 := ⟨by decide, by kernel_rfl, _, Tryz.underlying201, rfl⟩
@[go_sem] theorem zero64 : #[Value.int IntKind.u32 0, Value.int IntKind.u32 0, Value.int IntKind.u32 0, Value.int IntKind.u32 0, Value.int IntKind.u32 0, Value.int IntKind.u32 0, Value.int IntKind.u32 0, Value.int IntKind.u32 0, Value.int IntKind.u32 0, Value.int IntKind.u32 0, Value.int IntKind.u32 0, Value.int IntKind.u32 0, Value.int IntKind.u32 0, Value.int IntKind.u32 0, Value.int IntKind.u32 0, Value.int IntKind.u32 0, Value.int IntKind.u32 0, Value.int IntKind.u32 0, Value.int IntKind.u32 0, Value.int IntKind.u32 0, Value.int IntKind.u32 0, Value.int IntKind.u32 0, Value.int IntKind.u32 0, Value.int IntKind.u32 0, Value.int IntKind.u32 0, Value.int IntKind.u32 0, Value.int IntKind.u32 0, Value.int IntKind.u32 0, Value.int IntKind.u32 0, Value.int IntKind.u32 0, Value.int IntKind.u32 0, Value.int IntKind.u32 0, Value.int IntKind.u32 0, Value.int IntKind.u32 0, Value.int IntKind.u32 0, Value.int IntKind.u32 0, Value.int IntKind.u32 0, Value.int IntKind.u32 0, Value.int IntKind.u32 0, Value.int IntKind.u32 0, Value.int IntKind.u32 0, Value.int IntKind.u32 0, Value.int IntKind.u32 0, Value.int IntKind.u32 0, Value.int IntKind.u32 0, Value.int IntKind.u32 0, Value.int IntKind.u32 0, Value.int IntKind.u32 0, Value.int IntKind.u32 0, Value.int IntKind.u32 0, Value.int IntKind.u32 0, Value.int IntKind.u32 0, Value.int IntKind.u32 0, Value.int IntKind.u32 0, Value.int IntKind.u32 0, Value.int IntKind.u32 0, Value.int IntKind.u32 0, Value.int IntKind.u32 0, Value.int IntKind.u32 0, Value.int IntKind.u32 0, Value.int IntKind.u32 0, Value.int IntKind.u32 0, Value.int IntKind.u32 0, Value.int IntKind.u32 0] = tab .u32 64 (fun _ => 0) := by rw [tab_eq]; rfl
@[go_sem] theorem zero8 : #[Value.int IntKind.u32 0, Value.int IntKind.u32 0, Value.int IntKind.u32 0, Value.int IntKind.u32 0, Value.int IntKind.u32 0, Value.int IntKind.u32 0, Value.int IntKind.u32 0, Value.int IntKind.u32 0] = tab .u32 8 (fun _ => 0) := by rw [tab_eq]; rfl
abbrev c64 (f : Nat → Int) : Obj := .cells (tab .u32 64 f) 202
abbrev c8 (f : Nat → Int) : Obj := .cells (tab .u32 8 f) 201
theorem num_word (t : ByteArray) (k : Nat) (h : 4 * k + 4 ≤ t.size) : numF (sb (t.extract (4 * k) (4 * k + 4))) 4 = word (fun i => sb t i) k := by
  have e : ∀ i, i < 4 → sb (t.extract (4 * k) (4 * k + 4)) i = sb t (4 * k + i) := fun i hi => sb_extract t _ _ i (by omega) h
  simp only [numF, word, e 0 (by omega), e 1 (by omega), e 2 (by omega), e 3 (by omega), Nat.add_zero]
  omega
set_option maxRecDepth 4000 in
set_option maxHeartbeats 4000000 in
theorem schedule_any (t : ByteArray) (ht : t.size = 64) (w : World) :
    Calls Tryz.prog 170 #[.string t] w fun e w' => e = .returned (.agg (tab .u32 64 (wl (fun i => sb t i) 64))) ∧ Below w.heap.size w w' := by
  obtain ⟨bt, hbt⟩ : ∃ b : Nat → Int, b = fun i => sb t i := ⟨_, rfl⟩
  have hb8 : B8 bt := by rw [hbt]; exact sb_B8 t
  have HBT : Hid (bt = fun i => sb t i) := hbt
  rw [← hbt]
  clear hbt
  go_enter Tryz.func170, Tryz.ntmps170
  go_wp2
  go_loopw [4] (fun i wr => ∃ k n : Nat, k ≤ 16 ∧ i = .int .i64 k ∧ wr = ((w.alloc (c64 (fun _ => 0))).alloc (c64 (wl bt k))).dr n) (fun i _ => 16 - (intOf i).toNat)
  case atStart => exact ⟨0, _, by omega, rfl, (World.dr_self _).symm⟩
  case round =>
    obtain ⟨k, n, hk, rfl, rfl⟩ := hrel
    by_cases hlt : k < 16
    · have c1 : (k : Int) < 16 := by omega
      have c2 : 4 * ((k : Int) + 1) ≤ t.size := by omega
      have c3 : 4 * k + 4 ≤ t.size := by omega
      have c4 : (4 * (k : Int)).toNat = 4 * k := by omega
      have c5 : (4 * ((k : Int) + 1)).toNat = 4 * k + 4 := by omega
      have c6 : k < 64 := by omega
      have HW : Hid (numF (sb (t.extract (4 * k) (4 * k + 4))) 4 = word bt k) := Hid.mk (by rw [HBT.out]; exact num_word t k c3)
      have hz : (t.extract (4 * k) (4 * k + 4)).size = 4 := by rw [ByteArray.size_extract]; omega
      obtain ⟨f, hf⟩ : ∃ f, f = wl bt k := ⟨_, rfl⟩
      rw [← hf]
      have HF : Hid (upd f k (word bt k) = wl bt (k + 1)) := Hid.mk (by rw [hf, wl_lo _ _ hlt])
      clear hf
      go_wp2_with (go_at_call 150; have M := onumber_any (t.extract (4 * k) (4 * k + 4)) (by omega) (((w.alloc (c64 (fun _ => 0))).alloc (c64 f)).dr n); with_reducible refine M.mono ?_; clear M; rintro e w1 ⟨rfl, rfl⟩; rw [hz, HW.out])
      go_roundw
      case rel => exact ⟨k + 1, _, by omega, by go_num, by rw [← HF.out]⟩
      case measure => simp [intOf]; omega
    · have hk' : k = 16 := by omega
      subst hk'
      rw [show ((16 : Nat) : Int) = 16 from rfl]
      go_wp2
      go_loopw [5, 6, 7] (fun i _ _ wr => ∃ k n : Nat, k ≤ 48 ∧ i = .int .i64 ((k : Int) + 16) ∧ wr = ((w.alloc (c64 (fun _ => 0))).alloc (c64 (wl bt (k + 16)))).dr n) (fun i _ _ _ => 64 - (intOf i).toNat)
      case atStart => exact ⟨0, _, by omega, rfl, rfl⟩
      case round =>
        obtain ⟨m, n, hm, rfl, rfl⟩ := hrel
        by_cases hlt : m < 48
        · have c1 : (m : Int) + 16 < 64 := by omega
          have c2 : m + 16 < 64 := by omega
          have i1 : (m : Int) + 1 < 64 := by omega
          have j1 : (0 : Int) ≤ (m : Int) + 1 := by omega
          have t1 : ((m : Int) + 1).toNat = m + 1 := by omega
          have l1 : m + 1 < 64 := by omega
          have i9 : (m : Int) + 9 < 64 := by omega
          have j9 : (0 : Int) ≤ (m : Int) + 9 := by omega
          have t9 : ((m : Int) + 9).toNat = m + 9 := by omega
          have l9 : m + 9 < 64 := by omega
          have i14 : (m : Int) + 14 < 64 := by omega
          have j14 : (0 : Int) ≤ (m : Int) + 14 := by omega
          have t14 : ((m : Int) + 14).toNat = m + 14 := by omega
          have l14 : m + 14 < 64 := by omega
          have l0 : m < 64 := by omega
          have w15 : IntKind.i64.wrap ((m : Int) + 16 - 15) = (m : Int) + 1 := by rw [IntKind.wrap_i64]; omega
          have w2 : IntKind.i64.wrap ((m : Int) + 16 - 2) = (m : Int) + 14 := by rw [IntKind.wrap_i64]; omega
          have w16 : IntKind.i64.wrap ((m : Int) + 16 - 16) = (m : Int) := by rw [IntKind.wrap_i64]; omega
          have w7 : IntKind.i64.wrap ((m : Int) + 16 - 7) = (m : Int) + 9 := by rw [IntKind.wrap_i64]; omega
          obtain ⟨f, hf⟩ : ∃ f, f = wl bt (m + 16) := ⟨_, rfl⟩
          have hfb : ∀ i, B32 (f i) := by rw [hf]; exact wl_bd hb8 _
          have HFB : Hid _ := hfb
          have HF : Hid (upd f (m + 16) (wnext f m) = wl bt (m + 16 + 1)) := Hid.mk (by rw [hf, wl_hi])
          rw [← hf]
          clear hf
          obtain ⟨b0l, b0h⟩ := hfb m
          obtain ⟨b1l, b1h⟩ := hfb (m + 1)
          obtain ⟨b9l, b9h⟩ := hfb (m + 9)
          obtain ⟨b14l, b14h⟩ := hfb (m + 14)
          obtain ⟨s0, hs0⟩ : ∃ s, s = sg0 (f (m + 1)) := ⟨_, rfl⟩
          obtain ⟨s1, hs1⟩ : ∃ s, s = sg1 (f (m + 14)) := ⟨_, rfl⟩
          have bs0 : B32 s0 := by rw [hs0]; exact xr_bd _ _
          have bs1 : B32 s1 := by rw [hs1]; exact xr_bd _ _
          obtain ⟨bs0l, bs0h⟩ := bs0
          obtain ⟨bs1l, bs1h⟩ := bs1
          have E0 : bits .xor .u32 (bits .xor .u32 (rr (f (m + 1)) 7) (rr (f (m + 1)) 18)) (f (m + 1) / 8) = s0 := hs0.symm
          have E1 : bits .xor .u32 (bits .xor .u32 (rr (f (m + 14)) 17) (rr (f (m + 14)) 19)) (f (m + 14) / 1024) = s1 := hs1.symm
          have HW : Hid ((f m + s0 + f (m + 9) + s1) % 4294967296 = wnext f m) := Hid.mk (by rw [hs0, hs1]; rfl)
          clear hs0 hs1 hfb
          go_wp2_with fail
          go_quiet (first | (go_at_call 185; exact (right_any _ _ (HFB.out _) (by decide) (by decide) _).mono fun _ _ h => ⟨h.1, _, h.2⟩))
          go_wp2_with fail
          go_quiet (first | (go_at_call 185; exact (right_any _ _ (HFB.out _) (by decide) (by decide) _).mono fun _ _ h => ⟨h.1, _, h.2⟩))
          go_wp2_with fail
          go_region
          go_wp2
          go_roundw
          case rel => exact ⟨m + 1, _, by omega, by go_num, by rw [show m + 1 + 16 = m + 16 + 1 by omega, ← HF.out, ← HW.out]⟩
          case measure => simp [intOf]; omega
        · have hm' : m = 48 := by omega
          subst hm'
          rw [show ((48 : Nat) : Int) + 16 = 64 from rfl]
          go_wp2_with (first | (refine wpl_load rtW rfl _ rfl _ rfl (tab .u32 64 (wl bt 64)) ?_ (tab_size _ _ _) ?_; (focus (first | (simp [go_sem]; done) | (simp (disch := first | (simp [go_sem]; done) | (simp [go_sem]; omega)) [go_sem]; done)))) | (refine wpl_store rtW rfl _ _ rfl _ rfl (tab .u32 64 (wl bt 64)) rfl ?_ (tab_size _ _ _) (tab_all _ _ _) (((w.alloc (c64 (wl bt 64))).alloc (c64 (wl bt 64))).dr n) ?_ ?_; (focus (first | (simp [go_sem]; done) | (simp (disch := first | (simp [go_sem]; done) | (simp [go_sem]; omega)) [go_sem]; done))); (focus (first | (simp [go_sem]; done) | (simp (disch := first | (simp [go_sem]; done) | (simp [go_sem]; omega)) [go_sem]; done)))))
          exact bodyPost_ret (v := .agg (tab .u32 64 (wl bt 64))) (by rw [results_row rtW Tryz.results170 _ _ (w.heap.size) rfl (by first | (simp [go_sem]; done) | (simp (disch := first | (simp [go_sem]; done) | (simp [go_sem]; omega)) [go_sem]; done))]; first | (simp [go_sem]; done) | (simp (disch := first | (simp [go_sem]; done) | (simp [go_sem]; omega)) [go_sem]; done)) rfl ⟨rfl, below2 _ _ _ _⟩
end Go.Proofs.YteghoooelgcpkaaGreatDoor
namespace Go.Msg
open Go.RowKit
theorem not32 {x : Int} (h : B32 x) : bits .xor .u32 4294967295 x = 4294967295 - x := by
  obtain ⟨a, rfl, ha⟩ := h.nat
  have e : BitVec.ofInt 32 4294967295 = BitVec.allOnes 32 := by decide
  show IntKind.u32.wrap ((BitVec.ofInt 32 4294967295 ^^^ BitVec.ofInt 32 (a : Int)).toNat : Int) = _
  rw [e, BitVec.allOnes_xor, BitVec.toNat_not, BitVec.ofInt_natCast, BitVec.toNat_ofNat, Nat.mod_eq_of_lt ha, IntKind.wrap_u32]
  omega
def shf (s : Nat → Int) (k i : Nat) : Int := if k < i then s (i - 1) else s i
theorem shf_at (s : Nat → Int) (k : Nat) : shf s (k + 1) k = s k := by unfold shf; rw [if_neg (by omega)]
theorem shf_step (s : Nat → Int) (k : Nat) : upd (shf s (k + 1)) (k + 1) (s k) = shf s k := by
  funext i
  unfold upd shf
  by_cases e : i = k + 1
  · subst e; simp
  · rw [if_neg e]
    by_cases h : k + 1 < i
    · rw [if_pos h, if_pos (by omega)]
    · rw [if_neg h, if_neg (by omega)]
theorem shf_start (s : Nat → Int) (i : Nat) (h : i < 8) : shf s 7 i = s i := by unfold shf; rw [if_neg (by omega)]
end Go.Msg
namespace Go.Proofs.YteghoooelgcpkaaGreatDoor
open Go.RowKit Go.Msg
theorem rstep_tab (x : Int) (s f : Nat → Int) (hf : f = shf s 0) : tab .u32 8 (upd (upd f 4 ((s 3 + rT 0 x s) % 4294967296)) 0 ((rT 0 x s + rU s) % 4294967296)) = tab .u32 8 (rstep 0 x s) := by
  subst hf
  refine tab_congr fun i hi => ?_
  match i, hi with
  | 0, _ => rfl
  | 1, _ => rfl
  | 2, _ => rfl
  | 3, _ => rfl
  | 4, _ => rfl
  | 5, _ => rfl
  | 6, _ => rfl
  | 7, _ => rfl
set_option maxRecDepth 4000 in
set_option maxHeartbeats 4000000 in
theorem sround_any (s : Nat → Int) (hs : ∀ i, i < 8 → B32 (s i)) (x : Int) (hx : B32 x) (w : World) :
    Calls Tryz.prog 186 #[.agg (tab .u32 8 s), .int .u32 x] w fun e w' => e = .returned (.agg (tab .u32 8 (rstep 0 x s))) ∧ Below w.heap.size w w' := by
  obtain ⟨xl, xh⟩ := hx
  have HS : Hid _ := hs
  have E1 : bits .xor .u32 (bits .xor .u32 (rr (s 4) 6) (rr (s 4) 11)) (rr (s 4) 25) = xr (xr (rr (s 4) 6) (rr (s 4) 11)) (rr (s 4) 25) := rfl
  have E2 : bits .xor .u32 (bits .and .u32 (s 4) (s 5)) (bits .and .u32 (bits .xor .u32 IntKind.u32.max (s 4)) (s 6)) = xr (an (s 4) (s 5)) (an (4294967295 - s 4) (s 6)) := by rw [show IntKind.u32.max = 4294967295 from rfl, not32 (hs 4 (by omega))]; rfl
  have E3 : bits .xor .u32 (bits .xor .u32 (rr (s 0) 2) (rr (s 0) 13)) (rr (s 0) 22) = xr (xr (rr (s 0) 2) (rr (s 0) 13)) (rr (s 0) 22) := rfl
  have E4 : bits .xor .u32 (bits .xor .u32 (bits .and .u32 (s 0) (s 1)) (bits .and .u32 (s 0) (s 2))) (bits .and .u32 (s 1) (s 2)) = xr (xr (an (s 0) (s 1)) (an (s 0) (s 2))) (an (s 1) (s 2)) := rfl
  obtain ⟨X1, hX1⟩ : ∃ X, X = xr (xr (rr (s 4) 6) (rr (s 4) 11)) (rr (s 4) 25) := ⟨_, rfl⟩
  obtain ⟨X2, hX2⟩ : ∃ X, X = xr (an (s 4) (s 5)) (an (4294967295 - s 4) (s 6)) := ⟨_, rfl⟩
  obtain ⟨X3, hX3⟩ : ∃ X, X = xr (xr (rr (s 0) 2) (rr (s 0) 13)) (rr (s 0) 22) := ⟨_, rfl⟩
  obtain ⟨X4, hX4⟩ : ∃ X, X = xr (xr (an (s 0) (s 1)) (an (s 0) (s 2))) (an (s 1) (s 2)) := ⟨_, rfl⟩
  rw [← hX1] at E1
  rw [← hX2] at E2
  rw [← hX3] at E3
  rw [← hX4] at E4
  have HT : Hid ((s 7 + X1 + X2 + x) % 4294967296 = rT 0 x s) := Hid.mk (by unfold rT; rw [hX1, hX2, Int.add_zero])
  have HU : Hid ((X3 + X4) % 4294967296 = rU s) := Hid.mk (by rw [hX3, hX4]; rfl)
  have b1 : B32 X1 := by rw [hX1]; exact xr_bd _ _
  have b2 : B32 X2 := by rw [hX2]; exact xr_bd _ _
  have b3 : B32 X3 := by rw [hX3]; exact xr_bd _ _
  have b4 : B32 X4 := by rw [hX4]; exact xr_bd _ _
  obtain ⟨X1l, X1h⟩ := b1
  obtain ⟨X2l, X2h⟩ := b2
  obtain ⟨X3l, X3h⟩ := b3
  obtain ⟨X4l, X4h⟩ := b4
  have b3 := hs 3 (by omega)
  have b7 := hs 7 (by omega)
  obtain ⟨s3l, s3h⟩ := b3
  obtain ⟨s7l, s7h⟩ := b7
  clear hX1 hX2 hX3 hX4 hs
  go_enter Tryz.func186, Tryz.ntmps186
  go_wp2_with fail
  go_quiet (fail)
  go_wp2_with fail
  go_quiet (fail)
  go_wp2_with fail
  go_quiet (first | (go_at_call 185; exact (right_any _ _ (HS.out _ (by decide)) (by decide) (by decide) _).mono fun _ _ h => ⟨h.1, _, h.2⟩))
  go_wp2_with (go_at_call 185; refine (right_any _ _ (HS.out _ (by decide)) (by decide) (by decide) _).mono ?_; rintro e w1 ⟨rfl, rfl⟩)
  rw [HT.out, HU.out]
  obtain ⟨T, hT⟩ : ∃ T, T = rT 0 x s := ⟨_, rfl⟩
  obtain ⟨U, hU⟩ : ∃ U, U = rU s := ⟨_, rfl⟩
  rw [← hT, ← hU]
  have bT : B32 T := by rw [hT]; exact mod32 _
  have bU : B32 U := by rw [hU]; exact mod32 _
  obtain ⟨Tl, Th⟩ := bT
  obtain ⟨Ul, Uh⟩ := bU
  have HTT : Hid (T = rT 0 x s) := hT
  have HUU : Hid (U = rU s) := hU
  clear hT hU E1 E2 E3 E4 HT HU
  go_loopw [13] (fun i wr => ∃ k n : Nat, k ≤ 7 ∧ i = .int .i64 k ∧ wr = ((w.alloc (c8 (shf s k))).alloc (c8 (fun _ => 0))).dr n) (fun i _ => (intOf i).toNat)
  case atStart => exact ⟨7, _, by omega, rfl, by rw [c8, c8, tab_congr (shf_start s)]; rfl⟩
  case round =>
    obtain ⟨k, n, hk, rfl, rfl⟩ := hrel
    by_cases hlt : 0 < k
    · obtain ⟨m, rfl⟩ : ∃ m, k = m + 1 := ⟨k - 1, by omega⟩
      have cm : ((m + 1 : Nat) : Int) = (m : Int) + 1 := by omega
      rw [cm]
      have c1 : (m : Int) < 8 := by omega
      have c2 : (m : Int) + 1 < 8 := by omega
      have c3 : m < 8 := by omega
      have c4 : m + 1 < 8 := by omega
      have c5 : 0 < (m : Int) + 1 := by omega
      have c6 : (0 : Int) ≤ m := by omega
      have hat := shf_at s m
      obtain ⟨f, hf⟩ : ∃ f, f = shf s (m + 1) := ⟨_, rfl⟩
      have HF : Hid (upd f (m + 1) (s m) = shf s m) := Hid.mk (by rw [hf, shf_step])
      rw [← hf] at hat ⊢
      clear hf cm
      go_wp2
      go_roundw
      case rel => exact ⟨m, _, by omega, by go_num, by rw [← HF.out]⟩
      case measure => simp [intOf]
    · have hk' : k = 0 := by omega
      subst hk'
      rw [show ((0 : Nat) : Int) = 0 from rfl]
      obtain ⟨f, hf⟩ : ∃ f, f = shf s 0 := ⟨_, rfl⟩
      have f4 : f 4 = s 3 := by rw [hf]; rfl
      have HF : Hid (tab .u32 8 (upd (upd f 4 ((s 3 + T) % 4294967296)) 0 ((T + U) % 4294967296)) = tab .u32 8 (rstep 0 x s)) := Hid.mk (by rw [HTT.out, HUU.out]; exact rstep_tab x s f hf)
      rw [← hf]
      clear hf
      go_wp2_with (first | (refine wpl_load rtS rfl _ rfl _ rfl (tab .u32 8 (upd (upd f 4 ((s 3 + T) % 4294967296)) 0 ((T + U) % 4294967296))) ?_ (tab_size _ _ _) ?_; (focus (first | (simp [go_sem]; done) | (simp (disch := first | (simp [go_sem]; done) | (simp [go_sem]; omega)) [go_sem]; done)))) | (refine wpl_store rtS rfl _ _ rfl _ rfl (tab .u32 8 (upd (upd f 4 ((s 3 + T) % 4294967296)) 0 ((T + U) % 4294967296))) rfl ?_ (tab_size _ _ _) (tab_all _ _ _) (((w.alloc (c8 (upd (upd f 4 ((s 3 + T) % 4294967296)) 0 ((T + U) % 4294967296)))).alloc (c8 (upd (upd f 4 ((s 3 + T) % 4294967296)) 0 ((T + U) % 4294967296)))).dr n) ?_ ?_; (focus (first | (simp [go_sem]; done) | (simp (disch := first | (simp [go_sem]; done) | (simp [go_sem]; omega)) [go_sem]; done))); (focus (first | (simp [go_sem]; done) | (simp (disch := first | (simp [go_sem]; done) | (simp [go_sem]; omega)) [go_sem]; done)))))
      exact bodyPost_ret (v := .agg (tab .u32 8 (upd (upd f 4 ((s 3 + T) % 4294967296)) 0 ((T + U) % 4294967296)))) (by rw [results_row rtS Tryz.results186 _ _ (w.heap.size + 1) rfl (by first | (simp [go_sem]; done) | (simp (disch := first | (simp [go_sem]; done) | (simp [go_sem]; omega)) [go_sem]; done))]; first | (simp [go_sem]; done) | (simp (disch := first | (simp [go_sem]; done) | (simp [go_sem]; omega)) [go_sem]; done)) rfl ⟨by rw [HF.out], below2 _ _ _ _⟩
end Go.Proofs.YteghoooelgcpkaaGreatDoor
namespace Go.Msg
def mixF (W h : Nat → Int) (i : Nat) : Int := (h i + rnds W h 64 i) % 4294967296
theorem rstep_sum (k v : Int) (s : Nat → Int) : rstep 0 ((k + v) % 4294967296) s = rstep k v s := by
  have e : rT 0 ((k + v) % 4294967296) s = rT k v s := by unfold rT; omega
  unfold rstep; rw [e]
end Go.Msg
namespace Go.Proofs.YteghoooelgcpkaaGreatDoor
open Go.RowKit Go.Msg
def thro (k : Nat) (a b : Nat → Int) (i : Nat) : Int := if i < k then a i else b i
theorem thro_zero (a b : Nat → Int) : thro 0 a b = b := by funext i; simp [thro]
theorem thro_at (k : Nat) (a b : Nat → Int) : thro k a b k = b k := by simp [thro]
theorem thro_step (k : Nat) (a b : Nat → Int) : upd (thro k a b) k (a k) = thro (k + 1) a b := by
  funext i
  unfold upd thro
  by_cases e : i = k
  · subst e; simp
  · rw [if_neg e]
    by_cases h : i < k
    · rw [if_pos h, if_pos (by omega)]
    · rw [if_neg h, if_neg (by omega)]
theorem thro_end (k : IntKind) (n : Nat) (a b : Nat → Int) : tab k n (thro n a b) = tab k n a := tab_congr fun i hi => by simp [thro, hi]
structure Tbl (w : World) : Prop where
  sq : ∀ i, i < 8 → w.cell? ⟨0, i, none⟩ = some (.int .u32 (Hc i))
  cu : ∀ i, i < 64 → w.cell? ⟨1, i, none⟩ = some (.int .u32 (Kc i))
theorem Tbl.lt {w : World} (h : Tbl w) : 1 < w.heap.size := World.block_lt_of_cell? w _ (h.cu 0 (by omega))
theorem Tbl.below {w w' : World} (h : Tbl w) (hb : Below w.heap.size w w') : Tbl w' := by
  have := h.lt
  exact ⟨fun i hi => by rw [hb.cell (by show 0 < _; omega)]; exact h.sq i hi, fun i hi => by rw [hb.cell (by show 1 < _; omega)]; exact h.cu i hi⟩
theorem below4x (w : World) (A B C D : Obj) (bs : List Obj) (n : Nat) : Below w.heap.size w ((((((w.alloc A).alloc B).alloc C).alloc D).exts bs).dr n) :=
  below_dr (below_exts' (((((Below.refl _ _).alloc (Nat.le_refl _) _).alloc (by simp) _).alloc (by simp; omega) _).alloc (by simp; omega) _) (by simp; omega) _) _
theorem rnds_tab (W h : Nat → Int) : tab .u32 8 h = tab .u32 8 (rnds W h 0) := tab_congr fun i hi => (o8_at h i hi).symm
set_option maxRecDepth 4000 in
set_option maxHeartbeats 4000000 in
theorem dmixed_any (h W : Nat → Int) (hh : ∀ i, i < 8 → B32 (h i)) (hW : ∀ i, i < 64 → B32 (W i)) (w : World) (ht : Tbl w) :
    Calls Tryz.prog 171 #[.agg (tab .u32 8 h), .agg (tab .u32 64 W)] w fun e w' => e = .returned (.agg (tab .u32 8 (mixF W h))) ∧ Below w.heap.size w w' := by
  have hlt1 := ht.lt
  have HT : Hid _ := ht
  have HH : Hid _ := hh
  have HWB : Hid _ := hW
  clear ht hh hW
  go_enter Tryz.func171, Tryz.ntmps171
  go_wp2_with (first | (refine wpl_load rtS rfl _ rfl _ rfl (tab .u32 8 h) ?_ (tab_size _ _ _) ?_; (focus (first | (simp [go_sem]; done) | (simp (disch := first | (simp [go_sem]; done) | (simp [go_sem]; omega)) [go_sem]; done)))) | (refine wpl_store rtS rfl _ _ rfl _ rfl (tab .u32 8 h) rfl ?_ (tab_size _ _ _) (tab_all _ _ _) ((((w.alloc (c8 h)).alloc (c64 W)).alloc (c8 (fun _ => 0))).alloc (c8 h)) ?_ ?_; (focus (first | (simp [go_sem]; done) | (simp (disch := first | (simp [go_sem]; done) | (simp [go_sem]; omega)) [go_sem]; done))); (focus (first | (simp [go_sem]; done) | (simp (disch := first | (simp [go_sem]; done) | (simp [go_sem]; omega)) [go_sem]; done)))))
  go_loopw [6] (fun i wr => ∃ (k n : Nat) (bs : List Obj), k ≤ 64 ∧ i = .int .i64 k ∧ wr = (((((w.alloc (c8 h)).alloc (c64 W)).alloc (c8 (fun _ => 0))).alloc (c8 (rnds W h k))).exts bs).dr n) (fun i _ => 64 - (intOf i).toNat)
  case atStart => exact ⟨0, _, [], by omega, rfl, by rw [World.exts_nil, World.dr_self, c8, rnds_tab W h]⟩
  case round =>
    obtain ⟨k, n, bs, hk, rfl, rfl⟩ := hrel
    by_cases hlt : k < 64
    · have c1 : (k : Int) < 64 := by omega
      have yk : ((w.alloc (c8 h)).alloc (c64 W)).cell? ⟨1, k, none⟩ = some (.int .u32 (Kc k)) := by rw [(by_alloc2 w _ _).cell (show 1 < _ from hlt1)]; exact HT.out.cu k hlt
      obtain ⟨kl, kh⟩ := Kc_bd k
      obtain ⟨Wl, Wh⟩ := HWB.out k hlt
      obtain ⟨s, hs⟩ : ∃ s, s = rnds W h k := ⟨_, rfl⟩
      have hsb : ∀ i, i < 8 → B32 (s i) := fun i _ => by rw [hs]; exact rnds_bd HH.out k i
      have HSB : Hid _ := hsb
      have HN : Hid (rstep 0 ((Kc k + W k) % 4294967296) s = rnds W h (k + 1)) := Hid.mk (by rw [rstep_sum, hs]; rfl)
      rw [← hs]
      clear hs hsb
      go_wp2_with fail
      refine wp_region_quiet_tail 8 (fun w' => ∃ m, w' = (((((w.alloc (c8 h)).alloc (c64 W)).alloc (c8 (fun _ => 0))).alloc (c8 s)).exts bs).dr m) mixed_any (by kernel_rfl) ⟨_, rfl⟩ ?_
      simp only [List.take_succ_cons, List.take_zero, List.drop_succ_cons, List.drop_zero]
      refine quiet_load_row rtS rfl _ rfl _ rfl (tab .u32 8 s) (tab_size _ _ _) ?_ ?_
      · rintro w' ⟨p, rfl⟩; simp [go_sem]
      simp only [Act.put, List.setIfInBounds_toArray, List.set_cons_succ, List.set_cons_zero]
      iterate 7 (go_big_quiet_step (fail))
      refine wpQuiet_nil ?_
      rintro w' ⟨q, rfl⟩
      go_wp2_with (first
        | (go_at_call 186; have M := sround_any s HSB.out ((Kc k + W k) % 4294967296) (mod32 _) ((((((w.alloc (c8 h)).alloc (c64 W)).alloc (c8 (fun _ => 0))).alloc (c8 s)).exts bs).dr q); with_reducible refine M.mono ?_; clear M; rintro e w' ⟨rfl, hb1⟩; obtain ⟨bs1, n1, rfl⟩ := below_form2 hb1; rw [HN.out])
        | (refine wpl_store rtS rfl _ _ rfl _ rfl (tab .u32 8 (rnds W h (k + 1))) rfl ?_ (tab_size _ _ _) (tab_all _ _ _) ((((((w.alloc (c8 h)).alloc (c64 W)).alloc (c8 (fun _ => 0))).alloc (c8 (rnds W h (k + 1)))).exts bs1).dr n1) ?_ ?_; (focus (first | (simp [go_sem]; done) | (simp (disch := first | (simp [go_sem]; done) | (simp [go_sem]; omega)) [go_sem]; done))); (focus (first | (simp [go_sem]; done) | (simp (disch := first | (simp [go_sem]; done) | (simp [go_sem]; omega)) [go_sem]; done)))))
      go_roundw
      case rel => exact ⟨k + 1, _, bs1, by omega, by go_num, rfl⟩
      case measure => simp [intOf]; omega
    · have hk' : k = 64 := by omega
      subst hk'
      rw [show ((64 : Nat) : Int) = 64 from rfl]
      obtain ⟨s, hs⟩ : ∃ s, s = rnds W h 64 := ⟨_, rfl⟩
      have hsb : ∀ i, B32 (s i) := fun i => by rw [hs]; exact rnds_bd HH.out 64 i
      have HSB : Hid _ := hsb
      have HM : Hid (∀ i, (h i + s i) % 4294967296 = mixF W h i) := Hid.mk (fun i => by rw [hs]; rfl)
      rw [← hs]
      clear hs hsb
      go_wp2
      go_loopw [7] (fun i wr => ∃ k n : Nat, k ≤ 8 ∧ i = .int .i64 k ∧ wr = (((((w.alloc (c8 (thro k (mixF W h) h))).alloc (c64 W)).alloc (c8 (fun _ => 0))).alloc (c8 s)).exts bs).dr n) (fun i _ => 8 - (intOf i).toNat)
      case atStart => exact ⟨0, _, by omega, rfl, by rw [thro_zero]⟩
      case round =>
        obtain ⟨k, n, hk, rfl, rfl⟩ := hrel
        by_cases hlt : k < 8
        · have c1 : (k : Int) < 8 := by omega
          obtain ⟨hl, hhh⟩ := HH.out k hlt
          obtain ⟨sl, sh⟩ := HSB.out k
          obtain ⟨f, hf⟩ : ∃ f, f = thro k (mixF W h) h := ⟨_, rfl⟩
          have fk : f k = h k := by rw [hf, thro_at]
          have HF : Hid (upd f k ((h k + s k) % 4294967296) = thro (k + 1) (mixF W h) h) := Hid.mk (by rw [hf, HM.out, thro_step])
          rw [← hf]
          clear hf
          go_wp2
          go_region
          go_wp2
          go_roundw
          case rel => exact ⟨k + 1, _, by omega, by go_num, by rw [← HF.out]⟩
          case measure => simp [intOf]; omega
        · have hk' : k = 8 := by omega
          subst hk'
          have e8 : c8 (thro 8 (mixF W h) h) = c8 (mixF W h) := by show Obj.cells _ _ = Obj.cells _ _; rw [thro_end]
          rw [show ((8 : Nat) : Int) = 8 from rfl, e8]
          go_wp2_with (first | (refine wpl_load rtS rfl _ rfl _ rfl (tab .u32 8 (mixF W h)) ?_ (tab_size _ _ _) ?_; (focus (first | (simp [go_sem]; done) | (simp (disch := first | (simp [go_sem]; done) | (simp [go_sem]; omega)) [go_sem]; done)))) | (refine wpl_store rtS rfl _ _ rfl _ rfl (tab .u32 8 (mixF W h)) rfl ?_ (tab_size _ _ _) (tab_all _ _ _) ((((((w.alloc (c8 (mixF W h))).alloc (c64 W)).alloc (c8 (mixF W h))).alloc (c8 s)).exts bs).dr n) ?_ ?_; (focus (first | (simp [go_sem]; done) | (simp (disch := first | (simp [go_sem]; done) | (simp [go_sem]; omega)) [go_sem]; done))); (focus (first | (simp [go_sem]; done) | (simp (disch := first | (simp [go_sem]; done) | (simp [go_sem]; omega)) [go_sem]; done)))))
          exact bodyPost_ret (v := .agg (tab .u32 8 (mixF W h))) (by rw [results_row rtS Tryz.results171 _ _ (w.heap.size + 1 + 1) rfl (by first | (simp [go_sem]; done) | (simp (disch := first | (simp [go_sem]; done) | (simp [go_sem]; omega)) [go_sem]; done))]; first | (simp [go_sem]; done) | (simp (disch := first | (simp [go_sem]; done) | (simp [go_sem]; omega)) [go_sem]; done)) rfl ⟨rfl, below4x _ _ _ _ _ _ _⟩
set_option maxHeartbeats 1000000 in
theorem dtext_any (f : Nat → Int) (hf : ∀ i, i < 8 → B32 (f i)) (w : World) :
    Calls Tryz.prog 172 #[.agg (tab .u32 8 f)] w fun e w' => e = .returned (.string (dig f 8)) ∧ Below w.heap.size w w' := by
  have HF : Hid _ := hf
  clear hf
  go_enter Tryz.func172, Tryz.ntmps172
  go_wp2
  go_loopw [3, 4] (fun z i wr => ∃ (k : Nat), k ≤ 8 ∧ z = .string (dig f k) ∧ i = .int .i64 k ∧ Below (w.heap.size + 1) (w.alloc (c8 f)) wr) (fun _ i _ => 8 - (intOf i).toNat)
  case atStart => exact ⟨0, by omega, rfl, rfl, Below.refl _ _⟩
  case round =>
    obtain ⟨k, hk, rfl, rfl, hbel⟩ := hrel
    by_cases hlt : k < 8
    · have c1 : (k : Int) < 8 := by omega
      have hs := hbel.size
      have y1 : wr.cell? ⟨w.heap.size, k, none⟩ = some (.int .u32 (f k)) := by rw [hbel.cell (by simp)]; simp [go_sem, hlt]
      have zs : (dig f k).size ≤ 32 := by rw [dig_size]; omega
      have z4 : (be 4 (f k)).size = 4 := be_size _ _
      go_wp2_with (go_at_call 100; refine (otext_any (f k) (HF.out k hlt) 4 (by omega) _).mono ?_; rintro e w1 ⟨rfl, hb1⟩)
      go_roundw
      case rel => exact ⟨k + 1, by omega, rfl, by go_num, hbel.trans (hb1.mono (by simpa using hs))⟩
      case measure => simp [intOf]; omega
    · have hk' : k = 8 := by omega
      subst hk'
      go_wp2
      go_ret
      exact ⟨rfl, (by_alloc w _).trans (hbel.mono (by omega))⟩
theorem be_split (N : Int) : be 4 (N / 4294967296) ++ be 4 (N % 4294967296) = be 8 N := by
  have d : ∀ j, N / 4294967296 / 256 ^ j % 256 = N / 256 ^ (j + 4) % 256 := fun j => by
    rw [Int.ediv_ediv_of_nonneg (by omega), Int.pow_add, Int.mul_comm]; rfl
  have e0 : N % 4294967296 / 256 ^ 0 % 256 = N / 256 ^ 0 % 256 := by simp
  have e1 : N % 4294967296 / 256 ^ 1 % 256 = N / 256 ^ 1 % 256 := by simp; omega
  have e2 : N % 4294967296 / 256 ^ 2 % 256 = N / 256 ^ 2 % 256 := by simp; omega
  have e3 : N % 4294967296 / 256 ^ 3 % 256 = N / 256 ^ 3 % 256 := by simp; omega
  simp only [be, d, e0, e1, e2, e3, ByteArray.append_assoc, ba_empty]
end Go.Proofs.YteghoooelgcpkaaGreatDoor
namespace Go.Msg
open Go.RowKit Go.Proofs.YteghoooelgcpkaaGreatDoor
theorem mixF_block (h b : Nat → Int) : mixF (wl b 64) h = blockF h b := rfl
theorem pad_of (t : ByteArray) : t ++ (b1 128 ++ zeros (padZ t.size) ++ be 4 (8 * (t.size : Int) / 4294967296) ++ be 4 (8 * (t.size : Int) % 4294967296)) = pad t := by
  unfold pad
  rw [ByteArray.append_assoc (a := b1 128 ++ zeros (padZ t.size)), be_split, ← ByteArray.append_assoc, ← ByteArray.append_assoc]
end Go.Msg
namespace Go.Proofs.YteghoooelgcpkaaGreatDoor
open Go.RowKit Go.Msg
set_option maxHeartbeats 1000000 in
theorem filling_any (n : Nat) (hn : n ≤ 100000) (w : World) :
    Calls Tryz.prog 169 #[.int .i64 (n : Int)] w fun e w' => e = .returned (.string (b1 128 ++ zeros (padZ n) ++ be 4 (8 * (n : Int) / 4294967296) ++ be 4 (8 * (n : Int) % 4294967296))) ∧ Below w.heap.size w w' := by
  have hp : padZ n < 64 := by unfold padZ; omega
  have hq : (119 - (n : Int) % 64) % 64 = (padZ n : Int) := by unfold padZ; omega
  obtain ⟨P, hP⟩ : ∃ P, P = padZ n := ⟨_, rfl⟩
  rw [← hP] at hp hq ⊢
  clear hP
  go_enter Tryz.func169, Tryz.ntmps169
  go_wp2
  go_loop [3, 5] (fun z i => ∃ (k : Nat) (s : ByteArray), k ≤ P ∧ z = .string s ∧ i = .int .i64 k ∧ s.size = k + 1 ∧ Hid (s = b1 128 ++ zeros k)) (fun _ i => P - (intOf i).toNat)
  case atStart => exact ⟨0, _, by omega, rfl, rfl, rfl, Hid.mk (by rw [zeros_zero, ba_empty]; rfl)⟩
  case round =>
    obtain ⟨k, s, hk, rfl, rfl, hz, HS⟩ := hrel
    by_cases hlt : k < P
    · have c1 : (k : Int) < P := by omega
      have c2 : s.size ≤ 64 := by omega
      have HZ : Hid _ := hz
      clear hz
      go_wp2
      go_round
      case rel => exact ⟨k + 1, _, by omega, rfl, by go_num, by rw [ByteArray.size_append, HZ.out]; rfl, Hid.mk (by rw [HS.out, zeros_succ, ByteArray.append_assoc])⟩
      case measure => simp [intOf]; omega
    · have hk' : k = P := by omega
      subst hk'
      have z1 : (be 4 ((n : Int) / 536870912)).size = 4 := be_size _ _
      have z2 : (be 4 ((n : Int) * 8)).size = 4 := be_size _ _
      have HE2 : Hid (8 * (n : Int) % 4294967296 = (n : Int) * 8) := Hid.mk (by omega)
      have c2 : s.size ≤ 64 := by omega
      have HE : Hid ((n : Int) / 536870912 = 8 * (n : Int) / 4294967296) := Hid.mk (by omega)
      have e1 : (n : Int) / 536870912 % 4294967296 = (n : Int) / 536870912 := by omega
      clear hz
      go_wp2_with (first
        | (go_at_call 100; have M := otext4 ((n : Int) / 536870912) ⟨by omega, by omega⟩ w; with_reducible refine M.mono ?_; clear M; rintro e w1 ⟨rfl, hb1⟩)
        | (go_at_call 100; have M := otext4 ((n : Int) * 8) ⟨by omega, by omega⟩ w1; with_reducible refine M.mono ?_; clear M; rintro e w2 ⟨rfl, hb2⟩))
      go_ret
      exact ⟨congrArg (fun z => Ending.returned (Value.string z)) (by rw [HS.out, HE.out, HE2.out]), below_lift hb1 hb1.size hb2⟩
set_option maxRecDepth 4000 in
set_option maxHeartbeats 4000000 in
theorem dsum_any (t : ByteArray) (ht : t.size ≤ 100000) (w : World) (hT : Tbl w) :
    Calls Tryz.prog 137 #[.string t] w fun e w' => e = .returned (.string (shaF t)) ∧ Below w.heap.size w w' := by
  have zf : (b1 128 ++ zeros (padZ t.size) ++ be 4 (8 * (t.size : Int) / 4294967296) ++ be 4 (8 * (t.size : Int) % 4294967296)).size ≤ 100 := by
    simp only [ByteArray.size_append, b1_size, be_size, zeros, bstr_size]; unfold padZ; omega
  have HP := pad_of t
  obtain ⟨F, hF⟩ : ∃ F, F = b1 128 ++ zeros (padZ t.size) ++ be 4 (8 * (t.size : Int) / 4294967296) ++ be 4 (8 * (t.size : Int) % 4294967296) := ⟨_, rfl⟩
  have HF : Hid _ := hF
  rw [← hF] at HP zf
  have hm0 := pad_mod t
  have hz0 := pad_size t
  obtain ⟨m, hm⟩ : ∃ m, (pad t).size = 64 * m := ⟨(pad t).size / 64, by omega⟩
  have hz1 : (pad t).size ≤ 200000 := by rw [hz0]; unfold padZ; omega
  have HSH : Hid (dig (hs (pad t) m) 8 = shaF t) := Hid.mk (by unfold shaF; rw [show (pad t).size / 64 = m by omega])
  have HPD : Hid (t ++ F = pad t) := HP
  have HTT : Hid _ := hT
  clear hm0 hz0 HP hF hT
  go_enter Tryz.func137, Tryz.ntmps137
  go_wp2_with (go_at_call 169; have M := filling_any t.size ht w; with_reducible refine M.mono ?_; clear M; rintro e w1 ⟨rfl, hb1⟩; rw [← HF.out]; have hT1 := HTT.out.below hb1; have q0 := hT1.sq 0 (by omega); have q1 := hT1.sq 1 (by omega); have q2 := hT1.sq 2 (by omega); have q3 := hT1.sq 3 (by omega); have q4 := hT1.sq 4 (by omega); have q5 := hT1.sq 5 (by omega); have q6 := hT1.sq 6 (by omega); have q7 := hT1.sq 7 (by omega); clear hT1)
  rw [HPD.out]
  obtain ⟨T, hT⟩ : ∃ T, T = pad t := ⟨_, rfl⟩
  rw [← hT] at hm hz1 ⊢
  have HTP : Hid (T = pad t) := hT
  have hT1 := HTT.out.below hb1
  have R1 : (w1.alloc (Obj.cells (tab .u32 8 (upd (upd (upd (upd (upd (upd (upd (upd (fun _ => 0) 0 (Hc 0)) 1 (Hc 1)) 2 (Hc 2)) 3 (Hc 3)) 4 (Hc 4)) 5 (Hc 5)) 6 (Hc 6)) 7 (Hc 7))) 201)).rowOf w1.heap.size = tab .u32 8 (hs T 0) := by
    simp only [go_sem]
    refine tab_congr fun i hi => ?_
    match i, hi with
    | 0, _ => rfl
    | 1, _ => rfl
    | 2, _ => rfl
    | 3, _ => rfl
    | 4, _ => rfl
    | 5, _ => rfl
    | 6, _ => rfl
    | 7, _ => rfl
  have B1 := by_alloc w1 (Obj.cells (tab .u32 8 (upd (upd (upd (upd (upd (upd (upd (upd (fun _ => 0) 0 (Hc 0)) 1 (Hc 1)) 2 (Hc 2)) 3 (Hc 3)) 4 (Hc 4)) 5 (Hc 5)) 6 (Hc 6)) 7 (Hc 7))) 201)
  clear q0 q1 q2 q3 q4 q5 q6 q7 hT
  go_loopw [5, 6] (fun i _ wr => ∃ k : Nat, k ≤ m ∧ i = .int .i64 (64 * (k : Int)) ∧ Hid (wr.rowOf w1.heap.size = tab .u32 8 (hs T k)) ∧ w1.heap.size + 1 ≤ wr.heap.size ∧ Below w1.heap.size w1 wr) (fun i _ _ => 64 * m - (intOf i).toNat)
  case atStart => exact ⟨0, by omega, rfl, R1, by simp, B1⟩
  case round =>
    clear R1 B1
    obtain ⟨k, hk, rfl, R1, hs1, hbel⟩ := hrel
    obtain ⟨f, hf⟩ : ∃ f, f = hs T k := ⟨_, rfl⟩
    have hfb : ∀ i, i < 8 → B32 (f i) := fun i _ => by rw [hf]; exact hs_bd T k i
    by_cases hlt : k < m
    · have c1 : 64 * (k : Int) + 64 ≤ T.size := by omega
      have c3 : 64 * k + 64 ≤ T.size := by omega
      have c4 : (64 * (k : Int)).toNat = 64 * k := by omega
      have c5 : (64 * (k : Int) + 64).toNat = 64 * k + 64 := by omega
      have c6 : (T.size : Int) ≤ 200000 := by omega
      have hz : (T.extract (64 * k) (64 * k + 64)).size = 64 := by rw [ByteArray.size_extract]; omega
      obtain ⟨W, hW⟩ : ∃ W, W = wl (fun i => sb (T.extract (64 * k) (64 * k + 64)) i) 64 := ⟨_, rfl⟩
      have hWb : ∀ i, i < 64 → B32 (W i) := fun i _ => by rw [hW]; exact wl_bd (sb_B8 _) 64 i
      have HN : Hid (mixF W f = hs T (k + 1)) := Hid.mk (by rw [hW, hf, mixF_block]; rfl)
      rw [← hf] at R1
      have HWB : Hid _ := hWb
      have HFB : Hid _ := hfb
      have HW : Hid _ := hW
      clear hf hfb hWb hW
      go_wp2_with (first
        | (go_at_call 170; have M := schedule_any (T.extract (64 * k) (64 * k + 64)) hz wr; with_reducible refine M.mono ?_; clear M; rintro e w2 ⟨rfl, hb2⟩; rw [← HW.out]; have R2 : w2.rowOf w1.heap.size = tab .u32 8 f := (by rw [below_row hb2 (by rw [R1.out, tab_size]; omega)]; exact R1.out); have s2 := hb2.size; have hl2 : w1.heap.size < w2.heap.size := (by omega); have B2 := hbel.trans (hb2.mono (by omega)))
        | (refine wpl_store rtW rfl _ _ rfl w2.heap.size rfl (tab .u32 64 W) rfl ?_ (tab_size _ _ _) (tab_all _ _ _) (w2.alloc (c64 W)) ?_ ?_; (focus (simp [go_sem]; done)); (focus (simp [go_sem]; done)); have B3 := B2.alloc (by omega) (c64 W); have R3 : (w2.alloc (c64 W)).rowOf w1.heap.size = tab .u32 8 f := (by rw [below_row (by_alloc w2 _) (by rw [R2, tab_size]; omega)]; exact R2))
        | (refine wpl_load rtS rfl _ rfl w1.heap.size rfl (tab .u32 8 f) ?_ (tab_size _ _ _) ?_; (focus (exact R3)))
        | (refine wpl_load rtW rfl _ rfl w2.heap.size rfl (tab .u32 64 W) ?_ (tab_size _ _ _) ?_; (focus (simp [go_sem]; done)))
        | (go_at_call 171; have M := dmixed_any f W HFB.out HWB.out (w2.alloc (c64 W)) (hT1.below B3); with_reducible refine M.mono ?_; clear M; rintro e w3 ⟨rfl, hb3⟩; have R4 : w3.rowOf w1.heap.size = tab .u32 8 f := (by rw [below_row hb3 (by rw [R3, tab_size]; omega)]; exact R3); have s3 := hb3.size; have B4 := B3.trans (hb3.mono (by simp; omega)))
        | (refine wpl_store rtS rfl _ _ rfl w1.heap.size rfl (tab .u32 8 (mixF W f)) rfl ?_ (tab_size _ _ _) (tab_all _ _ _) _ rfl ?_; (focus (rw [R4, tab_size]))))
      go_roundw
      case rel =>
        refine ⟨k + 1, by omega, by go_num, Hid.mk (by rw [rowOf_setRow_same (by rw [R4, tab_size]; omega), HN.out]), ?_, below_setRow B4 (Nat.le_refl _) _⟩
        simp at s3; simp [go_sem]; omega
      case measure => simp [intOf]; omega
    · have hk' : k = m := by omega
      subst hk'
      have c1 : ¬ 64 * (k : Int) + 64 ≤ T.size := by omega
      rw [← hf] at R1
      have HE : Hid (dig f 8 = shaF t) := Hid.mk (by rw [hf, HTP.out, HSH.out])
      have HFB : Hid _ := hfb
      clear hf hfb
      go_wp2_with (first
        | (refine wpl_load rtS rfl _ rfl w1.heap.size rfl (tab .u32 8 f) ?_ (tab_size _ _ _) ?_; (focus (exact R1.out)))
        | (go_at_call 172; have M := dtext_any f HFB.out wr; with_reducible refine M.mono ?_; clear M; rintro e w2 ⟨rfl, hb2⟩; rw [HE.out]))
      go_ret
      exact ⟨rfl, below_lift hb1 hb1.size (hbel.trans (hb2.mono (by omega)))⟩
end Go.Proofs.YteghoooelgcpkaaGreatDoor
namespace Go.Msg
open Go.RowKit
theorem xor8_zero {v : Int} (h : 0 ≤ v ∧ v < 256) : bits .xor .u8 0 v = v := by
  obtain ⟨a, rfl⟩ : ∃ a : Nat, v = a := ⟨v.toNat, by omega⟩
  have := bits_xor_nat .u8 8 (by decide) wraps_u8 0 a (by decide) (by omega)
  rw [Nat.zero_xor] at this
  exact this
end Go.Msg
namespace Go.Proofs.YteghoooelgcpkaaGreatDoor
open Go.RowKit Go.Msg
@[go_sem] theorem zeroB64 : #[Value.int IntKind.u8 0, Value.int IntKind.u8 0, Value.int IntKind.u8 0, Value.int IntKind.u8 0, Value.int IntKind.u8 0, Value.int IntKind.u8 0, Value.int IntKind.u8 0, Value.int IntKind.u8 0, Value.int IntKind.u8 0, Value.int IntKind.u8 0, Value.int IntKind.u8 0, Value.int IntKind.u8 0, Value.int IntKind.u8 0, Value.int IntKind.u8 0, Value.int IntKind.u8 0, Value.int IntKind.u8 0, Value.int IntKind.u8 0, Value.int IntKind.u8 0, Value.int IntKind.u8 0, Value.int IntKind.u8 0, Value.int IntKind.u8 0, Value.int IntKind.u8 0, Value.int IntKind.u8 0, Value.int IntKind.u8 0, Value.int IntKind.u8 0, Value.int IntKind.u8 0, Value.int IntKind.u8 0, Value.int IntKind.u8 0, Value.int IntKind.u8 0, Value.int IntKind.u8 0, Value.int IntKind.u8 0, Value.int IntKind.u8 0, Value.int IntKind.u8 0, Value.int IntKind.u8 0, Value.int IntKind.u8 0, Value.int IntKind.u8 0, Value.int IntKind.u8 0, Value.int IntKind.u8 0, Value.int IntKind.u8 0, Value.int IntKind.u8 0, Value.int IntKind.u8 0, Value.int IntKind.u8 0, Value.int IntKind.u8 0, Value.int IntKind.u8 0, Value.int IntKind.u8 0, Value.int IntKind.u8 0, Value.int IntKind.u8 0, Value.int IntKind.u8 0, Value.int IntKind.u8 0, Value.int IntKind.u8 0, Value.int IntKind.u8 0, Value.int IntKind.u8 0, Value.int IntKind.u8 0, Value.int IntKind.u8 0, Value.int IntKind.u8 0, Value.int IntKind.u8 0, Value.int IntKind.u8 0, Value.int IntKind.u8 0, Value.int IntKind.u8 0, Value.int IntKind.u8 0, Value.int IntKind.u8 0, Value.int IntKind.u8 0, Value.int IntKind.u8 0, Value.int IntKind.u8 0] = tab .u8 64 (fun _ => 0) := by rw [tab_eq]; rfl
abbrev d64 (f : Nat → Int) : Obj := .cells (tab .u8 64 f) 171
set_option maxRecDepth 4000 in
set_option maxHeartbeats 2000000 in
theorem veiled_any (k : ByteArray) (hk : k.size ≤ 64) (v : Int) (hv : 0 ≤ v ∧ v < 256) (w : World) :
    Calls Tryz.prog 138 #[.string k, .int .u8 v] w fun e w' => e = .returned (.string (veil k v)) ∧ Below w.heap.size w w' := by
  have HV : Hid _ := hv
  clear hv
  go_enter Tryz.func138, Tryz.ntmps138
  go_wp2
  go_loopw [6] (fun i wr => ∃ j n : Nat, j ≤ 64 ∧ i = .int .i64 j ∧ wr = (w.alloc (d64 (fstn j (fun _ => v)))).dr n) (fun i _ => 64 - (intOf i).toNat)
  case atStart => exact ⟨0, _, by omega, rfl, by rw [fstn_zero]; exact (World.dr_self _).symm⟩
  case round =>
    obtain ⟨j, n, hj, rfl, rfl⟩ := hrel
    by_cases hlt : j < 64
    · have c1 : (j : Int) < 64 := by omega
      obtain ⟨f, hf⟩ : ∃ f, f = fstn j (fun _ => v) := ⟨_, rfl⟩
      have HF : Hid (upd f j v = fstn (j + 1) (fun _ => v)) := Hid.mk (by rw [hf]; exact fstn_succ j (fun _ => v))
      rw [← hf]
      clear hf
      go_wp2
      go_roundw
      case rel => exact ⟨j + 1, _, by omega, by go_num, by rw [← HF.out]⟩
      case measure => simp [intOf]; omega
    · have hj' : j = 64 := by omega
      subst hj'
      rw [show ((64 : Nat) : Int) = 64 from rfl]
      obtain ⟨G, hG⟩ : ∃ G : Nat → Int, G = fun i => bits .xor .u8 v (sb k i) := ⟨_, rfl⟩
      have e0 : d64 (fstn 64 (fun _ => v)) = d64 (thro 0 G (fun _ => v)) := by show Obj.cells _ _ = Obj.cells _ _; rw [thro_zero]; congr 1; exact tab_congr fun i hi => by simp [fstn, hi]
      have HGE : Hid (∀ i, i < 64 → thro k.size G (fun _ => v) i = bits .xor .u8 (sb k i) v) := Hid.mk (fun i _ => by
        unfold thro
        by_cases h : i < k.size
        · rw [if_pos h, hG]; exact xor8_comm _ _
        · rw [if_neg h, sb_past k i (by omega), xor8_zero HV.out])
      have HG : Hid (∀ i, bits .xor .u8 v (sb k i) = G i) := Hid.mk (fun i => by rw [hG])
      rw [e0]
      clear hG e0
      go_wp2
      go_loopw [7] (fun i wr => ∃ j n : Nat, j ≤ k.size ∧ i = .int .i64 j ∧ wr = (w.alloc (d64 (thro j G (fun _ => v)))).dr n) (fun i _ => k.size - (intOf i).toNat)
      case atStart => exact ⟨0, _, by omega, rfl, rfl⟩
      case round =>
        obtain ⟨j, n, hj, rfl, rfl⟩ := hrel
        by_cases hlt : j < k.size
        · have c0 : (j : Int) < 64 := by omega
          have c1 : (j : Int) < k.size := by omega
          have c2 : j < 64 := by omega
          obtain ⟨f, hf⟩ : ∃ f, f = thro j G (fun _ => v) := ⟨_, rfl⟩
          have fj : f j = v := by rw [hf, thro_at]
          have hx : bits .xor .u8 v (k[j].toNat : Int) = G j := by rw [← sb_at k j hlt]; exact HG.out j
          have HF : Hid (upd f j (G j) = thro (j + 1) G (fun _ => v)) := Hid.mk (by rw [hf, thro_step])
          rw [← hf]
          clear hf
          go_wp2
          go_region
          go_wp2
          go_roundw
          case rel => exact ⟨j + 1, _, by omega, by go_num, by rw [← HF.out]⟩
          case measure => simp [intOf]; omega
        · have hj' : j = k.size := by omega
          subst hj'
          have c1 : ¬ (k.size : Int) < k.size := by omega
          have HV2 : Hid (bstr 64 (fun i => thro k.size G (fun _ => v) (0 + i)) = veil k v) := Hid.mk (bstr_congr fun i hi => by rw [Nat.zero_add]; exact HGE.out i hi)
          by_cases h64 : k.size < 64
          · have c2 : (k.size : Int) < 64 := by omega
            go_wp2_with (refine wpl_convert rfl 112 9 5 _ rfl Tryz.underlying112 Tryz.underlying5 Tryz.underlying9 w.heap.size 0 64 64 rfl 64 (thro k.size G (fun _ => v)) ?_ (by decide) ?_; (focus (simp [go_sem]; done)); rw [HV2.out])
            go_ret
            exact ⟨rfl, below_dr (by_alloc w _) _⟩
          · have c2 : (k.size : Int) = 64 := by omega
            go_wp2_with (refine wpl_convert rfl 112 9 5 _ rfl Tryz.underlying112 Tryz.underlying5 Tryz.underlying9 w.heap.size 0 64 64 rfl 64 (thro k.size G (fun _ => v)) ?_ (by decide) ?_; (focus (simp [go_sem]; done)); rw [HV2.out])
            go_ret
            exact ⟨rfl, below_dr (by_alloc w _) _⟩
set_option maxHeartbeats 2000000 in
theorem dmac_any (k t : ByteArray) (hk : k.size ≤ 64) (ht : t.size ≤ 50000) (w : World) (hT : Tbl w) :
    Calls Tryz.prog 102 #[.string k, .string t] w fun e w' => e = .returned (.string (macF k t)) ∧ Below w.heap.size w w' := by
  have c0 : ¬ (k.size : Int) > 64 := by omega
  have z1 := veil_size k 54
  have z2 := veil_size k 92
  have z3 := shaF_size (veil k 54 ++ t)
  go_enter Tryz.func102, Tryz.ntmps102
  go_wp2_with (first
    | (go_at_call 138; have M := veiled_any k hk 54 (by decide) w; with_reducible refine M.mono ?_; clear M; rintro e w1 ⟨rfl, b1⟩; have y1 := b1.size; have T1 := hT.below b1)
    | (go_at_call 137; have M := dsum_any (veil k 54 ++ t) (by rw [ByteArray.size_append]; omega) w1 T1; with_reducible refine M.mono ?_; clear M; rintro e w2 ⟨rfl, b2⟩; have T2 := T1.below b2; have B2 := below_lift b1 y1 b2; have y2 := B2.size)
    | (go_at_call 138; have M := veiled_any k hk 92 (by decide) w2; with_reducible refine M.mono ?_; clear M; rintro e w3 ⟨rfl, b3⟩; have T3 := T2.below b3; have B3 := below_lift B2 y2 b3; have y3 := B3.size)
    | (go_at_call 137; have M := dsum_any (veil k 92 ++ shaF (veil k 54 ++ t)) (by rw [ByteArray.size_append]; omega) w3 T3; with_reducible refine M.mono ?_; clear M; rintro e w4 ⟨rfl, b4⟩))
  go_ret
  exact ⟨rfl, below_lift B3 y3 b4⟩
theorem be_one (x : Int) (h : 0 ≤ x ∧ x < 256) : be 1 x = b1 x := by
  simp only [be, ba_empty, Int.pow_zero, Int.ediv_one]
  rw [Int.emod_eq_of_lt h.1 h.2]
set_option maxHeartbeats 2000000 in
theorem derive_any (k t u : ByteArray) (n : Nat) (hk : k.size ≤ 64) (ht : t.size ≤ 1000) (hu : u.size ≤ 100) (hn : n ≤ 1000) (w : World) (hT : Tbl w) :
    Calls Tryz.prog 139 #[.string k, .string t, .string u, .int .i64 (n : Int)] w fun e w' => e = .returned (.string (hkdfF k t u n)) ∧ Below w.heap.size w w' := by
  go_enter Tryz.func139, Tryz.ntmps139
  go_wp2_with (go_at_call 102; refine (dmac_any k t hk (by omega) _ hT).mono ?_; rintro e w1 ⟨rfl, b1⟩)
  obtain ⟨s1, hs1⟩ : ∃ s, s = macF k t := ⟨_, rfl⟩
  have z1 : s1.size = 32 := by rw [hs1]; exact macF_size _ _
  have HS1 : Hid (s1 = macF k t) := hs1
  rw [← hs1]
  clear hs1
  have hT1 := hT.below b1
  go_loopw [10, 11, 12] (fun o l i wr => ∃ (a b : ByteArray) (j : Nat), o = .string a ∧ l = .string b ∧ i = .int .u32 ((j : Int) + 1) ∧ a.size = 32 * j ∧ b.size ≤ 32 ∧ a.size < n + 32 ∧ Hid (a = hkA s1 u j) ∧ Hid (b = hkT s1 u j) ∧ Tbl wr ∧ Below w.heap.size w wr) (fun o _ _ _ => n + 32 - slen o)
  case atStart => exact ⟨_, _, 0, rfl, rfl, rfl, rfl, by decide, by show 0 < n + 32; omega, Hid.mk rfl, Hid.mk rfl, hT1, b1⟩
  case round =>
    clear b1 hT1
    obtain ⟨a, b, j, rfl, rfl, rfl, ha, hb, han, HAV, HBV, hT1, hbel⟩ := hrel
    have hbs := hbel.size
    by_cases hlt : a.size < n
    · have c1 : (a.size : Int) < n := by omega
      have HA : Hid _ := ha
      have c2 : a.size ≤ 1000 := by omega
      have cj : (j : Int) ≤ 32 := by omega
      have HJ : Hid (be 1 ((j : Int) + 1) = b1 ((j : Int) + 1)) := Hid.mk (be_one _ (by omega))
      have zb : (be 1 ((j : Int) + 1)).size = 1 := be_size _ _
      clear ha
      go_wp2_with (first
        | (go_at_call 100; have M := otext1 ((j : Int) + 1) ⟨by omega, by omega⟩ wr; with_reducible refine M.mono ?_; clear M; rintro e w2 ⟨rfl, hb2⟩; have hT2 := hT1.below hb2; have B2 := below_lift hbel hbs hb2; have y2 := B2.size)
        | (go_at_call 102; refine (dmac_any s1 (b ++ u ++ be 1 ((j : Int) + 1)) ?_ ?_ _ hT2).mono ?_; (focus (omega)); (focus (simp [ByteArray.size_append]; omega)); rintro e w3 ⟨rfl, hb3⟩; obtain ⟨s2, hs2⟩ : ∃ s, s = macF s1 (b ++ u ++ be 1 ((j : Int) + 1)) := ⟨_, rfl⟩; have z2 : s2.size = 32 := (by rw [hs2]; exact macF_size _ _); rw [← hs2]; have HS2 : Hid _ := hs2; clear hs2; have x2 : s2.size ≤ 32 := (by omega)))
      go_roundw
      case rel => exact ⟨_, _, j + 1, rfl, rfl, by go_num, by rw [ByteArray.size_append, z2, HA.out]; omega, x2, by rw [ByteArray.size_append, z2]; omega, Hid.mk (by rw [hkA, ← HAV.out, hkT, ← HBV.out, HS2.out, HJ.out]), Hid.mk (by rw [hkT, ← HBV.out, HS2.out, HJ.out]), hT2.below hb3, below_lift B2 y2 hb3⟩
      case measure => simp [slen, ByteArray.size_append]; omega
    · have c1 : ¬ (a.size : Int) < n := by omega
      have c2 : (n : Int) ≤ a.size := by omega
      have c3 : a.size ≤ 2000 := by omega
      have hj : j = (n + 31) / 32 := by omega
      have HE : Hid (a.extract 0 n = hkdfF k t u n) := Hid.mk (by rw [hkdfF, HAV.out, ← HS1.out, ← hj])
      clear hj
      go_wp2
      go_ret
      exact ⟨congrArg (fun z => Ending.returned (Value.string z)) HE.out, hbel⟩
end Go.Proofs.YteghoooelgcpkaaGreatDoor
namespace Go.Msg
open Go.RowKit Go.Proofs.YteghoooelgcpkaaGreatDoor
def half (v : Nat → Int) (x y z n : Nat) : Nat → Int := upd (upd v x ((v x + v y) % 4294967296)) z (rr (xr (upd v x ((v x + v y) % 4294967296) z) (upd v x ((v x + v y) % 4294967296) x)) n)
theorem half_bd {v : Nat → Int} (h : ∀ i, B32 (v i)) (x y z n : Nat) (hn : n ≤ 32) : ∀ i, B32 (half v x y z n i) :=
  upd_bd (upd_bd h x (mod32 _)) z (rr_bd (xr_bd _ _) n hn)
def qst (v : Nat → Int) (a b c d : Nat) : Nat → Nat → Int
  | 0 => v
  | 1 => half v a b d 16
  | 2 => half (half v a b d 16) c d b 20
  | 3 => half (half (half v a b d 16) c d b 20) a b d 24
  | _ => half (half (half (half v a b d 16) c d b 20) a b d 24) c d b 25
def qr (v : Nat → Int) (a b c d : Nat) : Nat → Int := qst v a b c d 4
theorem qst_bd {v : Nat → Int} (h : ∀ i, B32 (v i)) (a b c d k : Nat) : ∀ i, B32 (qst v a b c d k i) := by
  have h1 := half_bd h a b d 16 (by decide)
  have h2 := half_bd h1 c d b 20 (by decide)
  have h3 := half_bd h2 a b d 24 (by decide)
  have h4 := half_bd h3 c d b 25 (by decide)
  match k with
  | 0 => exact h
  | 1 => exact h1
  | 2 => exact h2
  | 3 => exact h3
  | k + 4 => exact h4
def rdq (v : Nat → Int) (o : Nat) : Nat → Nat → Int
  | 0 => v
  | k + 1 => qr (rdq v o k) k (4 + (k + o) % 4) (8 + (k + 2 * o) % 4) (12 + (k + 3 * o) % 4)
theorem rdq_bd {v : Nat → Int} (h : ∀ i, B32 (v i)) (o k : Nat) : ∀ i, B32 (rdq v o k i) := by
  induction k with
  | zero => exact h
  | succ k ih => exact qst_bd ih _ _ _ _ 4
def rds (v : Nat → Int) : Nat → Nat → Int
  | 0 => v
  | r + 1 => rdq (rds v r) (r % 2) 4
theorem rds_bd {v : Nat → Int} (h : ∀ i, B32 (v i)) (r : Nat) : ∀ i, B32 (rds v r i) := by
  induction r with
  | zero => exact h
  | succ r ih => exact rdq_bd ih _ 4
def lword (b : Nat → Int) (i : Nat) : Int := b (4 * i) + 256 * b (4 * i + 1) + 65536 * b (4 * i + 2) + 16777216 * b (4 * i + 3)
theorem lword_bd {b : Nat → Int} (h : B8 b) (i : Nat) : B32 (lword b i) := by
  have h0 := h (4 * i); have h1 := h (4 * i + 1); have h2 := h (4 * i + 2); have h3 := h (4 * i + 3)
  unfold lword B32; omega
def sOpen : ByteArray := ⟨#[101, 120, 112, 97, 110, 100, 32, 51, 50, 45, 98, 121, 116, 101, 32, 107]⟩
def words0 (key nonce : ByteArray) : ByteArray := sOpen ++ key ++ bstr 4 (fun _ => 0) ++ nonce
def swords (key nonce : ByteArray) (n : Nat) : Nat → Int := fstn 16 (upd (lword (fun i => sb (words0 key nonce) i)) 12 (n : Int))
theorem swords_bd (key nonce : ByteArray) (n : Nat) (hn : n < 4294967296) (i : Nat) : B32 (swords key nonce n i) := by
  unfold swords fstn
  split
  · exact upd_bd (lword_bd (sb_B8 _)) 12 ⟨by omega, by omega⟩ i
  · exact ⟨by decide, by decide⟩
def swt (key nonce : ByteArray) (n i : Nat) : Int := (rds (swords key nonce n) 20 i + swords key nonce n i) % 4294967296
def le4 (x : Int) : ByteArray := b4 (x % 256) (x / 256 % 256) (x / 65536 % 256) (x / 16777216 % 256)
theorem le4_size (x : Int) : (le4 x).size = 4 := b4_size _ _ _ _
def ldig (f : Nat → Int) : Nat → ByteArray
  | 0 => ⟨#[]⟩
  | k + 1 => ldig f k ++ le4 (f k)
theorem ldig_size (f : Nat → Int) (k : Nat) : (ldig f k).size = 4 * k := by
  induction k with
  | zero => rfl
  | succ k ih => rw [ldig, ByteArray.size_append, ih, le4_size]; omega
def sblk (key nonce : ByteArray) (n : Nat) : ByteArray := ldig (swt key nonce n) 16
theorem sb_le4 (x : Int) (j : Nat) (hj : j < 4) : sb (le4 x) j = x / 256 ^ j % 256 := by
  unfold le4 b4
  rw [sb_bstr _ _ _ hj (by match j, hj with
    | 0, _ => simp; omega
    | 1, _ => simp; omega
    | 2, _ => simp; omega
    | 3, _ => simp; omega)]
  match j, hj with
  | 0, _ => simp
  | 1, _ => simp
  | 2, _ => simp
  | 3, _ => simp
theorem sb_ldig (f : Nat → Int) (k i : Nat) (hi : i < 4 * k) : sb (ldig f k) i = f (i / 4) / 256 ^ (i % 4) % 256 := by
  induction k with
  | zero => omega
  | succ k ih =>
    rw [ldig, sb_append, ldig_size]
    by_cases h : i < 4 * k
    · rw [if_pos h, ih h]
    · rw [if_neg h, sb_le4 _ _ (by omega), show i / 4 = k by omega, show i % 4 = i - 4 * k by omega]
def streamF (key nonce t : ByteArray) : ByteArray := bstr t.size (fun i => bits .xor .u8 (sb t i) (sb (sblk key nonce (i / 64)) (i % 64)))
theorem streamF_size (key nonce t : ByteArray) : (streamF key nonce t).size = t.size := bstr_size _ _
end Go.Msg
namespace Go.Msg
def tn (k : Nat) : Nat := [16, 20, 24, 25].getD k 0
def tq (k : Nat) : Int := [16, 12, 8, 7].getD k 0
end Go.Msg
namespace Go.Proofs.YteghoooelgcpkaaGreatDoor
open Go.RowKit Go.Msg
end Go.Proofs.YteghoooelgcpkaaGreatDoor
namespace Go.Msg
open Go.RowKit Go.Proofs.YteghoooelgcpkaaGreatDoor
theorem sOpen_size : sOpen.size = 16 := rfl
end Go.Msg
namespace Go.Proofs.YteghoooelgcpkaaGreatDoor
open Go.RowKit Go.Msg
end Go.Proofs.YteghoooelgcpkaaGreatDoor
namespace Go.Proofs.YteghoooelgcpkaaGreatDoor
open Go.RowKit Go.Msg
theorem cl_set {w W : World} {g N : Nat} {F : Nat → Int} {x : Nat} {z : Int} (h1 : ∀ j, j < N → W.cell? ⟨g, j, none⟩ = some (.int .u8 (F j))) (h2 : ∀ j, j < N → W.frozen? ⟨g, j, none⟩ = false) (hB : Below w.heap.size w W) (hx : x < N) (hg : w.heap.size ≤ g) :
    (∀ j, j < N → (W.setCell ⟨g, x, none⟩ (.int .u8 z)).cell? ⟨g, j, none⟩ = some (.int .u8 (upd F x z j))) ∧ (∀ j, j < N → (W.setCell ⟨g, x, none⟩ (.int .u8 z)).frozen? ⟨g, j, none⟩ = false) ∧ Below w.heap.size w (W.setCell ⟨g, x, none⟩ (.int .u8 z)) := by
  refine ⟨fun j hj => ?_, fun j hj => ?_, hB.setCell hg _⟩
  · by_cases e : j = x
    · rw [e, World.cell?_setCell_same _ _ _ (h1 x hx)]; simp only [upd, if_true]
    · rw [World.cell?_setCell_other _ _ _ _ (fun h => e (by have := congrArg Addr.off h; simpa using this.symm)), h1 j hj]; simp only [upd, e, if_false]
  · simp [h2 j hj]
end Go.Proofs.YteghoooelgcpkaaGreatDoor
namespace Go.Proofs.YteghoooelgcpkaaGreatDoor
open Go.RowKit Go.Msg
theorem rtQ : RowTy Tryz.prog 169 16 := ⟨by decide, by kernel_rfl, _, Tryz.underlying169, rfl⟩
@[go_sem] theorem zero16 : #[Value.int IntKind.u32 0, Value.int IntKind.u32 0, Value.int IntKind.u32 0, Value.int IntKind.u32 0, Value.int IntKind.u32 0, Value.int IntKind.u32 0, Value.int IntKind.u32 0, Value.int IntKind.u32 0, Value.int IntKind.u32 0, Value.int IntKind.u32 0, Value.int IntKind.u32 0, Value.int IntKind.u32 0, Value.int IntKind.u32 0, Value.int IntKind.u32 0, Value.int IntKind.u32 0, Value.int IntKind.u32 0] = tab .u32 16 (fun _ => 0) := by rw [tab_eq]; rfl
abbrev c16 (f : Nat → Int) : Obj := .cells (tab .u32 16 f) 169
set_option maxHeartbeats 1000000 in
theorem left_any (x n : Int) (hx : B32 x) (h0 : 1 ≤ n) (h1 : n ≤ 31) (w : World) : Calls Tryz.prog 187 #[.int .u32 x, .int .u64 n] w fun e w' => e = .returned (.int .u32 (rr x (32 - n.toNat))) ∧ w' = w := by
  obtain ⟨m, rfl⟩ : ∃ m : Nat, n = m := ⟨n.toNat, by omega⟩
  have t1 : (32 - (m : Int)).toNat = 32 - m := by omega
  have ho := rr_or hx (32 - m) (by omega)
  rw [show 32 - (32 - m) = m by omega] at ho
  have hcm : bits .or .u32 (x * 2 ^ m % 4294967296) (x / 2 ^ (32 - m)) = bits .or .u32 (x / 2 ^ (32 - m)) (x * 2 ^ m % 4294967296) := by simp only [bits, BitVec.or_comm]
  have ho2 : bits .or .u32 (x * 2 ^ m % 4294967296) (x / 2 ^ (32 - m)) = rr x (32 - m) := by rw [hcm, ho]
  clear ho hcm
  obtain ⟨hx0, hx1⟩ := hx
  go_enter Tryz.func187, Tryz.ntmps187
  go_wp2
  go_ret
  exact ⟨rfl, rfl⟩
set_option maxRecDepth 4000 in
set_option maxHeartbeats 8000000 in
theorem wround_any (v : Nat → Int) (hv : ∀ i, B32 (v i)) (o : Nat) (ho : o ≤ 1) (w : World) :
    Calls Tryz.prog 173 #[.agg (tab .u32 16 v), .int .i64 (o : Int)] w fun e w' => e = .returned (.agg (tab .u32 16 (rdq v o 4))) ∧ Below w.heap.size w w' := by
  have HV : Hid _ := hv
  have co : (o : Int) ≤ 1 := by omega
  clear hv
  go_enter Tryz.func173, Tryz.ntmps173
  go_wp2
  go_loopw [5, 6, 7, 8] (fun i _ _ _ wr => ∃ k n : Nat, k ≤ 4 ∧ i = .int .i64 k ∧ wr = ((w.alloc (c16 (rdq v o k))).alloc (c16 (fun _ => 0))).dr n) (fun i _ _ _ _ => 4 - (intOf i).toNat)
  case atStart => exact ⟨0, _, by omega, rfl, (World.dr_self _).symm⟩
  case round =>
    obtain ⟨a, n, ha, rfl, rfl⟩ := hrel
    by_cases hlt : a < 4
    · have ca : (a : Int) < 4 := by omega
      have ca2 : (a : Int) < 16 := by omega
      have la : a < 16 := by omega
      obtain ⟨pb, hpb⟩ : ∃ p, p = (a + o) % 4 := ⟨_, rfl⟩
      obtain ⟨pc, hpc⟩ : ∃ p, p = (a + 2 * o) % 4 := ⟨_, rfl⟩
      obtain ⟨pd, hpd⟩ : ∃ p, p = (a + 3 * o) % 4 := ⟨_, rfl⟩
      obtain ⟨b, hb⟩ : ∃ p, p = 4 + pb := ⟨_, rfl⟩
      obtain ⟨c, hc⟩ : ∃ p, p = 8 + pc := ⟨_, rfl⟩
      obtain ⟨d, hd⟩ : ∃ p, p = 12 + pd := ⟨_, rfl⟩
      have e1 : ((a : Int) + o) % 4 = (pb : Int) := by omega
      have e2 : ((a : Int) + 2 * o) % 4 = (pc : Int) := by omega
      have e3 : ((a : Int) + 3 * o) % 4 = (pd : Int) := by omega
      have E1 : 4 + (pb : Int) = (b : Int) := by omega
      have E2 : 8 + (pc : Int) = (c : Int) := by omega
      have E3 : 12 + (pd : Int) = (d : Int) := by omega
      have lb : b < 16 := by omega
      have lc : c < 16 := by omega
      have ld : d < 16 := by omega
      have cb : (b : Int) < 16 := by omega
      have cc : (c : Int) < 16 := by omega
      have cd : (d : Int) < 16 := by omega
      have lpb : (pb : Int) < 4 := by omega
      have lpc : (pc : Int) < 4 := by omega
      have lpd : (pd : Int) < 4 := by omega
      obtain ⟨f0, hf0⟩ : ∃ f, f = rdq v o a := ⟨_, rfl⟩
      have HB0 : Hid (∀ i, B32 (f0 i)) := Hid.mk (by rw [hf0]; exact rdq_bd HV.out o a)
      have HQ : Hid (qr f0 a b c d = rdq v o (a + 1)) := Hid.mk (by rw [hf0, hb, hc, hd, hpb, hpc, hpd]; rfl)
      rw [← hf0]
      clear hf0 hb hc hd hpb hpc hpd
      go_wp2_with fail
      obtain ⟨al0, ah0⟩ := HB0.out a
      obtain ⟨bl0, bh0⟩ := HB0.out b
      go_region
      obtain ⟨F0, hF0⟩ : ∃ F, F = upd f0 a ((f0 a + f0 b) % 4294967296) := ⟨_, rfl⟩
      have HC0 : Hid (∀ i, B32 (F0 i)) := Hid.mk (by rw [hF0]; exact upd_bd HB0.out _ (mod32 _))
      obtain ⟨X0, hX0⟩ : ∃ X, X = xr (F0 d) (F0 a) := ⟨_, rfl⟩
      have HX0 : Hid (B32 X0) := Hid.mk (by rw [hX0]; exact xr_bd _ _)
      have ex0 : bits .xor .u32 (F0 d) (F0 a) = X0 := hX0.symm
      have HN0 : Hid (upd F0 d (rr X0 16) = half f0 a b d 16) := Hid.mk (by rw [hX0, hF0]; rfl)
      rw [← hF0]
      clear hF0 hX0
      go_wp2_with fail
      refine wp_region_quiet_tail 10 (fun w' => ∃ m, w' = ((w.alloc (c16 F0)).alloc (c16 (fun _ => 0))).dr m) mixed_any (by kernel_rfl) ⟨_, rfl⟩ ?_
      simp only [List.take_succ_cons, List.take_zero, List.drop_succ_cons, List.drop_zero]
      iterate 8 (go_big_quiet_step (fail))
      go_big_quiet_step ((go_at_call 187; exact (left_any X0 _ HX0.out (by decide) (by decide) _).mono fun _ _ h => ⟨h.1, _, h.2⟩))
      go_big_quiet_step (fail)
      refine wpQuiet_nil ?_
      rintro w' ⟨m0, rfl⟩
      go_wp2_with fail
      rw [show rr X0 (32 - Int.toNat 16) = rr X0 16 from rfl, HN0.out]
      obtain ⟨f1, hf1⟩ : ∃ g, g = half f0 a b d 16 := ⟨_, rfl⟩
      have HB1 : Hid (∀ i, B32 (f1 i)) := Hid.mk (by rw [hf1]; exact half_bd HB0.out _ _ _ _ (by decide))
      have HH0 : Hid _ := hf1
      rw [← hf1]
      clear hf1 ex0
      obtain ⟨cl1, ch1⟩ := HB1.out c
      obtain ⟨dl1, dh1⟩ := HB1.out d
      go_region
      obtain ⟨F1, hF1⟩ : ∃ F, F = upd f1 c ((f1 c + f1 d) % 4294967296) := ⟨_, rfl⟩
      have HC1 : Hid (∀ i, B32 (F1 i)) := Hid.mk (by rw [hF1]; exact upd_bd HB1.out _ (mod32 _))
      obtain ⟨X1, hX1⟩ : ∃ X, X = xr (F1 b) (F1 c) := ⟨_, rfl⟩
      have HX1 : Hid (B32 X1) := Hid.mk (by rw [hX1]; exact xr_bd _ _)
      have ex1 : bits .xor .u32 (F1 b) (F1 c) = X1 := hX1.symm
      have HN1 : Hid (upd F1 b (rr X1 20) = half f1 c d b 20) := Hid.mk (by rw [hX1, hF1]; rfl)
      rw [← hF1]
      clear hF1 hX1
      go_wp2_with fail
      refine wp_region_quiet_tail 10 (fun w' => ∃ m, w' = ((w.alloc (c16 F1)).alloc (c16 (fun _ => 0))).dr m) mixed_any (by kernel_rfl) ⟨_, rfl⟩ ?_
      simp only [List.take_succ_cons, List.take_zero, List.drop_succ_cons, List.drop_zero]
      iterate 8 (go_big_quiet_step (fail))
      go_big_quiet_step ((go_at_call 187; exact (left_any X1 _ HX1.out (by decide) (by decide) _).mono fun _ _ h => ⟨h.1, _, h.2⟩))
      go_big_quiet_step (fail)
      refine wpQuiet_nil ?_
      rintro w' ⟨m1, rfl⟩
      go_wp2_with fail
      rw [show rr X1 (32 - Int.toNat 12) = rr X1 20 from rfl, HN1.out]
      obtain ⟨f2, hf2⟩ : ∃ g, g = half f1 c d b 20 := ⟨_, rfl⟩
      have HB2 : Hid (∀ i, B32 (f2 i)) := Hid.mk (by rw [hf2]; exact half_bd HB1.out _ _ _ _ (by decide))
      have HH1 : Hid _ := hf2
      rw [← hf2]
      clear hf2 ex1
      obtain ⟨al2, ah2⟩ := HB2.out a
      obtain ⟨bl2, bh2⟩ := HB2.out b
      go_region
      obtain ⟨F2, hF2⟩ : ∃ F, F = upd f2 a ((f2 a + f2 b) % 4294967296) := ⟨_, rfl⟩
      have HC2 : Hid (∀ i, B32 (F2 i)) := Hid.mk (by rw [hF2]; exact upd_bd HB2.out _ (mod32 _))
      obtain ⟨X2, hX2⟩ : ∃ X, X = xr (F2 d) (F2 a) := ⟨_, rfl⟩
      have HX2 : Hid (B32 X2) := Hid.mk (by rw [hX2]; exact xr_bd _ _)
      have ex2 : bits .xor .u32 (F2 d) (F2 a) = X2 := hX2.symm
      have HN2 : Hid (upd F2 d (rr X2 24) = half f2 a b d 24) := Hid.mk (by rw [hX2, hF2]; rfl)
      rw [← hF2]
      clear hF2 hX2
      go_wp2_with fail
      refine wp_region_quiet_tail 10 (fun w' => ∃ m, w' = ((w.alloc (c16 F2)).alloc (c16 (fun _ => 0))).dr m) mixed_any (by kernel_rfl) ⟨_, rfl⟩ ?_
      simp only [List.take_succ_cons, List.take_zero, List.drop_succ_cons, List.drop_zero]
      iterate 8 (go_big_quiet_step (fail))
      go_big_quiet_step ((go_at_call 187; exact (left_any X2 _ HX2.out (by decide) (by decide) _).mono fun _ _ h => ⟨h.1, _, h.2⟩))
      go_big_quiet_step (fail)
      refine wpQuiet_nil ?_
      rintro w' ⟨m2, rfl⟩
      go_wp2_with fail
      rw [show rr X2 (32 - Int.toNat 8) = rr X2 24 from rfl, HN2.out]
      obtain ⟨f3, hf3⟩ : ∃ g, g = half f2 a b d 24 := ⟨_, rfl⟩
      have HB3 : Hid (∀ i, B32 (f3 i)) := Hid.mk (by rw [hf3]; exact half_bd HB2.out _ _ _ _ (by decide))
      have HH2 : Hid _ := hf3
      rw [← hf3]
      clear hf3 ex2
      obtain ⟨cl3, ch3⟩ := HB3.out c
      obtain ⟨dl3, dh3⟩ := HB3.out d
      go_region
      obtain ⟨F3, hF3⟩ : ∃ F, F = upd f3 c ((f3 c + f3 d) % 4294967296) := ⟨_, rfl⟩
      have HC3 : Hid (∀ i, B32 (F3 i)) := Hid.mk (by rw [hF3]; exact upd_bd HB3.out _ (mod32 _))
      obtain ⟨X3, hX3⟩ : ∃ X, X = xr (F3 b) (F3 c) := ⟨_, rfl⟩
      have HX3 : Hid (B32 X3) := Hid.mk (by rw [hX3]; exact xr_bd _ _)
      have ex3 : bits .xor .u32 (F3 b) (F3 c) = X3 := hX3.symm
      have HN3 : Hid (upd F3 b (rr X3 25) = half f3 c d b 25) := Hid.mk (by rw [hX3, hF3]; rfl)
      rw [← hF3]
      clear hF3 hX3
      go_wp2_with fail
      refine wp_region_quiet_tail 10 (fun w' => ∃ m, w' = ((w.alloc (c16 F3)).alloc (c16 (fun _ => 0))).dr m) mixed_any (by kernel_rfl) ⟨_, rfl⟩ ?_
      simp only [List.take_succ_cons, List.take_zero, List.drop_succ_cons, List.drop_zero]
      iterate 8 (go_big_quiet_step (fail))
      go_big_quiet_step ((go_at_call 187; exact (left_any X3 _ HX3.out (by decide) (by decide) _).mono fun _ _ h => ⟨h.1, _, h.2⟩))
      go_big_quiet_step (fail)
      refine wpQuiet_nil ?_
      rintro w' ⟨m3, rfl⟩
      go_wp2
      go_roundw
      case rel => exact ⟨a + 1, _, by omega, by go_num, by rw [HN3.out, ← HQ.out, show qr f0 a b c d = half f3 c d b 25 from by rw [HH2.out, HH1.out, HH0.out]; rfl]⟩
      case measure => simp [intOf]; omega
    · have ha' : a = 4 := by omega
      subst ha'
      obtain ⟨F, hF⟩ : ∃ F, F = rdq v o 4 := ⟨_, rfl⟩
      rw [← hF]
      have HE : Hid (F = rdq v o 4) := hF
      clear hF
      go_wp2_with (first | (refine wpl_load rtQ rfl _ rfl _ rfl (tab .u32 16 F) ?_ (tab_size _ _ _) ?_; (focus (first | (simp [go_sem]; done) | (simp (disch := first | (simp [go_sem]; done) | (simp [go_sem]; omega)) [go_sem]; done)))) | (refine wpl_store rtQ rfl _ _ rfl _ rfl (tab .u32 16 F) rfl ?_ (tab_size _ _ _) (tab_all _ _ _) (((w.alloc (c16 F)).alloc (c16 F)).dr n) ?_ ?_; (focus (first | (simp [go_sem]; done) | (simp (disch := first | (simp [go_sem]; done) | (simp [go_sem]; omega)) [go_sem]; done))); (focus (first | (simp [go_sem]; done) | (simp (disch := first | (simp [go_sem]; done) | (simp [go_sem]; omega)) [go_sem]; done)))))
      exact bodyPost_ret (v := .agg (tab .u32 16 F)) (by rw [results_row rtQ Tryz.results173 _ _ (w.heap.size + 1) rfl (by first | (simp [go_sem]; done) | (simp (disch := first | (simp [go_sem]; done) | (simp [go_sem]; omega)) [go_sem]; done))]; first | (simp [go_sem]; done) | (simp (disch := first | (simp [go_sem]; done) | (simp [go_sem]; omega)) [go_sem]; done)) rfl ⟨by rw [HE.out], below2 _ _ _ _⟩
end Go.Proofs.YteghoooelgcpkaaGreatDoor
