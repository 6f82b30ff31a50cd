import Derived.Test.YteghoooelgcpkabGreatDoorM10
namespace Go.Proofs.YteghoooelgcpkabGreatDoor
open Go.RowKit Go.Msg
theorem rtQ : RowTy Tryz.prog 179 16 := ⟨by decide, by kernel_rfl, _, Tryz.underlying179, rfl⟩
@[go_sem] theorem zero16 : #[Value.int IntKind.u32 0, Value.int IntKind.u32 0, Value.int IntKind.u32 0, Value.int IntKind.u32 0, Value.int IntKind.u32 0, Value.int IntKind.u32 0, Value.int IntKind.u32 0, Value.int IntKind.u32 0, Value.int IntKind.u32 0, Value.int IntKind.u32 0, Value.int IntKind.u32 0, Value.int IntKind.u32 0, Value.int IntKind.u32 0, Value.int IntKind.u32 0, Value.int IntKind.u32 0, Value.int IntKind.u32 0] = tab .u32 16 (fun _ => 0) := by rw [tab_eq]; rfl
abbrev c16 (f : Nat → Int) : Obj := .cells (tab .u32 16 f) 179
set_option maxHeartbeats 1000000 in
theorem left_any (x n : Int) (hx : B32 x) (h0 : 1 ≤ n) (h1 : n ≤ 31) (w : World) : Calls Tryz.prog 175 #[.int .u32 x, .int .u64 n] w fun e w' => e = .returned (.int .u32 (rr x (32 - n.toNat))) ∧ w' = w := by
  obtain ⟨m, rfl⟩ : ∃ m : Nat, n = m := ⟨n.toNat, by omega⟩
  have t1 : (32 - (m : Int)).toNat = 32 - m := by omega
  have ho := rr_or hx (32 - m) (by omega)
  rw [show 32 - (32 - m) = m by omega] at ho
  have hcm : bits .or .u32 (x * 2 ^ m % 4294967296) (x / 2 ^ (32 - m)) = bits .or .u32 (x / 2 ^ (32 - m)) (x * 2 ^ m % 4294967296) := by simp only [bits, BitVec.or_comm]
  have ho2 : bits .or .u32 (x * 2 ^ m % 4294967296) (x / 2 ^ (32 - m)) = rr x (32 - m) := by rw [hcm, ho]
  clear ho hcm
  obtain ⟨hx0, hx1⟩ := hx
  go_enter Tryz.func175, Tryz.ntmps175
  go_wp2
  go_ret
  exact ⟨rfl, rfl⟩
set_option maxRecDepth 4000 in
set_option maxHeartbeats 8000000 in
theorem wround_any (v : Nat → Int) (hv : ∀ i, B32 (v i)) (o : Nat) (ho : o ≤ 1) (w : World) :
    Calls Tryz.prog 159 #[.agg (tab .u32 16 v), .int .i64 (o : Int)] w fun e w' => e = .returned (.agg (tab .u32 16 (rdq v o 4))) ∧ Below w.heap.size w w' := by
  have HV : Hid _ := hv
  have co : (o : Int) ≤ 1 := by omega
  clear hv
  go_enter Tryz.func159, Tryz.ntmps159
  go_wp2
  go_loopw [5, 6, 7, 8] (fun i _ _ _ wr => ∃ k n : Nat, k ≤ 4 ∧ i = .int .i64 k ∧ wr = ((w.alloc (c16 (rdq v o k))).alloc (c16 (fun _ => 0))).dr n) (fun i _ _ _ _ => 4 - (intOf i).toNat)
  case atStart => exact ⟨0, _, by omega, rfl, (World.dr_self _).symm⟩
  case round =>
    obtain ⟨a, n, ha, rfl, rfl⟩ := hrel
    by_cases hlt : a < 4
    · have ca : (a : Int) < 4 := by omega
      have ca2 : (a : Int) < 16 := by omega
      have la : a < 16 := by omega
      obtain ⟨pb, hpb⟩ : ∃ p, p = (a + o) % 4 := ⟨_, rfl⟩
      obtain ⟨pc, hpc⟩ : ∃ p, p = (a + 2 * o) % 4 := ⟨_, rfl⟩
      obtain ⟨pd, hpd⟩ : ∃ p, p = (a + 3 * o) % 4 := ⟨_, rfl⟩
      obtain ⟨b, hb⟩ : ∃ p, p = 4 + pb := ⟨_, rfl⟩
      obtain ⟨c, hc⟩ : ∃ p, p = 8 + pc := ⟨_, rfl⟩
      obtain ⟨d, hd⟩ : ∃ p, p = 12 + pd := ⟨_, rfl⟩
      have e1 : ((a : Int) + o) % 4 = (pb : Int) := by omega
      have e2 : ((a : Int) + 2 * o) % 4 = (pc : Int) := by omega
      have e3 : ((a : Int) + 3 * o) % 4 = (pd : Int) := by omega
      have E1 : 4 + (pb : Int) = (b : Int) := by omega
      have E2 : 8 + (pc : Int) = (c : Int) := by omega
      have E3 : 12 + (pd : Int) = (d : Int) := by omega
      have lb : b < 16 := by omega
      have lc : c < 16 := by omega
      have ld : d < 16 := by omega
      have cb : (b : Int) < 16 := by omega
      have cc : (c : Int) < 16 := by omega
      have cd : (d : Int) < 16 := by omega
      have lpb : (pb : Int) < 4 := by omega
      have lpc : (pc : Int) < 4 := by omega
      have lpd : (pd : Int) < 4 := by omega
      obtain ⟨f0, hf0⟩ : ∃ f, f = rdq v o a := ⟨_, rfl⟩
      have HB0 : Hid (∀ i, B32 (f0 i)) := Hid.mk (by rw [hf0]; exact rdq_bd HV.out o a)
      have HQ : Hid (qr f0 a b c d = rdq v o (a + 1)) := Hid.mk (by rw [hf0, hb, hc, hd, hpb, hpc, hpd]; rfl)
      rw [← hf0]
      clear hf0 hb hc hd hpb hpc hpd
      go_wp2_with fail
      obtain ⟨al0, ah0⟩ := HB0.out a
      obtain ⟨bl0, bh0⟩ := HB0.out b
      go_region
      obtain ⟨F0, hF0⟩ : ∃ F, F = upd f0 a ((f0 a + f0 b) % 4294967296) := ⟨_, rfl⟩
      have HC0 : Hid (∀ i, B32 (F0 i)) := Hid.mk (by rw [hF0]; exact upd_bd HB0.out _ (mod32 _))
      obtain ⟨X0, hX0⟩ : ∃ X, X = xr (F0 d) (F0 a) := ⟨_, rfl⟩
      have HX0 : Hid (B32 X0) := Hid.mk (by rw [hX0]; exact xr_bd _ _)
      have ex0 : bits .xor .u32 (F0 d) (F0 a) = X0 := hX0.symm
      have HN0 : Hid (upd F0 d (rr X0 16) = half f0 a b d 16) := Hid.mk (by rw [hX0, hF0]; rfl)
      rw [← hF0]
      clear hF0 hX0
      go_wp2_with fail
      refine wp_region_quiet_tail 10 (fun w' => ∃ m, w' = ((w.alloc (c16 F0)).alloc (c16 (fun _ => 0))).dr m) mixed_any (by kernel_rfl) ⟨_, rfl⟩ ?_
      simp only [List.take_succ_cons, List.take_zero, List.drop_succ_cons, List.drop_zero]
      iterate 8 (go_big_quiet_step (fail))
      go_big_quiet_step ((go_at_call 175; exact (left_any X0 _ HX0.out (by decide) (by decide) _).mono fun _ _ h => ⟨h.1, _, h.2⟩))
      go_big_quiet_step (fail)
      refine wpQuiet_nil ?_
      rintro w' ⟨m0, rfl⟩
      go_wp2_with fail
      rw [show rr X0 (32 - Int.toNat 16) = rr X0 16 from rfl, HN0.out]
      obtain ⟨f1, hf1⟩ : ∃ g, g = half f0 a b d 16 := ⟨_, rfl⟩
      have HB1 : Hid (∀ i, B32 (f1 i)) := Hid.mk (by rw [hf1]; exact half_bd HB0.out _ _ _ _ (by decide))
      have HH0 : Hid _ := hf1
      rw [← hf1]
      clear hf1 ex0
      obtain ⟨cl1, ch1⟩ := HB1.out c
      obtain ⟨dl1, dh1⟩ := HB1.out d
      go_region
      obtain ⟨F1, hF1⟩ : ∃ F, F = upd f1 c ((f1 c + f1 d) % 4294967296) := ⟨_, rfl⟩
      have HC1 : Hid (∀ i, B32 (F1 i)) := Hid.mk (by rw [hF1]; exact upd_bd HB1.out _ (mod32 _))
      obtain ⟨X1, hX1⟩ : ∃ X, X = xr (F1 b) (F1 c) := ⟨_, rfl⟩
      have HX1 : Hid (B32 X1) := Hid.mk (by rw [hX1]; exact xr_bd _ _)
      have ex1 : bits .xor .u32 (F1 b) (F1 c) = X1 := hX1.symm
      have HN1 : Hid (upd F1 b (rr X1 20) = half f1 c d b 20) := Hid.mk (by rw [hX1, hF1]; rfl)
      rw [← hF1]
      clear hF1 hX1
      go_wp2_with fail
      refine wp_region_quiet_tail 10 (fun w' => ∃ m, w' = ((w.alloc (c16 F1)).alloc (c16 (fun _ => 0))).dr m) mixed_any (by kernel_rfl) ⟨_, rfl⟩ ?_
      simp only [List.take_succ_cons, List.take_zero, List.drop_succ_cons, List.drop_zero]
      iterate 8 (go_big_quiet_step (fail))
      go_big_quiet_step ((go_at_call 175; exact (left_any X1 _ HX1.out (by decide) (by decide) _).mono fun _ _ h => ⟨h.1, _, h.2⟩))
      go_big_quiet_step (fail)
      refine wpQuiet_nil ?_
      rintro w' ⟨m1, rfl⟩
      go_wp2_with fail
      rw [show rr X1 (32 - Int.toNat 12) = rr X1 20 from rfl, HN1.out]
      obtain ⟨f2, hf2⟩ : ∃ g, g = half f1 c d b 20 := ⟨_, rfl⟩
      have HB2 : Hid (∀ i, B32 (f2 i)) := Hid.mk (by rw [hf2]; exact half_bd HB1.out _ _ _ _ (by decide))
      have HH1 : Hid _ := hf2
      rw [← hf2]
      clear hf2 ex1
      obtain ⟨al2, ah2⟩ := HB2.out a
      obtain ⟨bl2, bh2⟩ := HB2.out b
      go_region
      obtain ⟨F2, hF2⟩ : ∃ F, F = upd f2 a ((f2 a + f2 b) % 4294967296) := ⟨_, rfl⟩
      have HC2 : Hid (∀ i, B32 (F2 i)) := Hid.mk (by rw [hF2]; exact upd_bd HB2.out _ (mod32 _))
      obtain ⟨X2, hX2⟩ : ∃ X, X = xr (F2 d) (F2 a) := ⟨_, rfl⟩
      have HX2 : Hid (B32 X2) := Hid.mk (by rw [hX2]; exact xr_bd _ _)
      have ex2 : bits .xor .u32 (F2 d) (F2 a) = X2 := hX2.symm
      have HN2 : Hid (upd F2 d (rr X2 24) = half f2 a b d 24) := Hid.mk (by rw [hX2, hF2]; rfl)
      rw [← hF2]
      clear hF2 hX2
      go_wp2_with fail
      refine wp_region_quiet_tail 10 (fun w' => ∃ m, w' = ((w.alloc (c16 F2)).alloc (c16 (fun _ => 0))).dr m) mixed_any (by kernel_rfl) ⟨_, rfl⟩ ?_
      simp only [List.take_succ_cons, List.take_zero, List.drop_succ_cons, List.drop_zero]
      iterate 8 (go_big_quiet_step (fail))
      go_big_quiet_step ((go_at_call 175; exact (left_any X2 _ HX2.out (by decide) (by decide) _).mono fun _ _ h => ⟨h.1, _, h.2⟩))
      go_big_quiet_step (fail)
      refine wpQuiet_nil ?_
      rintro w' ⟨m2, rfl⟩
      go_wp2_with fail
      rw [show rr X2 (32 - Int.toNat 8) = rr X2 24 from rfl, HN2.out]
      obtain ⟨f3, hf3⟩ : ∃ g, g = half f2 a b d 24 := ⟨_, rfl⟩
      have HB3 : Hid (∀ i, B32 (f3 i)) := Hid.mk (by rw [hf3]; exact half_bd HB2.out _ _ _ _ (by decide))
      have HH2 : Hid _ := hf3
      rw [← hf3]
      clear hf3 ex2
      obtain ⟨cl3, ch3⟩ := HB3.out c
      obtain ⟨dl3, dh3⟩ := HB3.out d
      go_region
      obtain ⟨F3, hF3⟩ : ∃ F, F = upd f3 c ((f3 c + f3 d) % 4294967296) := ⟨_, rfl⟩
      have HC3 : Hid (∀ i, B32 (F3 i)) := Hid.mk (by rw [hF3]; exact upd_bd HB3.out _ (mod32 _))
      obtain ⟨X3, hX3⟩ : ∃ X, X = xr (F3 b) (F3 c) := ⟨_, rfl⟩
      have HX3 : Hid (B32 X3) := Hid.mk (by rw [hX3]; exact xr_bd _ _)
      have ex3 : bits .xor .u32 (F3 b) (F3 c) = X3 := hX3.symm
      have HN3 : Hid (upd F3 b (rr X3 25) = half f3 c d b 25) := Hid.mk (by rw [hX3, hF3]; rfl)
      rw [← hF3]
      clear hF3 hX3
      go_wp2_with fail
      refine wp_region_quiet_tail 10 (fun w' => ∃ m, w' = ((w.alloc (c16 F3)).alloc (c16 (fun _ => 0))).dr m) mixed_any (by kernel_rfl) ⟨_, rfl⟩ ?_
      simp only [List.take_succ_cons, List.take_zero, List.drop_succ_cons, List.drop_zero]
      iterate 8 (go_big_quiet_step (fail))
      go_big_quiet_step ((go_at_call 175; exact (left_any X3 _ HX3.out (by decide) (by decide) _).mono fun _ _ h => ⟨h.1, _, h.2⟩))
      go_big_quiet_step (fail)
      refine wpQuiet_nil ?_
      rintro w' ⟨m3, rfl⟩
      go_wp2
      go_roundw
      case rel => exact ⟨a + 1, _, by omega, by go_num, by rw [HN3.out, ← HQ.out, show qr f0 a b c d = half f3 c d b 25 from by rw [HH2.out, HH1.out, HH0.out]; rfl]⟩
      case measure => simp [intOf]; omega
    · have ha' : a = 4 := by omega
      subst ha'
      obtain ⟨F, hF⟩ : ∃ F, F = rdq v o 4 := ⟨_, rfl⟩
      rw [← hF]
      have HE : Hid (F = rdq v o 4) := hF
      clear hF
      go_wp2_with (first | (refine wpl_load rtQ rfl _ rfl _ rfl (tab .u32 16 F) ?_ (tab_size _ _ _) ?_; (focus (first | (simp [go_sem]; done) | (simp (disch := first | (simp [go_sem]; done) | (simp [go_sem]; omega)) [go_sem]; done)))) | (refine wpl_store rtQ rfl _ _ rfl _ rfl (tab .u32 16 F) rfl ?_ (tab_size _ _ _) (tab_all _ _ _) (((w.alloc (c16 F)).alloc (c16 F)).dr n) ?_ ?_; (focus (first | (simp [go_sem]; done) | (simp (disch := first | (simp [go_sem]; done) | (simp [go_sem]; omega)) [go_sem]; done))); (focus (first | (simp [go_sem]; done) | (simp (disch := first | (simp [go_sem]; done) | (simp [go_sem]; omega)) [go_sem]; done)))))
      exact bodyPost_ret (v := .agg (tab .u32 16 F)) (by rw [results_row rtQ Tryz.results159 _ _ (w.heap.size + 1) rfl (by first | (simp [go_sem]; done) | (simp (disch := first | (simp [go_sem]; done) | (simp [go_sem]; omega)) [go_sem]; done))]; first | (simp [go_sem]; done) | (simp (disch := first | (simp [go_sem]; done) | (simp [go_sem]; omega)) [go_sem]; done)) rfl ⟨by rw [HE.out], below2 _ _ _ _⟩
end Go.Proofs.YteghoooelgcpkabGreatDoor
namespace Go.Msg
def blkB (v : Nat → Int) (i : Nat) : Int := (rds v 20 (i / 4) + v (i / 4)) % 4294967296 / 256 ^ (i % 4) % 256
theorem pow2_8 (m : Nat) : (2 : Int) ^ (8 * m) = 256 ^ m := by rw [Int.pow_mul]; rfl
end Go.Msg
namespace Go.Proofs.YteghoooelgcpkabGreatDoor
open Go.RowKit Go.Msg
theorem rtB : RowTy Tryz.prog 181 64 := ⟨by decide, by kernel_rfl, _, Tryz.underlying181, rfl⟩
theorem wround0 (v : Nat → Int) (hv : ∀ i, B32 (v i)) (w : World) : Calls Tryz.prog 159 #[.agg (tab .u32 16 v), .int .i64 0] w fun e w' => e = .returned (.agg (tab .u32 16 (rdq v 0 4))) ∧ Below w.heap.size w w' := wround_any v hv 0 (by omega) w
theorem wround1 (v : Nat → Int) (hv : ∀ i, B32 (v i)) (w : World) : Calls Tryz.prog 159 #[.agg (tab .u32 16 v), .int .i64 1] w fun e w' => e = .returned (.agg (tab .u32 16 (rdq v 1 4))) ∧ Below w.heap.size w w' := wround_any v hv 1 (by omega) w
theorem cell_of_row {w : World} {g N : Nat} {k : IntKind} {f : Nat → Int} (h : w.rowOf g = tab k N f) (i : Nat) (hi : i < N) : w.cell? ⟨g, i, none⟩ = some (.int k (f i)) := by
  rw [(cell_of_rowOf h i (by rw [tab_size]; exact hi)).1, tab_get _ _ _ _ hi]
theorem below_row_lt {V V' : World} {B g : Nat} (h : Below B V V') (hg : g < B) : V'.rowOf g = V.rowOf g := by unfold World.rowOf; rw [h.block g hg]
set_option maxRecDepth 4000 in
set_option maxHeartbeats 8000000 in
theorem wblock_any (v : Nat → Int) (hv : ∀ i, B32 (v i)) (w : World) :
    Calls Tryz.prog 133 #[.agg (tab .u32 16 v)] w fun e w' => e = .returned (.agg (tab .u8 64 (blkB v))) ∧ Below w.heap.size w w' := by
  have HV : Hid _ := hv
  clear hv
  go_enter Tryz.func133, Tryz.ntmps133
  go_wp2_with (first | (refine wpl_load rtQ rfl _ rfl _ rfl (tab .u32 16 v) ?_ (tab_size _ _ _) ?_; (focus (first | (simp [go_sem]; done) | (simp (disch := first | (simp [go_sem]; done) | (simp [go_sem]; omega)) [go_sem]; done)))) | (refine wpl_store rtQ rfl _ _ rfl _ rfl (tab .u32 16 v) rfl ?_ (tab_size _ _ _) (tab_all _ _ _) (((w.alloc (c16 v)).alloc (d64 (fun _ => 0))).alloc (c16 v)) ?_ ?_; (focus (first | (simp [go_sem]; done) | (simp (disch := first | (simp [go_sem]; done) | (simp [go_sem]; omega)) [go_sem]; done))); (focus (first | (simp [go_sem]; done) | (simp (disch := first | (simp [go_sem]; done) | (simp [go_sem]; omega)) [go_sem]; done)))))
  go_loopw [4] (fun i wr => ∃ (k n : Nat) (bs : List Obj), k ≤ 10 ∧ i = .int .i64 k ∧ wr = ((((w.alloc (c16 v)).alloc (d64 (fun _ => 0))).alloc (c16 (rds v (2 * k)))).exts bs).dr n) (fun i _ => 10 - (intOf i).toNat)
  case atStart => exact ⟨0, _, [], by omega, rfl, by rw [World.exts_nil, World.dr_self]; rfl⟩
  case round =>
    obtain ⟨k, n, bs, hk, rfl, rfl⟩ := hrel
    by_cases hlt : k < 10
    · have c1 : (k : Int) < 10 := by omega
      obtain ⟨f, hf⟩ : ∃ f, f = rds v (2 * k) := ⟨_, rfl⟩
      have HFB : Hid (∀ i, B32 (f i)) := Hid.mk (by rw [hf]; exact rds_bd HV.out _)
      obtain ⟨f1, hf1⟩ : ∃ g, g = rdq f 0 4 := ⟨_, rfl⟩
      have HFB1 : Hid (∀ i, B32 (f1 i)) := Hid.mk (by rw [hf1]; exact rdq_bd HFB.out _ _)
      have HF1 : Hid _ := hf1
      have HN : Hid (rdq f1 1 4 = rds v (2 * (k + 1))) := Hid.mk (by rw [hf1, hf, show 2 * (k + 1) = 2 * k + 1 + 1 by omega, rds, rds, show (2 * k + 1) % 2 = 1 by omega, show (2 * k) % 2 = 0 by omega])
      rw [← hf]
      clear hf hf1
      go_wp2_with (first
        | (refine wpl_load rtQ rfl _ rfl _ rfl (tab .u32 16 f) ?_ (tab_size _ _ _) ?_; (focus (first | (simp [go_sem]; done) | (simp (disch := first | (simp [go_sem]; done) | (simp [go_sem]; omega)) [go_sem]; done))))
        | (go_at_call 159; have M := wround0 f HFB.out (((((w.alloc (c16 v)).alloc (d64 (fun _ => 0))).alloc (c16 f)).exts bs).dr n); with_reducible refine M.mono ?_; clear M; rintro e w' ⟨rfl, hb1⟩; obtain ⟨bs1, n1, rfl⟩ := below_form2 hb1; rw [← HF1.out])
        | (refine wpl_store rtQ rfl _ _ rfl _ rfl (tab .u32 16 f1) rfl ?_ (tab_size _ _ _) (tab_all _ _ _) (((((w.alloc (c16 v)).alloc (d64 (fun _ => 0))).alloc (c16 f1)).exts bs1).dr n1) ?_ ?_; (focus (first | (simp [go_sem]; done) | (simp (disch := first | (simp [go_sem]; done) | (simp [go_sem]; omega)) [go_sem]; done))); (focus (first | (simp [go_sem]; done) | (simp (disch := first | (simp [go_sem]; done) | (simp [go_sem]; omega)) [go_sem]; done))))
        | (refine wpl_load rtQ rfl _ rfl _ rfl (tab .u32 16 f1) ?_ (tab_size _ _ _) ?_; (focus (first | (simp [go_sem]; done) | (simp (disch := first | (simp [go_sem]; done) | (simp [go_sem]; omega)) [go_sem]; done))))
        | (go_at_call 159; have M := wround1 f1 HFB1.out (((((w.alloc (c16 v)).alloc (d64 (fun _ => 0))).alloc (c16 f1)).exts bs1).dr n1); with_reducible refine M.mono ?_; clear M; rintro e w' ⟨rfl, hb2⟩; obtain ⟨bs2, n2, rfl⟩ := below_form2 hb2; rw [HN.out])
        | (refine wpl_store rtQ rfl _ _ rfl _ rfl (tab .u32 16 (rds v (2 * (k + 1)))) rfl ?_ (tab_size _ _ _) (tab_all _ _ _) (((((w.alloc (c16 v)).alloc (d64 (fun _ => 0))).alloc (c16 (rds v (2 * (k + 1))))).exts bs2).dr n2) ?_ ?_; (focus (first | (simp [go_sem]; done) | (simp (disch := first | (simp [go_sem]; done) | (simp [go_sem]; omega)) [go_sem]; done))); (focus (first | (simp [go_sem]; done) | (simp (disch := first | (simp [go_sem]; done) | (simp [go_sem]; omega)) [go_sem]; done)))))
      go_roundw
      case rel => exact ⟨k + 1, _, bs2, by omega, by go_num, rfl⟩
      case measure => simp [intOf]; omega
    · have hk' : k = 10 := by omega
      subst hk'
      rw [show ((10 : Nat) : Int) = 10 from rfl, show 2 * 10 = 20 from rfl]
      obtain ⟨V, hV⟩ : ∃ V, V = rds v 20 := ⟨_, rfl⟩
      have HVB : Hid (∀ i, B32 (V i)) := Hid.mk (by rw [hV]; exact rds_bd HV.out 20)
      have HG : Hid (∀ i, (V (i / 4) + v (i / 4)) % 4294967296 / 256 ^ (i % 4) % 256 = blkB v i) := Hid.mk (fun i => by rw [hV]; rfl)
      rw [← hV]
      clear hV
      have B3 := below3e w (c16 v) (d64 (fun _ => 0)) (c16 V) bs n
      have R0 : (((((w.alloc (c16 v)).alloc (d64 (fun _ => 0))).alloc (c16 V)).exts bs).dr n).rowOf w.heap.size = tab .u32 16 v := by simp [go_sem]
      have R1 : (((((w.alloc (c16 v)).alloc (d64 (fun _ => 0))).alloc (c16 V)).exts bs).dr n).rowOf (w.heap.size + 1) = tab .u8 64 (fun _ => 0) := by simp [go_sem]
      have R2 : (((((w.alloc (c16 v)).alloc (d64 (fun _ => 0))).alloc (c16 V)).exts bs).dr n).rowOf (w.heap.size + 1 + 1) = tab .u32 16 V := by simp [go_sem]
      have hsz : w.heap.size + 1 + 1 < (((((w.alloc (c16 v)).alloc (d64 (fun _ => 0))).alloc (c16 V)).exts bs).dr n).heap.size := by simp [go_sem]; omega
      generalize ((((w.alloc (c16 v)).alloc (d64 (fun _ => 0))).alloc (c16 V)).exts bs).dr n = W3 at B3 R0 R1 R2 hsz ⊢
      have HR0 : Hid _ := R0
      have HR1 : Hid _ := R1
      have HR2 : Hid _ := R2
      clear R0 R1 R2
      go_wp2
      go_loopw [6, 7] (fun i _ wr => ∃ j n : Nat, j ≤ 64 ∧ i = .int .i64 j ∧ wr = (W3.alloc (d64 (fstn j (blkB v)))).dr n) (fun i _ _ => 64 - (intOf i).toNat)
      case atStart => exact ⟨0, _, by omega, rfl, by rw [fstn_zero]; exact (World.dr_self _).symm⟩
      case round =>
        obtain ⟨j, n, hj, rfl, rfl⟩ := hrel
        by_cases hlt : j < 64
        · have c1 : (j : Int) < 64 := by omega
          obtain ⟨q, hq⟩ : ∃ q, q = j / 4 := ⟨_, rfl⟩
          obtain ⟨m, hm⟩ : ∃ m, m = j % 4 := ⟨_, rfl⟩
          have e1 : (j : Int) / 4 = (q : Int) := by omega
          have e2 : (j : Int) % 4 = (m : Int) := by omega
          have c2 : (q : Int) < 16 := by omega
          have c3 : q < 16 := by omega
          have c4 : (m : Int) < 4 := by omega
          have c5 : (8 * (m : Int)).toNat = 8 * m := by omega
          have y0 : W3.cell? ⟨w.heap.size, q, none⟩ = some (.int .u32 (v q)) := cell_of_row HR0.out q c3
          have y2 : W3.cell? ⟨w.heap.size + 1 + 1, q, none⟩ = some (.int .u32 (V q)) := cell_of_row HR2.out q c3
          obtain ⟨vl, vh⟩ := HV.out q
          obtain ⟨Vl, Vh⟩ := HVB.out q
          have hp : (0 : Int) < 2 ^ (8 * m) := Int.pow_pos (by omega)
          have HX : Hid ((V q + v q) % 4294967296 / 2 ^ (8 * m) % 256 = blkB v j) := Hid.mk (by rw [pow2_8, hm, hq]; exact HG.out j)
          obtain ⟨F, hF⟩ : ∃ F, F = fstn j (blkB v) := ⟨_, rfl⟩
          have HF : Hid (upd F j (blkB v j) = fstn (j + 1) (blkB v)) := Hid.mk (by rw [hF, fstn_succ])
          rw [← hF]
          have hl0 : w.heap.size < W3.heap.size := by omega
          clear hq hm hF
          go_wp2_with fail
          go_quiet (fail)
          go_wp2
          go_roundw
          case rel => exact ⟨j + 1, _, by omega, by go_num, by rw [HX.out, HF.out]⟩
          case measure => simp [intOf]; omega
        · have hj' : j = 64 := by omega
          subst hj'
          have e8 : d64 (fstn 64 (blkB v)) = d64 (blkB v) := by show Obj.cells _ _ = Obj.cells _ _; congr 1; exact tab_congr fun i hi => by simp [fstn, hi]
          rw [show ((64 : Nat) : Int) = 64 from rfl, e8]
          have R3 : ((W3.alloc (d64 (blkB v))).dr n).rowOf (w.heap.size + 1) = tab .u8 64 (fun _ => 0) := by rw [World.rowOf_dr, below_row (by_alloc W3 _) (by rw [HR1.out, tab_size]; omega)]; exact HR1.out
          have B4 : Below w.heap.size w ((W3.alloc (d64 (blkB v))).dr n) := below_dr (B3.alloc (by omega) _) _
          go_wp2_with (first
            | (refine wpl_load rtB rfl _ rfl W3.heap.size rfl (tab .u8 64 (blkB v)) ?_ (tab_size _ _ _) ?_; (focus (simp [go_sem]; done)))
            | (refine wpl_store rtB rfl _ _ rfl (w.heap.size + 1) rfl (tab .u8 64 (blkB v)) rfl ?_ (tab_size _ _ _) (tab_all _ _ _) _ rfl ?_; (focus (rw [R3, tab_size]))))
          refine bodyPost_ret (results_row rtB Tryz.results133 _ _ (w.heap.size + 1) rfl ?_) rfl ?_
          · rw [rowOf_setRow_same (by rw [R3, tab_size]; omega), tab_size]
          · rw [rowOf_setRow_same (by rw [R3, tab_size]; omega)]; exact ⟨rfl, below_setRow B4 (by omega) _⟩
end Go.Proofs.YteghoooelgcpkabGreatDoor
namespace Go.Msg
open Go.RowKit Go.Proofs.YteghoooelgcpkabGreatDoor
def lpart (b : Nat → Int) (k j : Nat) : Int := fstn k b (4 * j) + 256 * fstn k b (4 * j + 1) + 65536 * fstn k b (4 * j + 2) + 16777216 * fstn k b (4 * j + 3)
theorem fstn_lt {k i : Nat} (h : i < k) (b : Nat → Int) : fstn k b i = b i := by simp [fstn, h]
theorem fstn_ge {k i : Nat} (h : k ≤ i) (b : Nat → Int) : fstn k b i = 0 := by unfold fstn; rw [if_neg (by omega)]
theorem lpart_zero (b : Nat → Int) : lpart b 0 = fun _ => 0 := by funext j; simp [lpart, fstn]
theorem lpart_other (b : Nat → Int) (k j : Nat) (h : j ≠ k / 4) : lpart b (k + 1) j = lpart b k j := by
  have e : ∀ m, m < 4 → fstn (k + 1) b (4 * j + m) = fstn k b (4 * j + m) := fun m hm => by
    unfold fstn
    by_cases h1 : 4 * j + m < k
    · rw [if_pos h1, if_pos (by omega)]
    · rw [if_neg h1, if_neg (by omega)]
  have e0 : fstn (k + 1) b (4 * j) = fstn k b (4 * j) := e 0 (by omega)
  unfold lpart
  rw [e0, e 1 (by omega), e 2 (by omega), e 3 (by omega)]
theorem lpart_end (b : Nat → Int) (j : Nat) (h : j < 16) : lpart b 64 j = lword b j := by
  unfold lpart lword
  rw [fstn_lt (by omega), fstn_lt (by omega), fstn_lt (by omega), fstn_lt (by omega)]
theorem or_join {x y : Int} (i : Nat) (hi : i ≤ 24) (hx : 0 ≤ x ∧ x < 256) (hy : 0 ≤ y ∧ y < 2 ^ i) : bits .or .u32 y (x * 2 ^ i % 4294967296) = y + x * 2 ^ i := by
  have hp : (0 : Int) < 2 ^ i := Int.pow_pos (by omega)
  have hp2 : (2 : Int) ^ i ≤ 16777216 := by
    have h : 2 ^ i ≤ 2 ^ 24 := Nat.pow_le_pow_right (by decide) hi
    have h2 : (((2 ^ i : Nat)) : Int) ≤ ((2 ^ 24 : Nat) : Int) := by exact_mod_cast h
    rw [Int.natCast_pow] at h2
    exact h2
  have h1 : x * 2 ^ i ≤ 255 * 16777216 := Int.mul_le_mul (by omega) hp2 (by omega) (by omega)
  have h0 : 0 ≤ x * 2 ^ i := Int.mul_nonneg hx.1 (by omega)
  rw [Int.emod_eq_of_lt h0 (by omega)]
  have hcm : bits .or .u32 y (x * 2 ^ i) = bits .or .u32 (x * 2 ^ i) y := by simp only [bits, BitVec.or_comm]
  rw [hcm, bits_join .u32 32 (by decide) wraps_u32 i (x * 2 ^ i) y h0 (by simp) (by omega) hy.1 hy.2 (by omega), Int.add_comm]
theorem lpart_at (b : Nat → Int) (hb : B8 b) (k : Nat) : bits .or .u32 (lpart b k (k / 4)) (b k * 2 ^ (8 * (k % 4)) % 4294967296) = lpart b (k + 1) (k / 4) := by
  obtain ⟨q, m, rfl, hm⟩ : ∃ q m, k = 4 * q + m ∧ m < 4 := ⟨k / 4, k % 4, by omega, by omega⟩
  have h0 := hb (4 * q); have h1 := hb (4 * q + 1); have h2 := hb (4 * q + 2); have h3 := hb (4 * q + 3)
  rw [show (4 * q + m) / 4 = q by omega, show (4 * q + m) % 4 = m by omega]
  match m, hm with
  | 0, _ =>
    have e : lpart b (4 * q + 0) q = 0 := by unfold lpart; rw [fstn_ge (by omega), fstn_ge (by omega), fstn_ge (by omega), fstn_ge (by omega)]; rfl
    have e2 : lpart b (4 * q + 0 + 1) q = b (4 * q) := by unfold lpart; rw [fstn_lt (by omega), fstn_ge (by omega), fstn_ge (by omega), fstn_ge (by omega)]; omega
    rw [or_join 0 (by omega) (hb _) (by rw [e]; decide), e, e2]; simp
  | 1, _ =>
    have e : lpart b (4 * q + 1) q = b (4 * q) := by unfold lpart; rw [fstn_lt (by omega), fstn_ge (by omega), fstn_ge (by omega), fstn_ge (by omega)]; omega
    have e2 : lpart b (4 * q + 1 + 1) q = b (4 * q) + 256 * b (4 * q + 1) := by unfold lpart; rw [fstn_lt (by omega), fstn_lt (by omega), fstn_ge (by omega), fstn_ge (by omega)]; omega
    rw [or_join 8 (by omega) (hb _) (by rw [e]; omega), e, e2]; omega
  | 2, _ =>
    have e : lpart b (4 * q + 2) q = b (4 * q) + 256 * b (4 * q + 1) := by unfold lpart; rw [fstn_lt (by omega), fstn_lt (by omega), fstn_ge (by omega), fstn_ge (by omega)]; omega
    have e2 : lpart b (4 * q + 2 + 1) q = b (4 * q) + 256 * b (4 * q + 1) + 65536 * b (4 * q + 2) := by unfold lpart; rw [fstn_lt (by omega), fstn_lt (by omega), fstn_lt (by omega), fstn_ge (by omega)]; omega
    rw [or_join 16 (by omega) (hb _) (by rw [e]; omega), e, e2]; omega
  | 3, _ =>
    have e : lpart b (4 * q + 3) q = b (4 * q) + 256 * b (4 * q + 1) + 65536 * b (4 * q + 2) := by unfold lpart; rw [fstn_lt (by omega), fstn_lt (by omega), fstn_lt (by omega), fstn_ge (by omega)]; omega
    have e2 : lpart b (4 * q + 3 + 1) q = b (4 * q) + 256 * b (4 * q + 1) + 65536 * b (4 * q + 2) + 16777216 * b (4 * q + 3) := by unfold lpart; rw [fstn_lt (by omega), fstn_lt (by omega), fstn_lt (by omega), fstn_lt (by omega)]
    rw [or_join 24 (by omega) (hb _) (by rw [e]; omega), e, e2]; omega
theorem lpart_step (b : Nat → Int) (k : Nat) : upd (lpart b k) (k / 4) (lpart b (k + 1) (k / 4)) = lpart b (k + 1) := by
  funext j
  unfold upd
  by_cases h : j = k / 4
  · rw [if_pos h, h]
  · rw [if_neg h, lpart_other b k j h]
end Go.Msg
namespace Go.Proofs.YteghoooelgcpkabGreatDoor
open Go.RowKit Go.Msg
set_option maxRecDepth 4000 in
set_option maxHeartbeats 4000000 in
theorem wordsOf_any (t : ByteArray) (ht : t.size = 64) (w : World) :
    Calls Tryz.prog 132 #[.string t] w fun e w' => e = .returned (.agg (tab .u32 16 (lword (fun i => sb t i)))) ∧ Below w.heap.size w w' := by
  obtain ⟨bt, hbt⟩ : ∃ b : Nat → Int, b = fun i => sb t i := ⟨_, rfl⟩
  have hb8 : B8 bt := by rw [hbt]; exact sb_B8 t
  have HBT : Hid (bt = fun i => sb t i) := hbt
  rw [← hbt]
  clear hbt
  go_enter Tryz.func132, Tryz.ntmps132
  go_wp2
  go_loopw [4] (fun i wr => ∃ k n : Nat, k ≤ 64 ∧ i = .int .i64 k ∧ wr = ((w.alloc (c16 (fun _ => 0))).alloc (c16 (lpart bt k))).dr n) (fun i _ => 64 - (intOf i).toNat)
  case atStart => exact ⟨0, _, by omega, rfl, by rw [lpart_zero]; exact (World.dr_self _).symm⟩
  case round =>
    obtain ⟨k, n, hk, rfl, rfl⟩ := hrel
    by_cases hlt : k < 64
    · have c1 : (k : Int) < 64 := by omega
      have c0 : k < t.size := by omega
      obtain ⟨q, hq⟩ : ∃ q, q = k / 4 := ⟨_, rfl⟩
      obtain ⟨m, hm⟩ : ∃ m, m = k % 4 := ⟨_, rfl⟩
      have e1 : (k : Int) / 4 = (q : Int) := by omega
      have e2 : (k : Int) % 4 = (m : Int) := by omega
      have c2 : (q : Int) < 16 := by omega
      have c3 : q < 16 := by omega
      have c4 : (m : Int) < 4 := by omega
      have c5 : (8 * (m : Int)).toNat = 8 * m := by omega
      have HV : (t[k].toNat : Int) = bt k := by rw [HBT.out]; exact (sb_at t k c0).symm
      obtain ⟨f, hf⟩ : ∃ f, f = lpart bt k := ⟨_, rfl⟩
      obtain ⟨z, hz⟩ : ∃ z, z = lpart bt (k + 1) q := ⟨_, rfl⟩
      have hor : bits .or .u32 (f q) (bt k * 2 ^ (8 * m) % 4294967296) = z := by rw [hf, hz, hm, hq]; exact lpart_at bt hb8 k
      have HF : Hid (upd f q z = lpart bt (k + 1)) := Hid.mk (by rw [hf, hz, hq]; exact lpart_step bt k)
      have w8 : IntKind.i64.wrap (8 * (m : Int)) = 8 * (m : Int) := by rw [IntKind.wrap_i64]; omega
      obtain ⟨bl, bh⟩ := hb8 k
      rw [← hf]
      clear hf hz hq hm
      go_wp2_with fail
      go_region
      go_wp2
      go_roundw
      case rel => exact ⟨k + 1, _, by omega, by go_num, by rw [← HF.out]⟩
      case measure => simp [intOf]; omega
    · have hk' : k = 64 := by omega
      subst hk'
      have e8 : c16 (lpart bt 64) = c16 (lword bt) := by show Obj.cells _ _ = Obj.cells _ _; congr 1; exact tab_congr (lpart_end bt)
      rw [show ((64 : Nat) : Int) = 64 from rfl, e8]
      go_wp2_with (first | (refine wpl_load rtQ rfl _ rfl _ rfl (tab .u32 16 (lword bt)) ?_ (tab_size _ _ _) ?_; (focus (first | (simp [go_sem]; done) | (simp (disch := first | (simp [go_sem]; done) | (simp [go_sem]; omega)) [go_sem]; done)))) | (refine wpl_store rtQ rfl _ _ rfl _ rfl (tab .u32 16 (lword bt)) rfl ?_ (tab_size _ _ _) (tab_all _ _ _) (((w.alloc (c16 (lword bt))).alloc (c16 (lword bt))).dr n) ?_ ?_; (focus (first | (simp [go_sem]; done) | (simp (disch := first | (simp [go_sem]; done) | (simp [go_sem]; omega)) [go_sem]; done))); (focus (first | (simp [go_sem]; done) | (simp (disch := first | (simp [go_sem]; done) | (simp [go_sem]; omega)) [go_sem]; done)))))
      exact bodyPost_ret (v := .agg (tab .u32 16 (lword bt))) (by rw [results_row rtQ Tryz.results132 _ _ (w.heap.size) rfl (by first | (simp [go_sem]; done) | (simp (disch := first | (simp [go_sem]; done) | (simp [go_sem]; omega)) [go_sem]; done))]; first | (simp [go_sem]; done) | (simp (disch := first | (simp [go_sem]; done) | (simp [go_sem]; omega)) [go_sem]; done)) rfl ⟨rfl, below2 _ _ _ _⟩
end Go.Proofs.YteghoooelgcpkabGreatDoor
namespace Go.Msg
open Go.RowKit Go.Proofs.YteghoooelgcpkabGreatDoor
theorem blk_sb (key nonce : ByteArray) (n i : Nat) (hi : i < 64) : blkB (swords key nonce n) i = sb (sblk key nonce n) i := by
  unfold sblk
  rw [sb_ldig _ 16 i (by omega)]; rfl
end Go.Msg
namespace Go.Proofs.YteghoooelgcpkabGreatDoor
open Go.RowKit Go.Msg
theorem row_set2 {W : World} {g : Nat} {c : Array Value} (h : W.rowOf g = c) (hc : 0 < c.size) (j : Nat) (v : Value) : (W.setCell ⟨g, j, none⟩ v).rowOf g = c.setIfInBounds j v := by
  obtain ⟨t, ht⟩ := rowOf_heap (w := W) (g := g) rfl (by rw [h]; exact hc)
  rw [h] at ht
  have : (W.setCell ⟨g, j, none⟩ v).heap[g]? = some (.cells (c.setIfInBounds j v) t (0, 0)) := by
    show (W.heap.modify g _)[g]? = _
    rw [Array.getElem?_modify]; simp [ht]
  exact rowOf_block this
theorem row_setO {W : World} {g : Nat} {a : Addr} {v : Value} (h : g ≠ a.block) : (W.setCell a v).rowOf g = W.rowOf g := by unfold World.rowOf; rw [Below.heap_setCell W a v g h]
theorem cell_setRowO {W : World} {g k i : Nat} {c : Array Value} (h : k ≠ g) : (W.setRow g c).cell? ⟨k, i, none⟩ = W.cell? ⟨k, i, none⟩ := World.cell?_of_block (setRow_other W g k c h)
theorem frozen_setRowO {W : World} {g k i : Nat} {c : Array Value} (h : k ≠ g) : (W.setRow g c).frozen? ⟨k, i, none⟩ = W.frozen? ⟨k, i, none⟩ := by unfold World.frozen?; rw [setRow_other W g k c h]
theorem rowfz2 {W : World} {g : Nat} {c : Array Value} (h : W.rowOf g = c) (j : Nat) (hj : j < c.size) : W.frozen? ⟨g, j, none⟩ = false := (cell_of_rowOf h j hj).2
theorem row_lt {W : World} {g N : Nat} {k : IntKind} {f : Nat → Int} (h : W.rowOf g = tab k N f) (hN : 0 < N) : g < W.heap.size := rowOf_lt (by rw [h, tab_size]; exact hN)
structure TI (w W : World) (g7 g8 g9 N : Nat) (f0 f m F : Nat → Int) : Prop where
  r7 : W.rowOf g7 = tab .u32 16 f
  e7 : ∀ i, i < 16 → i ≠ 12 → f i = f0 i
  r9 : W.rowOf g9 = tab .u8 64 m
  h1 : ∀ j, j < N → W.cell? ⟨g8, j, none⟩ = some (.int .u8 (F j))
  h2 : ∀ j, j < N → W.frozen? ⟨g8, j, none⟩ = false
  n78 : g7 ≠ g8
  n79 : g7 ≠ g9
  n89 : g8 ≠ g9
  l8 : g8 < W.heap.size
  b7 : w.heap.size ≤ g7
  b8 : w.heap.size ≤ g8
  b9 : w.heap.size ≤ g9
  bl : Below w.heap.size w W
theorem TI.set7 {w W : World} {g7 g8 g9 N : Nat} {f0 f m F : Nat → Int} (h : TI w W g7 g8 g9 N f0 f m F) (z : Int) : TI w (W.setCell ⟨g7, 12, none⟩ (.int .u32 z)) g7 g8 g9 N f0 (upd f 12 z) m F :=
  ⟨by rw [row_set2 h.r7 (by rw [tab_size]; omega), tab_set], fun i hi hn => by unfold upd; rw [if_neg hn]; exact h.e7 i hi hn, by rw [row_setO (by simp; exact fun e => h.n79 e.symm)]; exact h.r9,
   fun j hj => by rw [World.cell?_setCell_other _ _ _ _ (fun e => h.n78 (by have := congrArg Addr.block e; simpa using this))]; exact h.h1 j hj, fun j hj => by simp [h.h2 j hj], h.n78, h.n79, h.n89, by simp; exact h.l8, h.b7, h.b8, h.b9, h.bl.setCell h.b7 _⟩
theorem TI.below {w W W' : World} {g7 g8 g9 N : Nat} {f0 f m F : Nat → Int} (h : TI w W g7 g8 g9 N f0 f m F) (hb : Below W.heap.size W W') : TI w W' g7 g8 g9 N f0 f m F :=
  ⟨by rw [below_row hb (by rw [h.r7, tab_size]; omega)]; exact h.r7, h.e7, by rw [below_row hb (by rw [h.r9, tab_size]; omega)]; exact h.r9, fun j hj => by rw [hb.cell h.l8]; exact h.h1 j hj, fun j hj => by rw [hb.frozen h.l8]; exact h.h2 j hj,
   h.n78, h.n79, h.n89, by have := hb.size; have := h.l8; omega, h.b7, h.b8, h.b9, below_lift h.bl h.bl.size hb⟩
theorem TI.set9 {w W : World} {g7 g8 g9 N : Nat} {f0 f m F : Nat → Int} (h : TI w W g7 g8 g9 N f0 f m F) (m' : Nat → Int) : TI w (W.setRow g9 (tab .u8 64 m')) g7 g8 g9 N f0 f m' F :=
  ⟨by rw [rowOf_setRow_other h.n79]; exact h.r7, h.e7, rowOf_setRow_same (by rw [h.r9, tab_size]; omega), fun j hj => by rw [cell_setRowO h.n89]; exact h.h1 j hj, fun j hj => by rw [frozen_setRowO h.n89]; exact h.h2 j hj,
   h.n78, h.n79, h.n89, by simp [World.setRow]; exact h.l8, h.b7, h.b8, h.b9, below_setRow h.bl h.b9 _⟩
theorem TI.set8 {w W : World} {g7 g8 g9 N : Nat} {f0 f m F : Nat → Int} (h : TI w W g7 g8 g9 N f0 f m F) (x : Nat) (hx : x < N) (z : Int) : TI w (W.setCell ⟨g8, x, none⟩ (.int .u8 z)) g7 g8 g9 N f0 f m (upd F x z) := by
  obtain ⟨L1, L2, LB⟩ := cl_set (x := x) (z := z) h.h1 h.h2 h.bl hx h.b8
  exact ⟨by rw [row_setO (by simp; exact h.n78)]; exact h.r7, h.e7, by rw [row_setO (by simp; exact fun e => h.n89 e.symm)]; exact h.r9, L1, L2, h.n78, h.n79, h.n89, by simp; exact h.l8, h.b7, h.b8, h.b9, LB⟩
theorem TI.drew {w W : World} {g7 g8 g9 N : Nat} {f0 f m F : Nat → Int} (h : TI w W g7 g8 g9 N f0 f m F) : TI w W.drew g7 g8 g9 N f0 f m F :=
  ⟨h.r7, h.e7, h.r9, h.h1, h.h2, h.n78, h.n79, h.n89, h.l8, h.b7, h.b8, h.b9, h.bl.drew⟩
set_option maxHeartbeats 4000000 in
theorem turn_any (key nonce t : ByteArray) (hk : key.size = 32) (hn : nonce.size = 12) (ht : t.size ≤ 200) (w : World) :
    Calls Tryz.prog 102 #[.string key, .string nonce, .string t] w fun e w' => e = .returned (.string (streamF key nonce t)) ∧ Below w.heap.size w w' := by
  obtain ⟨G, hG⟩ : ∃ G : Nat → Int, G = fun i => bits .xor .u8 (sb t i) (sb (sblk key nonce (i / 64)) (i % 64)) := ⟨_, rfl⟩
  have HR : Hid (bstr t.size G = streamF key nonce t) := Hid.mk (by rw [hG]; rfl)
  have HG : Hid (∀ i, bits .xor .u8 (sb t i) (sb (sblk key nonce (i / 64)) (i % 64)) = G i) := Hid.mk (fun i => by rw [hG])
  have zT : (words0 key nonce).size = 64 := by unfold words0; simp only [ByteArray.size_append, hk, hn, bstr_size, sOpen_size]
  have HT : Hid ((⟨#[101, 120, 112, 97, 110, 100, 32, 51, 50, 45, 98, 121, 116, 101, 32, 107]⟩ : ByteArray) ++ key ++ (⟨#[0, 0, 0, 0]⟩ : ByteArray) ++ nonce = words0 key nonce) := Hid.mk rfl
  have HT2 : Hid ((⟨#[101, 120, 112, 97, 110, 100, 32, 51, 50, 45, 98, 121, 116, 101, 32, 107]⟩ : ByteArray) = sOpen) := Hid.mk rfl
  have HT3 : Hid ((⟨#[0, 0, 0, 0]⟩ : ByteArray) = bstr 4 (fun _ => 0)) := Hid.mk rfl
  obtain ⟨f0, hf0⟩ : ∃ f, f = lword (fun i => sb (words0 key nonce) i) := ⟨_, rfl⟩
  have HW : Hid (∀ (g : Nat → Int) (n : Nat), (∀ i, i < 16 → i ≠ 12 → g i = f0 i) → tab .u32 16 (upd g 12 (n : Int)) = tab .u32 16 (swords key nonce n)) := Hid.mk (fun g n hg => tab_congr fun i hi => by
    unfold swords fstn
    rw [if_pos hi, ← hf0]
    unfold upd
    by_cases e : i = 12
    · rw [if_pos e, if_pos e]
    · rw [if_neg e, if_neg e]; exact hg i hi e)
  have HF0 : Hid _ := hf0
  clear hG hf0
  go_enter Tryz.func102, Tryz.ntmps102
  go_wp2_with (first
    | (go_at_call 132; rw [HT.out]; have M := wordsOf_any (words0 key nonce) zT w; with_reducible refine M.mono ?_; clear M; rintro e w1 ⟨rfl, hb1⟩; rw [← HF0.out]; have s1 := hb1.size)
    | (refine wpl_store rtQ rfl _ _ rfl w1.heap.size rfl (tab .u32 16 f0) rfl ?_ (tab_size _ _ _) (tab_all _ _ _) (w1.alloc (c16 f0)) ?_ ?_; (focus (simp [go_sem]; done)); (focus (simp [go_sem]; done)))
    | (refine wpl_bytes rfl 9 87 5 _ rfl Tryz.underlying9 Tryz.underlying87 Tryz.underlying5 t rfl ?_; intro cap W hcap hcell hfz hb hsz))
  have sW : W.heap.size = w1.heap.size + 1 + 1 := by rw [hsz]; simp
  have I0 : Hid (TI w (W.alloc (d64 (fun _ => 0))) w1.heap.size (w1.heap.size + 1) (w1.heap.size + 1 + 1) t.size f0 f0 (fun _ => 0) (thro 0 G (sb t))) := by
    have hz1 : (w1.alloc (c16 f0)).heap.size = w1.heap.size + 1 := by simp
    rw [hz1] at hb hcell hfz
    have r7 : W.rowOf w1.heap.size = tab .u32 16 f0 := by rw [below_row_lt hb (by omega)]; simp [go_sem]
    have B : Below w.heap.size w W := (hb1.alloc s1 _).trans (hb.mono (by omega))
    have hl : w1.heap.size + 1 < W.heap.size := by omega
    have hba := by_alloc W (d64 (fun _ => 0))
    exact ⟨by rw [below_row hba (by rw [r7, tab_size]; omega)]; exact r7, fun _ _ _ => rfl, by rw [← sW]; simp [go_sem], fun j hj => by rw [hba.cell hl, thro_zero]; exact hcell j hj, fun j hj => by rw [hba.frozen hl]; exact hfz j hj, by omega, by omega, by omega, by simp; omega, s1, by omega, by omega, B.alloc (by omega) _⟩
  rw [HT2.out, HT3.out]
  clear hb hcell hfz hsz hb1
  go_loopw [10] (fun i wq => ∃ (k : Nat) (f m : Nat → Int), k ≤ t.size ∧ i = .int .i64 k ∧ Hid (TI w wq w1.heap.size (w1.heap.size + 1) (w1.heap.size + 1 + 1) t.size f0 f m (thro k G (sb t))) ∧ Hid (k % 64 ≠ 0 → ∀ j, j < 64 → m j = sb (sblk key nonce (k / 64)) j)) (fun i _ => t.size - (intOf i).toNat)
  case atStart => exact ⟨0, _, _, by omega, rfl, I0, Hid.mk (fun h => absurd rfl h)⟩
  case round =>
    clear I0
    obtain ⟨k, f, m, hk2, rfl, TI0, MM0⟩ := hrel
    by_cases hlt : k < t.size
    · have c1 : (k : Int) < t.size := by omega
      obtain ⟨q, hq⟩ : ∃ q, q = k / 64 := ⟨_, rfl⟩
      obtain ⟨p, hp⟩ : ∃ p, p = k % 64 := ⟨_, rfl⟩
      have e1 : (k : Int) / 64 = (q : Int) := by omega
      have e2 : (k : Int) % 64 = (p : Int) := by omega
      have lp : p < 64 := by omega
      have lp2 : (p : Int) < 64 := by omega
      have lq : (q : Int) ≤ 3 := by omega
      have HPE : Hid (sb (sblk key nonce q) p = sb (sblk key nonce (k / 64)) (k % 64)) := Hid.mk (by rw [hq, hp])
      have HKS : Hid (∀ (m : Nat → Int), (∀ j, j < 64 → m j = sb (sblk key nonce q) j) → (k + 1) % 64 ≠ 0 → ∀ j, j < 64 → m j = sb (sblk key nonce ((k + 1) / 64)) j) := Hid.mk (fun m hm h j hj => by rw [hm j hj, hq, show (k + 1) / 64 = k / 64 by omega])
      by_cases hz : k % 64 = 0
      · have hp0 : p = 0 := by omega
        have c2 : ((p : Int) == 0) = true := by simp; omega
        have y7 : wr.cell? ⟨w1.heap.size, 12, none⟩ = some (.int .u32 (f 12)) := cell_of_row TI0.out.r7 12 (by decide)
        have z7 : wr.frozen? ⟨w1.heap.size, 12, none⟩ = false := rowfz2 TI0.out.r7 12 (by rw [tab_size]; decide)
        have T1 := TI0.out.set7 (q : Int)
        have R1 : (wr.setCell ⟨w1.heap.size, 12, none⟩ (.int .u32 (q : Int))).rowOf w1.heap.size = tab .u32 16 (swords key nonce q) := by rw [T1.r7]; exact HW.out f q TI0.out.e7
        have HT1 : Hid _ := T1
        have HSB : Hid (∀ i, B32 (swords key nonce q i)) := Hid.mk (swords_bd key nonce q (by omega))
        have HBL : Hid (∀ j, j < 64 → blkB (swords key nonce q) j = sb (sblk key nonce q) j) := Hid.mk (blk_sb key nonce q)
        clear T1 hq hp
        generalize swords key nonce q = S at R1 HSB HBL
        go_wp2_with (first
          | (refine wpl_load rtQ rfl _ rfl w1.heap.size rfl (tab .u32 16 S) ?_ (tab_size _ _ _) ?_; (focus (exact R1)))
          | (go_at_call 133; have M := wblock_any S HSB.out (wr.setCell ⟨w1.heap.size, 12, none⟩ (.int .u32 (q : Int))); with_reducible refine M.mono ?_; clear M; rintro e w2 ⟨rfl, hb2⟩; have T2 := HT1.out.below hb2; have r9 := T2.r9; have HT4 := Hid.mk T2; clear T2)
          | (refine wpl_store rtB rfl _ _ rfl (w1.heap.size + 1 + 1) rfl (tab .u8 64 (blkB S)) rfl ?_ (tab_size _ _ _) (tab_all _ _ _) _ rfl ?_; (focus (rw [r9, tab_size]))))
        have TT : Hid _ := HT4.out.set9 (blkB S)
        have y8 := TT.out.h1 k hlt
        have z8 := TT.out.h2 k hlt
        rw [thro_at] at y8
        have y9 := cell_of_row TT.out.r9 p lp
        have hx : bits .xor .u8 (sb t k) ((blkB S) p) = G k := by rw [HBL.out p lp, HPE.out]; exact HG.out k
        rw [hp0] at y9 hx
        generalize w2.setRow (w1.heap.size + 1 + 1) (tab .u8 64 (blkB S)) = W4 at TT y8 z8 y9 ⊢
        clear HT4 HT1 R1 r9 hb2 y7 z7
        simp only [Act.put]
        go_region
        go_wp2
        go_roundw
        case rel =>
          have T5 := (TT.out.set8 k hlt (G k)).drew
          rw [thro_step] at T5
          exact ⟨k + 1, _, _, by omega, by go_num, T5, Hid.mk (HKS.out _ HBL.out)⟩
        case measure => simp [intOf]; omega
      · have c2 : ((p : Int) == 0) = false := by simp; omega
        have hmm : ∀ j, j < 64 → m j = sb (sblk key nonce q) j := by rw [hq]; exact MM0.out hz
        have HMM : Hid _ := hmm
        have TT : Hid _ := TI0.out
        have y8 := TT.out.h1 k hlt
        have z8 := TT.out.h2 k hlt
        rw [thro_at] at y8
        have y9 := cell_of_row TT.out.r9 p lp
        have hx : bits .xor .u8 (sb t k) (m p) = G k := by rw [HMM.out p lp, HPE.out]; exact HG.out k
        have z9 := lp2
        clear hq hp hmm
        go_wp2_with fail
        go_region
        go_wp2
        go_roundw
        case rel =>
          have T5 := (TT.out.set8 k hlt (G k)).drew
          rw [thro_step] at T5
          exact ⟨k + 1, _, _, by omega, by go_num, T5, Hid.mk (HKS.out _ HMM.out)⟩
        case measure => simp [intOf]; omega
    · have hk' : k = t.size := by omega
      subst hk'
      have c1 : ¬ (t.size : Int) < t.size := by omega
      go_wp2_with (refine wpl_string rfl 87 9 5 _ rfl Tryz.underlying87 Tryz.underlying5 Tryz.underlying9 (w1.heap.size + 1) t.size cap rfl _ TI0.out.h1 ?_)
      go_ret
      exact ⟨congrArg (fun z => Ending.returned (Value.string z)) (by rw [← HR.out]; exact bstr_congr fun i hi => by simp [thro, hi]), TI0.out.bl⟩
end Go.Proofs.YteghoooelgcpkabGreatDoor
namespace Go.Msg
open Go.RowKit Go.Proofs.YteghoooelgcpkabGreatDoor
def sRoot : ByteArray := ⟨#[114, 111, 111, 116]⟩
def sMK : ByteArray := ⟨#[109, 101, 115, 115, 97, 103, 101, 32, 107, 101, 121, 115]⟩
def sOne : ByteArray := ⟨#[1]⟩
def sTwo : ByteArray := ⟨#[2]⟩
def sNil : ByteArray := ⟨#[]⟩
def rootA (r s : ByteArray) : ByteArray := (hkdfF r s sRoot 64).extract 0 32
def rootC (r s : ByteArray) : ByteArray := (hkdfF r s sRoot 64).extract 32 64
def keyF (c : ByteArray) : ByteArray := macF c sOne
def behF (c : ByteArray) : ByteArray := macF c sTwo
def sealK (k : ByteArray) : ByteArray := hkdfF sNil k sMK 76
def turnF (k t : ByteArray) : ByteArray := streamF ((sealK k).extract 0 32) ((sealK k).extract 64 76) t
def tagF (k with_ turned : ByteArray) : ByteArray := macF ((sealK k).extract 32 64) (be 4 (with_.size : Int) ++ with_ ++ turned)
theorem sealK_size (k : ByteArray) : (sealK k).size = 76 := hkdfF_size _ _ _ _
theorem ext_size {a : ByteArray} {i j : Nat} (h : j ≤ a.size) : (a.extract i j).size = j - i := by rw [ByteArray.size_extract]; omega
theorem rootA_size (r s : ByteArray) : (rootA r s).size = 32 := ext_size (by rw [hkdfF_size]; omega)
theorem rootC_size (r s : ByteArray) : (rootC r s).size = 32 := ext_size (by rw [hkdfF_size]; omega)
theorem keyF_size (c : ByteArray) : (keyF c).size = 32 := macF_size _ _
theorem behF_size (c : ByteArray) : (behF c).size = 32 := macF_size _ _
theorem turnF_size (k t : ByteArray) : (turnF k t).size = t.size := streamF_size _ _ _
theorem tagF_size (k a b : ByteArray) : (tagF k a b).size = 32 := macF_size _ _
theorem ext_ext (a : ByteArray) (i j k l : Nat) (h : i + l ≤ j) (hj : j ≤ a.size) : (a.extract i j).extract k l = a.extract (i + k) (i + l) := by
  apply ba_ext
  · simp only [ByteArray.size_extract]; omega
  · intro n hn
    simp only [ByteArray.size_extract] at hn
    rw [sb_extract (a.extract i j) k l n (by omega) (by rw [ByteArray.size_extract]; omega), sb_extract a i j (k + n) (by omega) hj, sb_extract a (i + k) (i + l) n (by omega) (by omega)]
    congr 1; omega
theorem b2_be (v : Int) (h : 0 ≤ v ∧ v < 65536) : b2 (v / 256) (v % 256) = be 2 v := by
  have e : v / 256 = v / 256 % 256 := by omega
  rw [e]
  apply ByteArray.ext
  simp only [be, ByteArray.data_append]
  simp [b2, b1, bstr, strOfNums]
  rfl
end Go.Msg
namespace Go.Proofs.YteghoooelgcpkabGreatDoor
open Go.RowKit Go.Msg
theorem ret_pair {a a' b b' : ByteArray} (h1 : a = a') (h2 : b = b') : Ending.returned (.tuple #[.string a, .string b]) = Ending.returned (.tuple #[.string a', .string b']) := by rw [h1, h2]
set_option maxHeartbeats 1000000 in
theorem pair_any (n : Int) (h : 0 ≤ n ∧ n < 65536) (w : World) : Calls Tryz.prog 88 #[.int .i64 n] w fun e w' => e = .returned (.string (be 2 n)) ∧ Below w.heap.size w w' := by
  have qB := cvB
  have HB : Hid (b2 (n / 256) (n % 256) = be 2 n) := Hid.mk (b2_be n h)
  obtain ⟨h0, h1⟩ := h
  go_enter Tryz.func88, Tryz.ntmps88
  go_wp2
  go_ret
  exact ⟨congrArg (fun z => Ending.returned (Value.string z)) HB.out, by_alloc w _⟩
set_option maxHeartbeats 1000000 in
theorem value_any (t : ByteArray) (ht : t.size = 2) (w : World) :
    Calls Tryz.prog 120 #[.string t] w fun e w' => e = .returned (.int .i64 (numF (sb t) 2)) ∧ ∃ q, w' = w.drewN q := by
  have c0 : 0 < t.size := by omega
  have c1 : 1 < t.size := by omega
  have d0 : (0 : Int) < t.size := by omega
  have d1 : (1 : Int) < t.size := by omega
  have e0 := (sb_at t 0 c0).symm
  have e1 := (sb_at t 1 c1).symm
  have b0 := sb_bd t 0
  have b1 := sb_bd t 1
  have HL : Hid (numF (sb t) 2 = 256 * sb t 0 + sb t 1) := Hid.mk (by simp only [numF]; omega)
  rw [HL.out]
  generalize sb t 0 = x0 at *
  generalize sb t 1 = x1 at *
  have f1 : IntKind.i64.wrap (256 * x0) = 256 * x0 := by rw [IntKind.wrap_i64]; omega
  have f2 : IntKind.i64.wrap (256 * x0 + x1) = 256 * x0 + x1 := by rw [IntKind.wrap_i64]; omega
  clear HL
  go_enter Tryz.func120, Tryz.ntmps120
  go_wp2_with fail
  go_quiet (fail)
  go_wp2
  go_ret
  exact ⟨rfl, _, rfl⟩
theorem expand64 (p : Value) (k t u : ByteArray) (hk : k.size ≤ 64) (ht : t.size ≤ 1000) (hu : u.size ≤ 100) (w : World) (hp : PrimAt w p) :
    Calls Tryz.prog 79 #[p, .string k, .string t, .string u, .int .i64 64] w fun e w' => e = .returned (.string (hkdfF k t u 64)) ∧ Below w.heap.size w w' := expand_any p k t u 64 hk ht hu (by omega) w hp
theorem expand76 (p : Value) (k t u : ByteArray) (hk : k.size ≤ 64) (ht : t.size ≤ 1000) (hu : u.size ≤ 100) (w : World) (hp : PrimAt w p) :
    Calls Tryz.prog 79 #[p, .string k, .string t, .string u, .int .i64 76] w fun e w' => e = .returned (.string (hkdfF k t u 76)) ∧ Below w.heap.size w w' := expand_any p k t u 76 hk ht hu (by omega) w hp
set_option maxHeartbeats 1000000 in
theorem rooted_f (p : Value) (r s : ByteArray) (hr : r.size = 32) (hs : s.size = 32) (w : World) (hp : PrimAt w p) :
    Calls Tryz.prog 83 #[p, .string r, .string s] w fun e w' => e = .returned (.tuple #[.string (rootA r s), .string (rootC r s)]) ∧ Below w.heap.size w w' := by
  go_enter Tryz.func83, Tryz.ntmps83
  go_wp2_with (go_at_call 79; refine (expand64 _ r s sRoot (by omega) (by omega) (by decide) _ hp).mono ?_; rintro e w1 ⟨rfl, hb⟩)
  have hz : (hkdfF r s sRoot 64).size = 64 := hkdfF_size _ _ _ _
  have HA : Hid ((hkdfF r s sRoot 64).extract 0 32 = rootA r s) := Hid.mk rfl
  have HC : Hid ((hkdfF r s sRoot 64).extract 32 64 = rootC r s) := Hid.mk rfl
  generalize hkdfF r s sRoot 64 = a at *
  have c1 : (32 : Int) ≤ a.size := by omega
  go_region
  go_wp2
  go_ret2
  exact ⟨ret_pair HA.out HC.out, hb.drew⟩
set_option maxHeartbeats 4000000 in
theorem sealed_any (p : Value) (k a t : ByteArray) (o : Bool) (hk : k.size ≤ 64) (ha : a.size ≤ 200) (ht : t.size ≤ 200) (w : World) (hp : PrimAt w p) :
    Calls Tryz.prog 89 #[p, .string k, .string a, .string t, .bool o] w fun e w' => e = .returned (.tuple #[.string (turnF k t), .string (tagF k a (if o then t else turnF k t))]) ∧ Below w.heap.size w w' := by
  have qD := cvD
  have ca : (a.size : Int) ≤ 200 := by omega
  have HBE : Hid (b4 ((a.size : Int) / 16777216) ((a.size : Int) / 65536 % 256) ((a.size : Int) / 256 % 256) ((a.size : Int) % 256) = be 4 (a.size : Int)) := Hid.mk (b4_be _ ⟨by omega, by omega⟩)
  go_enter Tryz.func89, Tryz.ntmps89
  go_wp2_with (go_at_call 79; refine (expand76 _ sNil k sMK (by decide) (by omega) (by decide) _ hp).mono ?_; rintro e w1 ⟨rfl, hb⟩)
  have hz := sealK_size k
  have HT : Hid (streamF ((sealK k).extract 0 32) ((sealK k).extract 64 76) t = turnF k t) := Hid.mk rfl
  have HG : Hid (∀ u, macF ((sealK k).extract 32 64) (be 4 (a.size : Int) ++ a ++ u) = tagF k a u) := Hid.mk (fun _ => rfl)
  rw [show hkdfF sNil k sMK 76 = sealK k from rfl]
  have zt := turnF_size k t
  generalize sealK k = s at *
  have c1 : (32 : Int) ≤ s.size := by omega
  have c2 : (64 : Int) ≤ s.size := by omega
  have x0 : (s.extract 0 32).size = 32 := ext_size (by omega)
  have x1 : (s.extract 32 64).size = 32 := ext_size (by omega)
  have x2 : (s.extract 64 76).size = 12 := ext_size (by omega)
  have hp1 := hp.below hb
  refine wp_region_quiet_tail 5 (fun w' => ∃ m, w' = w1.dr m) mixed_any (by kernel_rfl) ⟨_, rfl⟩ ?_
  simp only [List.take_succ_cons, List.take_zero, List.drop_succ_cons, List.drop_zero]
  iterate 5 (go_big_quiet_step (fail))
  refine wpQuiet_nil ?_
  rintro w' ⟨q, rfl⟩
  have hbq : Below w.heap.size w (w1.dr q) := below_dr hb q
  have hpq : PrimAt (w1.dr q) p := hp1.below (below_dr (Below.refl _ _) q)
  generalize w1.dr q = W1 at hbq hpq ⊢
  clear hb hp1
  have hsq := hbq.size
  have zf : (be 4 (a.size : Int)).size = 4 := be_size _ _
  cases o with
  | true =>
    go_wp2_with (first
      | (go_at_call 121; have M := rstream_any (s.extract 0 32) (s.extract 64 76) t x0 x2 ht W1; with_reducible refine M.mono ?_; clear M; rintro e w2 ⟨rfl, hb2⟩; rw [HT.out]; have B2 := below_lift hbq hsq hb2; have s2 := B2.size; have hp2 := hpq.below hb2)
      | (go_at_call 78; rw [HBE.out]; refine (mac_any p (s.extract 32 64) (be 4 (a.size : Int) ++ a ++ t) (by omega) ?_ _ (hp2.below (by_alloc w2 _))).mono ?_; (focus (simp only [ByteArray.size_append]; omega)); rintro e w4 ⟨rfl, hb4⟩; rw [HG.out]))
    go_ret2
    exact ⟨rfl, below_lift (B2.alloc s2 _) (by simp; omega) hb4⟩
  | false =>
    go_wp2_with (first
      | (go_at_call 121; have M := rstream_any (s.extract 0 32) (s.extract 64 76) t x0 x2 ht W1; with_reducible refine M.mono ?_; clear M; rintro e w2 ⟨rfl, hb2⟩; rw [HT.out]; have B2 := below_lift hbq hsq hb2; have s2 := B2.size; have hp2 := hpq.below hb2)
      | (go_at_call 78; rw [HBE.out]; refine (mac_any p (s.extract 32 64) (be 4 (a.size : Int) ++ a ++ turnF k t) (by omega) ?_ _ (hp2.below (by_alloc w2 _))).mono ?_; (focus (simp only [ByteArray.size_append]; omega)); rintro e w4 ⟨rfl, hb4⟩; rw [HG.out]))
    go_ret2
    exact ⟨rfl, below_lift (B2.alloc s2 _) (by simp; omega) hb4⟩
end Go.Proofs.YteghoooelgcpkabGreatDoor
