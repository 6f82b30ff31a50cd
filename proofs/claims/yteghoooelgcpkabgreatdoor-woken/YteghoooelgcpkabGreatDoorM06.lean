import Derived.Test.YteghoooelgcpkabGreatDoorM00
import Derived.Test.YteghoooelgcpkabGreatDoorM05
namespace Go.Msg
def blkB (v : Nat → Int) (i : Nat) : Int := (rds v 20 (i / 4) + v (i / 4)) % 4294967296 / 256 ^ (i % 4) % 256
theorem pow2_8 (m : Nat) : (2 : Int) ^ (8 * m) = 256 ^ m := by rw [Int.pow_mul]; rfl
end Go.Msg
namespace Go.Proofs.YteghoooelgcpkabGreatDoor
open Go.RowKit Go.Msg
theorem rtB : RowTy Tryz.prog 181 64 := ⟨by decide, by kernel_rfl, _, Tryz.underlying181, rfl⟩
theorem wround0 (v : Nat → Int) (hv : ∀ i, B32 (v i)) (w : World) : Calls Tryz.prog 159 #[.agg (tab .u32 16 v), .int .i64 0] w fun e w' => e = .returned (.agg (tab .u32 16 (rdq v 0 4))) ∧ Below w.heap.size w w' := wround_any v hv 0 (by omega) w
theorem wround1 (v : Nat → Int) (hv : ∀ i, B32 (v i)) (w : World) : Calls Tryz.prog 159 #[.agg (tab .u32 16 v), .int .i64 1] w fun e w' => e = .returned (.agg (tab .u32 16 (rdq v 1 4))) ∧ Below w.heap.size w w' := wround_any v hv 1 (by omega) w
theorem cell_of_row {w : World} {g N : Nat} {k : IntKind} {f : Nat → Int} (h : w.rowOf g = tab k N f) (i : Nat) (hi : i < N) : w.cell? ⟨g, i, none⟩ = some (.int k (f i)) := by
  rw [(cell_of_rowOf h i (by rw [tab_size]; exact hi)).1, tab_get _ _ _ _ hi]
theorem below_row_lt {V V' : World} {B g : Nat} (h : Below B V V') (hg : g < B) : V'.rowOf g = V.rowOf g := by unfold World.rowOf; rw [h.block g hg]
set_option maxRecDepth 4000 in
set_option maxHeartbeats 8000000 in
theorem wblock_any (v : Nat → Int) (hv : ∀ i, B32 (v i)) (w : World) :
    Calls Tryz.prog 133 #[.agg (tab .u32 16 v)] w fun e w' => e = .returned (.agg (tab .u8 64 (blkB v))) ∧ Below w.heap.size w w' := by
  have HV : Hid _ := hv
  clear hv
  go_enter Tryz.func133, Tryz.ntmps133
  go_wp2_with (first | (refine wpl_load rtQ rfl _ rfl _ rfl (tab .u32 16 v) ?_ (tab_size _ _ _) ?_; (focus (first | (simp [go_sem]; done) | (simp (disch := first | (simp [go_sem]; done) | (simp [go_sem]; omega)) [go_sem]; done)))) | (refine wpl_store rtQ rfl _ _ rfl _ rfl (tab .u32 16 v) rfl ?_ (tab_size _ _ _) (tab_all _ _ _) (((w.alloc (c16 v)).alloc (d64 (fun _ => 0))).alloc (c16 v)) ?_ ?_; (focus (first | (simp [go_sem]; done) | (simp (disch := first | (simp [go_sem]; done) | (simp [go_sem]; omega)) [go_sem]; done))); (focus (first | (simp [go_sem]; done) | (simp (disch := first | (simp [go_sem]; done) | (simp [go_sem]; omega)) [go_sem]; done)))))
  go_loopw [4] (fun i wr => ∃ (k n : Nat) (bs : List Obj), k ≤ 10 ∧ i = .int .i64 k ∧ wr = ((((w.alloc (c16 v)).alloc (d64 (fun _ => 0))).alloc (c16 (rds v (2 * k)))).exts bs).dr n) (fun i _ => 10 - (intOf i).toNat)
  case atStart => exact ⟨0, _, [], by omega, rfl, by rw [World.exts_nil, World.dr_self]; rfl⟩
  case round =>
    obtain ⟨k, n, bs, hk, rfl, rfl⟩ := hrel
    by_cases hlt : k < 10
    · have c1 : (k : Int) < 10 := by omega
      obtain ⟨f, hf⟩ : ∃ f, f = rds v (2 * k) := ⟨_, rfl⟩
      have HFB : Hid (∀ i, B32 (f i)) := Hid.mk (by rw [hf]; exact rds_bd HV.out _)
      obtain ⟨f1, hf1⟩ : ∃ g, g = rdq f 0 4 := ⟨_, rfl⟩
      have HFB1 : Hid (∀ i, B32 (f1 i)) := Hid.mk (by rw [hf1]; exact rdq_bd HFB.out _ _)
      have HF1 : Hid _ := hf1
      have HN : Hid (rdq f1 1 4 = rds v (2 * (k + 1))) := Hid.mk (by rw [hf1, hf, show 2 * (k + 1) = 2 * k + 1 + 1 by omega, rds, rds, show (2 * k + 1) % 2 = 1 by omega, show (2 * k) % 2 = 0 by omega])
      rw [← hf]
      clear hf hf1
      go_wp2_with (first
        | (refine wpl_load rtQ rfl _ rfl _ rfl (tab .u32 16 f) ?_ (tab_size _ _ _) ?_; (focus (first | (simp [go_sem]; done) | (simp (disch := first | (simp [go_sem]; done) | (simp [go_sem]; omega)) [go_sem]; done))))
        | (go_at_call 159; have M := wround0 f HFB.out (((((w.alloc (c16 v)).alloc (d64 (fun _ => 0))).alloc (c16 f)).exts bs).dr n); with_reducible refine M.mono ?_; clear M; rintro e w' ⟨rfl, hb1⟩; obtain ⟨bs1, n1, rfl⟩ := below_form2 hb1; rw [← HF1.out])
        | (refine wpl_store rtQ rfl _ _ rfl _ rfl (tab .u32 16 f1) rfl ?_ (tab_size _ _ _) (tab_all _ _ _) (((((w.alloc (c16 v)).alloc (d64 (fun _ => 0))).alloc (c16 f1)).exts bs1).dr n1) ?_ ?_; (focus (first | (simp [go_sem]; done) | (simp (disch := first | (simp [go_sem]; done) | (simp [go_sem]; omega)) [go_sem]; done))); (focus (first | (simp [go_sem]; done) | (simp (disch := first | (simp [go_sem]; done) | (simp [go_sem]; omega)) [go_sem]; done))))
        | (refine wpl_load rtQ rfl _ rfl _ rfl (tab .u32 16 f1) ?_ (tab_size _ _ _) ?_; (focus (first | (simp [go_sem]; done) | (simp (disch := first | (simp [go_sem]; done) | (simp [go_sem]; omega)) [go_sem]; done))))
        | (go_at_call 159; have M := wround1 f1 HFB1.out (((((w.alloc (c16 v)).alloc (d64 (fun _ => 0))).alloc (c16 f1)).exts bs1).dr n1); with_reducible refine M.mono ?_; clear M; rintro e w' ⟨rfl, hb2⟩; obtain ⟨bs2, n2, rfl⟩ := below_form2 hb2; rw [HN.out])
        | (refine wpl_store rtQ rfl _ _ rfl _ rfl (tab .u32 16 (rds v (2 * (k + 1)))) rfl ?_ (tab_size _ _ _) (tab_all _ _ _) (((((w.alloc (c16 v)).alloc (d64 (fun _ => 0))).alloc (c16 (rds v (2 * (k + 1))))).exts bs2).dr n2) ?_ ?_; (focus (first | (simp [go_sem]; done) | (simp (disch := first | (simp [go_sem]; done) | (simp [go_sem]; omega)) [go_sem]; done))); (focus (first | (simp [go_sem]; done) | (simp (disch := first | (simp [go_sem]; done) | (simp [go_sem]; omega)) [go_sem]; done)))))
      go_roundw
      case rel => exact ⟨k + 1, _, bs2, by omega, by go_num, rfl⟩
      case measure => simp [intOf]; omega
    · have hk' : k = 10 := by omega
      subst hk'
      rw [show ((10 : Nat) : Int) = 10 from rfl, show 2 * 10 = 20 from rfl]
      obtain ⟨V, hV⟩ : ∃ V, V = rds v 20 := ⟨_, rfl⟩
      have HVB : Hid (∀ i, B32 (V i)) := Hid.mk (by rw [hV]; exact rds_bd HV.out 20)
      have HG : Hid (∀ i, (V (i / 4) + v (i / 4)) % 4294967296 / 256 ^ (i % 4) % 256 = blkB v i) := Hid.mk (fun i => by rw [hV]; rfl)
      rw [← hV]
      clear hV
      have B3 := below3e w (c16 v) (d64 (fun _ => 0)) (c16 V) bs n
      have R0 : (((((w.alloc (c16 v)).alloc (d64 (fun _ => 0))).alloc (c16 V)).exts bs).dr n).rowOf w.heap.size = tab .u32 16 v := by simp [go_sem]
      have R1 : (((((w.alloc (c16 v)).alloc (d64 (fun _ => 0))).alloc (c16 V)).exts bs).dr n).rowOf (w.heap.size + 1) = tab .u8 64 (fun _ => 0) := by simp [go_sem]
      have R2 : (((((w.alloc (c16 v)).alloc (d64 (fun _ => 0))).alloc (c16 V)).exts bs).dr n).rowOf (w.heap.size + 1 + 1) = tab .u32 16 V := by simp [go_sem]
      have hsz : w.heap.size + 1 + 1 < (((((w.alloc (c16 v)).alloc (d64 (fun _ => 0))).alloc (c16 V)).exts bs).dr n).heap.size := by simp [go_sem]; omega
      generalize ((((w.alloc (c16 v)).alloc (d64 (fun _ => 0))).alloc (c16 V)).exts bs).dr n = W3 at B3 R0 R1 R2 hsz ⊢
      have HR0 : Hid _ := R0
      have HR1 : Hid _ := R1
      have HR2 : Hid _ := R2
      clear R0 R1 R2
      go_wp2
      go_loopw [6, 7] (fun i _ wr => ∃ j n : Nat, j ≤ 64 ∧ i = .int .i64 j ∧ wr = (W3.alloc (d64 (fstn j (blkB v)))).dr n) (fun i _ _ => 64 - (intOf i).toNat)
      case atStart => exact ⟨0, _, by omega, rfl, by rw [fstn_zero]; exact (World.dr_self _).symm⟩
      case round =>
        obtain ⟨j, n, hj, rfl, rfl⟩ := hrel
        by_cases hlt : j < 64
        · have c1 : (j : Int) < 64 := by omega
          obtain ⟨q, hq⟩ : ∃ q, q = j / 4 := ⟨_, rfl⟩
          obtain ⟨m, hm⟩ : ∃ m, m = j % 4 := ⟨_, rfl⟩
          have e1 : (j : Int) / 4 = (q : Int) := by omega
          have e2 : (j : Int) % 4 = (m : Int) := by omega
          have c2 : (q : Int) < 16 := by omega
          have c3 : q < 16 := by omega
          have c4 : (m : Int) < 4 := by omega
          have c5 : (8 * (m : Int)).toNat = 8 * m := by omega
          have y0 : W3.cell? ⟨w.heap.size, q, none⟩ = some (.int .u32 (v q)) := cell_of_row HR0.out q c3
          have y2 : W3.cell? ⟨w.heap.size + 1 + 1, q, none⟩ = some (.int .u32 (V q)) := cell_of_row HR2.out q c3
          obtain ⟨vl, vh⟩ := HV.out q
          obtain ⟨Vl, Vh⟩ := HVB.out q
          have hp : (0 : Int) < 2 ^ (8 * m) := Int.pow_pos (by omega)
          have HX : Hid ((V q + v q) % 4294967296 / 2 ^ (8 * m) % 256 = blkB v j) := Hid.mk (by rw [pow2_8, hm, hq]; exact HG.out j)
          obtain ⟨F, hF⟩ : ∃ F, F = fstn j (blkB v) := ⟨_, rfl⟩
          have HF : Hid (upd F j (blkB v j) = fstn (j + 1) (blkB v)) := Hid.mk (by rw [hF, fstn_succ])
          rw [← hF]
          have hl0 : w.heap.size < W3.heap.size := by omega
          clear hq hm hF
          go_wp2_with fail
          go_quiet (fail)
          go_wp2
          go_roundw
          case rel => exact ⟨j + 1, _, by omega, by go_num, by rw [HX.out, HF.out]⟩
          case measure => simp [intOf]; omega
        · have hj' : j = 64 := by omega
          subst hj'
          have e8 : d64 (fstn 64 (blkB v)) = d64 (blkB v) := by show Obj.cells _ _ = Obj.cells _ _; congr 1; exact tab_congr fun i hi => by simp [fstn, hi]
          rw [show ((64 : Nat) : Int) = 64 from rfl, e8]
          have R3 : ((W3.alloc (d64 (blkB v))).dr n).rowOf (w.heap.size + 1) = tab .u8 64 (fun _ => 0) := by rw [World.rowOf_dr, below_row (by_alloc W3 _) (by rw [HR1.out, tab_size]; omega)]; exact HR1.out
          have B4 : Below w.heap.size w ((W3.alloc (d64 (blkB v))).dr n) := below_dr (B3.alloc (by omega) _) _
          go_wp2_with (first
            | (refine wpl_load rtB rfl _ rfl W3.heap.size rfl (tab .u8 64 (blkB v)) ?_ (tab_size _ _ _) ?_; (focus (simp [go_sem]; done)))
            | (refine wpl_store rtB rfl _ _ rfl (w.heap.size + 1) rfl (tab .u8 64 (blkB v)) rfl ?_ (tab_size _ _ _) (tab_all _ _ _) _ rfl ?_; (focus (rw [R3, tab_size]))))
          refine bodyPost_ret (results_row rtB Tryz.results133 _ _ (w.heap.size + 1) rfl ?_) rfl ?_
          · rw [rowOf_setRow_same (by rw [R3, tab_size]; omega), tab_size]
          · rw [rowOf_setRow_same (by rw [R3, tab_size]; omega)]; exact ⟨rfl, below_setRow B4 (by omega) _⟩
end Go.Proofs.YteghoooelgcpkabGreatDoor
namespace Go.Msg
open Go.RowKit Go.Proofs.YteghoooelgcpkabGreatDoor
def lpart (b : Nat → Int) (k j : Nat) : Int := fstn k b (4 * j) + 256 * fstn k b (4 * j + 1) + 65536 * fstn k b (4 * j + 2) + 16777216 * fstn k b (4 * j + 3)
theorem fstn_lt {k i : Nat} (h : i < k) (b : Nat → Int) : fstn k b i = b i := by simp [fstn, h]
theorem fstn_ge {k i : Nat} (h : k ≤ i) (b : Nat → Int) : fstn k b i = 0 := by unfold fstn; rw [if_neg (by omega)]
theorem lpart_zero (b : Nat → Int) : lpart b 0 = fun _ => 0 := by funext j; simp [lpart, fstn]
theorem lpart_other (b : Nat → Int) (k j : Nat) (h : j ≠ k / 4) : lpart b (k + 1) j = lpart b k j := by
  have e : ∀ m, m < 4 → fstn (k + 1) b (4 * j + m) = fstn k b (4 * j + m) := fun m hm => by
    unfold fstn
    by_cases h1 : 4 * j + m < k
    · rw [if_pos h1, if_pos (by omega)]
    · rw [if_neg h1, if_neg (by omega)]
  have e0 : fstn (k + 1) b (4 * j) = fstn k b (4 * j) := e 0 (by omega)
  unfold lpart
  rw [e0, e 1 (by omega), e 2 (by omega), e 3 (by omega)]
theorem lpart_end (b : Nat → Int) (j : Nat) (h : j < 16) : lpart b 64 j = lword b j := by
  unfold lpart lword
  rw [fstn_lt (by omega), fstn_lt (by omega), fstn_lt (by omega), fstn_lt (by omega)]
theorem or_join {x y : Int} (i : Nat) (hi : i ≤ 24) (hx : 0 ≤ x ∧ x < 256) (hy : 0 ≤ y ∧ y < 2 ^ i) : bits .or .u32 y (x * 2 ^ i % 4294967296) = y + x * 2 ^ i := by
  have hp : (0 : Int) < 2 ^ i := Int.pow_pos (by omega)
  have hp2 : (2 : Int) ^ i ≤ 16777216 := by
    have h : 2 ^ i ≤ 2 ^ 24 := Nat.pow_le_pow_right (by decide) hi
    have h2 : (((2 ^ i : Nat)) : Int) ≤ ((2 ^ 24 : Nat) : Int) := by exact_mod_cast h
    rw [Int.natCast_pow] at h2
    exact h2
  have h1 : x * 2 ^ i ≤ 255 * 16777216 := Int.mul_le_mul (by omega) hp2 (by omega) (by omega)
  have h0 : 0 ≤ x * 2 ^ i := Int.mul_nonneg hx.1 (by omega)
  rw [Int.emod_eq_of_lt h0 (by omega)]
  have hcm : bits .or .u32 y (x * 2 ^ i) = bits .or .u32 (x * 2 ^ i) y := by simp only [bits, BitVec.or_comm]
  rw [hcm, bits_join .u32 32 (by decide) wraps_u32 i (x * 2 ^ i) y h0 (by simp) (by omega) hy.1 hy.2 (by omega), Int.add_comm]
theorem lpart_at (b : Nat → Int) (hb : B8 b) (k : Nat) : bits .or .u32 (lpart b k (k / 4)) (b k * 2 ^ (8 * (k % 4)) % 4294967296) = lpart b (k + 1) (k / 4) := by
  obtain ⟨q, m, rfl, hm⟩ : ∃ q m, k = 4 * q + m ∧ m < 4 := ⟨k / 4, k % 4, by omega, by omega⟩
  have h0 := hb (4 * q); have h1 := hb (4 * q + 1); have h2 := hb (4 * q + 2); have h3 := hb (4 * q + 3)
  rw [show (4 * q + m) / 4 = q by omega, show (4 * q + m) % 4 = m by omega]
  match m, hm with
  | 0, _ =>
    have e : lpart b (4 * q + 0) q = 0 := by unfold lpart; rw [fstn_ge (by omega), fstn_ge (by omega), fstn_ge (by omega), fstn_ge (by omega)]; rfl
    have e2 : lpart b (4 * q + 0 + 1) q = b (4 * q) := by unfold lpart; rw [fstn_lt (by omega), fstn_ge (by omega), fstn_ge (by omega), fstn_ge (by omega)]; omega
    rw [or_join 0 (by omega) (hb _) (by rw [e]; decide), e, e2]; simp
  | 1, _ =>
    have e : lpart b (4 * q + 1) q = b (4 * q) := by unfold lpart; rw [fstn_lt (by omega), fstn_ge (by omega), fstn_ge (by omega), fstn_ge (by omega)]; omega
    have e2 : lpart b (4 * q + 1 + 1) q = b (4 * q) + 256 * b (4 * q + 1) := by unfold lpart; rw [fstn_lt (by omega), fstn_lt (by omega), fstn_ge (by omega), fstn_ge (by omega)]; omega
    rw [or_join 8 (by omega) (hb _) (by rw [e]; omega), e, e2]; omega
  | 2, _ =>
    have e : lpart b (4 * q + 2) q = b (4 * q) + 256 * b (4 * q + 1) := by unfold lpart; rw [fstn_lt (by omega), fstn_lt (by omega), fstn_ge (by omega), fstn_ge (by omega)]; omega
    have e2 : lpart b (4 * q + 2 + 1) q = b (4 * q) + 256 * b (4 * q + 1) + 65536 * b (4 * q + 2) := by unfold lpart; rw [fstn_lt (by omega), fstn_lt (by omega), fstn_lt (by omega), fstn_ge (by omega)]; omega
    rw [or_join 16 (by omega) (hb _) (by rw [e]; omega), e, e2]; omega
  | 3, _ =>
    have e : lpart b (4 * q + 3) q = b (4 * q) + 256 * b (4 * q + 1) + 65536 * b (4 * q + 2) := by unfold lpart; rw [fstn_lt (by omega), fstn_lt (by omega), fstn_lt (by omega), fstn_ge (by omega)]; omega
    have e2 : lpart b (4 * q + 3 + 1) q = b (4 * q) + 256 * b (4 * q + 1) + 65536 * b (4 * q + 2) + 16777216 * b (4 * q + 3) := by unfold lpart; rw [fstn_lt (by omega), fstn_lt (by omega), fstn_lt (by omega), fstn_lt (by omega)]
    rw [or_join 24 (by omega) (hb _) (by rw [e]; omega), e, e2]; omega
theorem lpart_step (b : Nat → Int) (k : Nat) : upd (lpart b k) (k / 4) (lpart b (k + 1) (k / 4)) = lpart b (k + 1) := by
  funext j
  unfold upd
  by_cases h : j = k / 4
  · rw [if_pos h, h]
  · rw [if_neg h, lpart_other b k j h]
end Go.Msg
namespace Go.Proofs.YteghoooelgcpkabGreatDoor
open Go.RowKit Go.Msg
set_option maxRecDepth 4000 in
set_option maxHeartbeats 4000000 in
theorem wordsOf_any (t : ByteArray) (ht : t.size = 64) (w : World) :
    Calls Tryz.prog 132 #[.string t] w fun e w' => e = .returned (.agg (tab .u32 16 (lword (fun i => sb t i)))) ∧ Below w.heap.size w w' := by
  obtain ⟨bt, hbt⟩ : ∃ b : Nat → Int, b = fun i => sb t i := ⟨_, rfl⟩
  have hb8 : B8 bt := by rw [hbt]; exact sb_B8 t
  have HBT : Hid (bt = fun i => sb t i) := hbt
  rw [← hbt]
  clear hbt
  go_enter Tryz.func132, Tryz.ntmps132
  go_wp2
  go_loopw [4] (fun i wr => ∃ k n : Nat, k ≤ 64 ∧ i = .int .i64 k ∧ wr = ((w.alloc (c16 (fun _ => 0))).alloc (c16 (lpart bt k))).dr n) (fun i _ => 64 - (intOf i).toNat)
  case atStart => exact ⟨0, _, by omega, rfl, by rw [lpart_zero]; exact (World.dr_self _).symm⟩
  case round =>
    obtain ⟨k, n, hk, rfl, rfl⟩ := hrel
    by_cases hlt : k < 64
    · have c1 : (k : Int) < 64 := by omega
      have c0 : k < t.size := by omega
      obtain ⟨q, hq⟩ : ∃ q, q = k / 4 := ⟨_, rfl⟩
      obtain ⟨m, hm⟩ : ∃ m, m = k % 4 := ⟨_, rfl⟩
      have e1 : (k : Int) / 4 = (q : Int) := by omega
      have e2 : (k : Int) % 4 = (m : Int) := by omega
      have c2 : (q : Int) < 16 := by omega
      have c3 : q < 16 := by omega
      have c4 : (m : Int) < 4 := by omega
      have c5 : (8 * (m : Int)).toNat = 8 * m := by omega
      have HV : (t[k].toNat : Int) = bt k := by rw [HBT.out]; exact (sb_at t k c0).symm
      obtain ⟨f, hf⟩ : ∃ f, f = lpart bt k := ⟨_, rfl⟩
      obtain ⟨z, hz⟩ : ∃ z, z = lpart bt (k + 1) q := ⟨_, rfl⟩
      have hor : bits .or .u32 (f q) (bt k * 2 ^ (8 * m) % 4294967296) = z := by rw [hf, hz, hm, hq]; exact lpart_at bt hb8 k
      have HF : Hid (upd f q z = lpart bt (k + 1)) := Hid.mk (by rw [hf, hz, hq]; exact lpart_step bt k)
      have w8 : IntKind.i64.wrap (8 * (m : Int)) = 8 * (m : Int) := by rw [IntKind.wrap_i64]; omega
      obtain ⟨bl, bh⟩ := hb8 k
      rw [← hf]
      clear hf hz hq hm
      go_wp2_with fail
      go_region
      go_wp2
      go_roundw
      case rel => exact ⟨k + 1, _, by omega, by go_num, by rw [← HF.out]⟩
      case measure => simp [intOf]; omega
    · have hk' : k = 64 := by omega
      subst hk'
      have e8 : c16 (lpart bt 64) = c16 (lword bt) := by show Obj.cells _ _ = Obj.cells _ _; congr 1; exact tab_congr (lpart_end bt)
      rw [show ((64 : Nat) : Int) = 64 from rfl, e8]
      go_wp2_with (first | (refine wpl_load rtQ rfl _ rfl _ rfl (tab .u32 16 (lword bt)) ?_ (tab_size _ _ _) ?_; (focus (first | (simp [go_sem]; done) | (simp (disch := first | (simp [go_sem]; done) | (simp [go_sem]; omega)) [go_sem]; done)))) | (refine wpl_store rtQ rfl _ _ rfl _ rfl (tab .u32 16 (lword bt)) rfl ?_ (tab_size _ _ _) (tab_all _ _ _) (((w.alloc (c16 (lword bt))).alloc (c16 (lword bt))).dr n) ?_ ?_; (focus (first | (simp [go_sem]; done) | (simp (disch := first | (simp [go_sem]; done) | (simp [go_sem]; omega)) [go_sem]; done))); (focus (first | (simp [go_sem]; done) | (simp (disch := first | (simp [go_sem]; done) | (simp [go_sem]; omega)) [go_sem]; done)))))
      exact bodyPost_ret (v := .agg (tab .u32 16 (lword bt))) (by rw [results_row rtQ Tryz.results132 _ _ (w.heap.size) rfl (by first | (simp [go_sem]; done) | (simp (disch := first | (simp [go_sem]; done) | (simp [go_sem]; omega)) [go_sem]; done))]; first | (simp [go_sem]; done) | (simp (disch := first | (simp [go_sem]; done) | (simp [go_sem]; omega)) [go_sem]; done)) rfl ⟨rfl, below2 _ _ _ _⟩
end Go.Proofs.YteghoooelgcpkabGreatDoor
namespace Go.Msg
open Go.RowKit Go.Proofs.YteghoooelgcpkabGreatDoor
theorem blk_sb (key nonce : ByteArray) (n i : Nat) (hi : i < 64) : blkB (swords key nonce n) i = sb (sblk key nonce n) i := by
  unfold sblk
  rw [sb_ldig _ 16 i (by omega)]; rfl
end Go.Msg
namespace Go.Proofs.YteghoooelgcpkabGreatDoor
open Go.RowKit Go.Msg
theorem row_set2 {W : World} {g : Nat} {c : Array Value} (h : W.rowOf g = c) (hc : 0 < c.size) (j : Nat) (v : Value) : (W.setCell ⟨g, j, none⟩ v).rowOf g = c.setIfInBounds j v := by
  obtain ⟨t, ht⟩ := rowOf_heap (w := W) (g := g) rfl (by rw [h]; exact hc)
  rw [h] at ht
  have : (W.setCell ⟨g, j, none⟩ v).heap[g]? = some (.cells (c.setIfInBounds j v) t (0, 0)) := by
    show (W.heap.modify g _)[g]? = _
    rw [Array.getElem?_modify]; simp [ht]
  exact rowOf_block this
theorem row_setO {W : World} {g : Nat} {a : Addr} {v : Value} (h : g ≠ a.block) : (W.setCell a v).rowOf g = W.rowOf g := by unfold World.rowOf; rw [Below.heap_setCell W a v g h]
theorem cell_setRowO {W : World} {g k i : Nat} {c : Array Value} (h : k ≠ g) : (W.setRow g c).cell? ⟨k, i, none⟩ = W.cell? ⟨k, i, none⟩ := World.cell?_of_block (setRow_other W g k c h)
theorem frozen_setRowO {W : World} {g k i : Nat} {c : Array Value} (h : k ≠ g) : (W.setRow g c).frozen? ⟨k, i, none⟩ = W.frozen? ⟨k, i, none⟩ := by unfold World.frozen?; rw [setRow_other W g k c h]
theorem rowfz2 {W : World} {g : Nat} {c : Array Value} (h : W.rowOf g = c) (j : Nat) (hj : j < c.size) : W.frozen? ⟨g, j, none⟩ = false := (cell_of_rowOf h j hj).2
structure TI (w W : World) (g7 g8 g9 N : Nat) (f0 f m F : Nat → Int) : Prop where
  r7 : W.rowOf g7 = tab .u32 16 f
  e7 : ∀ i, i < 16 → i ≠ 12 → f i = f0 i
  r9 : W.rowOf g9 = tab .u8 64 m
  h1 : ∀ j, j < N → W.cell? ⟨g8, j, none⟩ = some (.int .u8 (F j))
  h2 : ∀ j, j < N → W.frozen? ⟨g8, j, none⟩ = false
  n78 : g7 ≠ g8
  n79 : g7 ≠ g9
  n89 : g8 ≠ g9
  l8 : g8 < W.heap.size
  b7 : w.heap.size ≤ g7
  b8 : w.heap.size ≤ g8
  b9 : w.heap.size ≤ g9
  bl : Below w.heap.size w W
theorem TI.set7 {w W : World} {g7 g8 g9 N : Nat} {f0 f m F : Nat → Int} (h : TI w W g7 g8 g9 N f0 f m F) (z : Int) : TI w (W.setCell ⟨g7, 12, none⟩ (.int .u32 z)) g7 g8 g9 N f0 (upd f 12 z) m F :=
  ⟨by rw [row_set2 h.r7 (by rw [tab_size]; omega), tab_set], fun i hi hn => by unfold upd; rw [if_neg hn]; exact h.e7 i hi hn, by rw [row_setO (by simp; exact fun e => h.n79 e.symm)]; exact h.r9,
   fun j hj => by rw [World.cell?_setCell_other _ _ _ _ (fun e => h.n78 (by have := congrArg Addr.block e; simpa using this))]; exact h.h1 j hj, fun j hj => by simp [h.h2 j hj], h.n78, h.n79, h.n89, by simp; exact h.l8, h.b7, h.b8, h.b9, h.bl.setCell h.b7 _⟩
theorem TI.below {w W W' : World} {g7 g8 g9 N : Nat} {f0 f m F : Nat → Int} (h : TI w W g7 g8 g9 N f0 f m F) (hb : Below W.heap.size W W') : TI w W' g7 g8 g9 N f0 f m F :=
  ⟨by rw [below_row hb (by rw [h.r7, tab_size]; omega)]; exact h.r7, h.e7, by rw [below_row hb (by rw [h.r9, tab_size]; omega)]; exact h.r9, fun j hj => by rw [hb.cell h.l8]; exact h.h1 j hj, fun j hj => by rw [hb.frozen h.l8]; exact h.h2 j hj,
   h.n78, h.n79, h.n89, by have := hb.size; have := h.l8; omega, h.b7, h.b8, h.b9, below_lift h.bl h.bl.size hb⟩
theorem TI.set9 {w W : World} {g7 g8 g9 N : Nat} {f0 f m F : Nat → Int} (h : TI w W g7 g8 g9 N f0 f m F) (m' : Nat → Int) : TI w (W.setRow g9 (tab .u8 64 m')) g7 g8 g9 N f0 f m' F :=
  ⟨by rw [rowOf_setRow_other h.n79]; exact h.r7, h.e7, rowOf_setRow_same (by rw [h.r9, tab_size]; omega), fun j hj => by rw [cell_setRowO h.n89]; exact h.h1 j hj, fun j hj => by rw [frozen_setRowO h.n89]; exact h.h2 j hj,
   h.n78, h.n79, h.n89, by simp [World.setRow]; exact h.l8, h.b7, h.b8, h.b9, below_setRow h.bl h.b9 _⟩
theorem TI.set8 {w W : World} {g7 g8 g9 N : Nat} {f0 f m F : Nat → Int} (h : TI w W g7 g8 g9 N f0 f m F) (x : Nat) (hx : x < N) (z : Int) : TI w (W.setCell ⟨g8, x, none⟩ (.int .u8 z)) g7 g8 g9 N f0 f m (upd F x z) := by
  obtain ⟨L1, L2, LB⟩ := cl_set (x := x) (z := z) h.h1 h.h2 h.bl hx h.b8
  exact ⟨by rw [row_setO (by simp; exact h.n78)]; exact h.r7, h.e7, by rw [row_setO (by simp; exact fun e => h.n89 e.symm)]; exact h.r9, L1, L2, h.n78, h.n79, h.n89, by simp; exact h.l8, h.b7, h.b8, h.b9, LB⟩
theorem TI.drew {w W : World} {g7 g8 g9 N : Nat} {f0 f m F : Nat → Int} (h : TI w W g7 g8 g9 N f0 f m F) : TI w W.drew g7 g8 g9 N f0 f m F :=
  ⟨h.r7, h.e7, h.r9, h.h1, h.h2, h.n78, h.n79, h.n89, h.l8, h.b7, h.b8, h.b9, h.bl.drew⟩
set_option maxHeartbeats 4000000 in
theorem turn_any (key nonce t : ByteArray) (hk : key.size = 32) (hn : nonce.size = 12) (ht : t.size ≤ 200) (w : World) :
    Calls Tryz.prog 102 #[.string key, .string nonce, .string t] w fun e w' => e = .returned (.string (streamF key nonce t)) ∧ Below w.heap.size w w' := by
  obtain ⟨G, hG⟩ : ∃ G : Nat → Int, G = fun i => bits .xor .u8 (sb t i) (sb (sblk key nonce (i / 64)) (i % 64)) := ⟨_, rfl⟩
  have HR : Hid (bstr t.size G = streamF key nonce t) := Hid.mk (by rw [hG]; rfl)
  have HG : Hid (∀ i, bits .xor .u8 (sb t i) (sb (sblk key nonce (i / 64)) (i % 64)) = G i) := Hid.mk (fun i => by rw [hG])
  have zT : (words0 key nonce).size = 64 := by unfold words0; simp only [ByteArray.size_append, hk, hn, bstr_size, sOpen_size]
  have HT : Hid ((⟨#[101, 120, 112, 97, 110, 100, 32, 51, 50, 45, 98, 121, 116, 101, 32, 107]⟩ : ByteArray) ++ key ++ (⟨#[0, 0, 0, 0]⟩ : ByteArray) ++ nonce = words0 key nonce) := Hid.mk rfl
  have HT2 : Hid ((⟨#[101, 120, 112, 97, 110, 100, 32, 51, 50, 45, 98, 121, 116, 101, 32, 107]⟩ : ByteArray) = sOpen) := Hid.mk rfl
  have HT3 : Hid ((⟨#[0, 0, 0, 0]⟩ : ByteArray) = bstr 4 (fun _ => 0)) := Hid.mk rfl
  obtain ⟨f0, hf0⟩ : ∃ f, f = lword (fun i => sb (words0 key nonce) i) := ⟨_, rfl⟩
  have HW : Hid (∀ (g : Nat → Int) (n : Nat), (∀ i, i < 16 → i ≠ 12 → g i = f0 i) → tab .u32 16 (upd g 12 (n : Int)) = tab .u32 16 (swords key nonce n)) := Hid.mk (fun g n hg => tab_congr fun i hi => by
    unfold swords fstn
    rw [if_pos hi, ← hf0]
    unfold upd
    by_cases e : i = 12
    · rw [if_pos e, if_pos e]
    · rw [if_neg e, if_neg e]; exact hg i hi e)
  have HF0 : Hid _ := hf0
  clear hG hf0
  go_enter Tryz.func102, Tryz.ntmps102
  go_wp2_with (first
    | (go_at_call 132; rw [HT.out]; have M := wordsOf_any (words0 key nonce) zT w; with_reducible refine M.mono ?_; clear M; rintro e w1 ⟨rfl, hb1⟩; rw [← HF0.out]; have s1 := hb1.size)
    | (refine wpl_store rtQ rfl _ _ rfl w1.heap.size rfl (tab .u32 16 f0) rfl ?_ (tab_size _ _ _) (tab_all _ _ _) (w1.alloc (c16 f0)) ?_ ?_; (focus (simp [go_sem]; done)); (focus (simp [go_sem]; done)))
    | (refine wpl_bytes rfl 9 87 5 _ rfl Tryz.underlying9 Tryz.underlying87 Tryz.underlying5 t rfl ?_; intro cap W hcap hcell hfz hb hsz))
  have sW : W.heap.size = w1.heap.size + 1 + 1 := by rw [hsz]; simp
  have I0 : Hid (TI w (W.alloc (d64 (fun _ => 0))) w1.heap.size (w1.heap.size + 1) (w1.heap.size + 1 + 1) t.size f0 f0 (fun _ => 0) (thro 0 G (sb t))) := by
    have hz1 : (w1.alloc (c16 f0)).heap.size = w1.heap.size + 1 := by simp
    rw [hz1] at hb hcell hfz
    have r7 : W.rowOf w1.heap.size = tab .u32 16 f0 := by rw [below_row_lt hb (by omega)]; simp [go_sem]
    have B : Below w.heap.size w W := (hb1.alloc s1 _).trans (hb.mono (by omega))
    have hl : w1.heap.size + 1 < W.heap.size := by omega
    have hba := by_alloc W (d64 (fun _ => 0))
    exact ⟨by rw [below_row hba (by rw [r7, tab_size]; omega)]; exact r7, fun _ _ _ => rfl, by rw [← sW]; simp [go_sem], fun j hj => by rw [hba.cell hl, thro_zero]; exact hcell j hj, fun j hj => by rw [hba.frozen hl]; exact hfz j hj, by omega, by omega, by omega, by simp; omega, s1, by omega, by omega, B.alloc (by omega) _⟩
  rw [HT2.out, HT3.out]
  clear hb hcell hfz hsz hb1
  go_loopw [10] (fun i wq => ∃ (k : Nat) (f m : Nat → Int), k ≤ t.size ∧ i = .int .i64 k ∧ Hid (TI w wq w1.heap.size (w1.heap.size + 1) (w1.heap.size + 1 + 1) t.size f0 f m (thro k G (sb t))) ∧ Hid (k % 64 ≠ 0 → ∀ j, j < 64 → m j = sb (sblk key nonce (k / 64)) j)) (fun i _ => t.size - (intOf i).toNat)
  case atStart => exact ⟨0, _, _, by omega, rfl, I0, Hid.mk (fun h => absurd rfl h)⟩
  case round =>
    clear I0
    obtain ⟨k, f, m, hk2, rfl, TI0, MM0⟩ := hrel
    by_cases hlt : k < t.size
    · have c1 : (k : Int) < t.size := by omega
      obtain ⟨q, hq⟩ : ∃ q, q = k / 64 := ⟨_, rfl⟩
      obtain ⟨p, hp⟩ : ∃ p, p = k % 64 := ⟨_, rfl⟩
      have e1 : (k : Int) / 64 = (q : Int) := by omega
      have e2 : (k : Int) % 64 = (p : Int) := by omega
      have lp : p < 64 := by omega
      have lp2 : (p : Int) < 64 := by omega
      have lq : (q : Int) ≤ 3 := by omega
      have HPE : Hid (sb (sblk key nonce q) p = sb (sblk key nonce (k / 64)) (k % 64)) := Hid.mk (by rw [hq, hp])
      have HKS : Hid (∀ (m : Nat → Int), (∀ j, j < 64 → m j = sb (sblk key nonce q) j) → (k + 1) % 64 ≠ 0 → ∀ j, j < 64 → m j = sb (sblk key nonce ((k + 1) / 64)) j) := Hid.mk (fun m hm h j hj => by rw [hm j hj, hq, show (k + 1) / 64 = k / 64 by omega])
      by_cases hz : k % 64 = 0
      · have hp0 : p = 0 := by omega
        have c2 : ((p : Int) == 0) = true := by simp; omega
        have y7 : wr.cell? ⟨w1.heap.size, 12, none⟩ = some (.int .u32 (f 12)) := cell_of_row TI0.out.r7 12 (by decide)
        have z7 : wr.frozen? ⟨w1.heap.size, 12, none⟩ = false := rowfz2 TI0.out.r7 12 (by rw [tab_size]; decide)
        have T1 := TI0.out.set7 (q : Int)
        have R1 : (wr.setCell ⟨w1.heap.size, 12, none⟩ (.int .u32 (q : Int))).rowOf w1.heap.size = tab .u32 16 (swords key nonce q) := by rw [T1.r7]; exact HW.out f q TI0.out.e7
        have HT1 : Hid _ := T1
        have HSB : Hid (∀ i, B32 (swords key nonce q i)) := Hid.mk (swords_bd key nonce q (by omega))
        have HBL : Hid (∀ j, j < 64 → blkB (swords key nonce q) j = sb (sblk key nonce q) j) := Hid.mk (blk_sb key nonce q)
        clear T1 hq hp
        generalize swords key nonce q = S at R1 HSB HBL
        go_wp2_with (first
          | (refine wpl_load rtQ rfl _ rfl w1.heap.size rfl (tab .u32 16 S) ?_ (tab_size _ _ _) ?_; (focus (exact R1)))
          | (go_at_call 133; have M := wblock_any S HSB.out (wr.setCell ⟨w1.heap.size, 12, none⟩ (.int .u32 (q : Int))); with_reducible refine M.mono ?_; clear M; rintro e w2 ⟨rfl, hb2⟩; have T2 := HT1.out.below hb2; have r9 := T2.r9; have HT4 := Hid.mk T2; clear T2)
          | (refine wpl_store rtB rfl _ _ rfl (w1.heap.size + 1 + 1) rfl (tab .u8 64 (blkB S)) rfl ?_ (tab_size _ _ _) (tab_all _ _ _) _ rfl ?_; (focus (rw [r9, tab_size]))))
        have TT : Hid _ := HT4.out.set9 (blkB S)
        have y8 := TT.out.h1 k hlt
        have z8 := TT.out.h2 k hlt
        rw [thro_at] at y8
        have y9 := cell_of_row TT.out.r9 p lp
        have hx : bits .xor .u8 (sb t k) ((blkB S) p) = G k := by rw [HBL.out p lp, HPE.out]; exact HG.out k
        rw [hp0] at y9 hx
        generalize w2.setRow (w1.heap.size + 1 + 1) (tab .u8 64 (blkB S)) = W4 at TT y8 z8 y9 ⊢
        clear HT4 HT1 R1 r9 hb2 y7 z7
        simp only [Act.put]
        go_region
        go_wp2
        go_roundw
        case rel =>
          have T5 := (TT.out.set8 k hlt (G k)).drew
          rw [thro_step] at T5
          exact ⟨k + 1, _, _, by omega, by go_num, T5, Hid.mk (HKS.out _ HBL.out)⟩
        case measure => simp [intOf]; omega
      · have c2 : ((p : Int) == 0) = false := by simp; omega
        have hmm : ∀ j, j < 64 → m j = sb (sblk key nonce q) j := by rw [hq]; exact MM0.out hz
        have HMM : Hid _ := hmm
        have TT : Hid _ := TI0.out
        have y8 := TT.out.h1 k hlt
        have z8 := TT.out.h2 k hlt
        rw [thro_at] at y8
        have y9 := cell_of_row TT.out.r9 p lp
        have hx : bits .xor .u8 (sb t k) (m p) = G k := by rw [HMM.out p lp, HPE.out]; exact HG.out k
        have z9 := lp2
        clear hq hp hmm
        go_wp2_with fail
        go_region
        go_wp2
        go_roundw
        case rel =>
          have T5 := (TT.out.set8 k hlt (G k)).drew
          rw [thro_step] at T5
          exact ⟨k + 1, _, _, by omega, by go_num, T5, Hid.mk (HKS.out _ HMM.out)⟩
        case measure => simp [intOf]; omega
    · have hk' : k = t.size := by omega
      subst hk'
      have c1 : ¬ (t.size : Int) < t.size := by omega
      go_wp2_with (refine wpl_string rfl 87 9 5 _ rfl Tryz.underlying87 Tryz.underlying5 Tryz.underlying9 (w1.heap.size + 1) t.size cap rfl _ TI0.out.h1 ?_)
      go_ret
      exact ⟨congrArg (fun z => Ending.returned (Value.string z)) (by rw [← HR.out]; exact bstr_congr fun i hi => by simp [thro, hi]), TI0.out.bl⟩
end Go.Proofs.YteghoooelgcpkabGreatDoor
namespace Go.Msg
open Go.RowKit Go.Proofs.YteghoooelgcpkabGreatDoor
def sRoot : ByteArray := ⟨#[114, 111, 111, 116]⟩
def sMK : ByteArray := ⟨#[109, 101, 115, 115, 97, 103, 101, 32, 107, 101, 121, 115]⟩
def sOne : ByteArray := ⟨#[1]⟩
def sTwo : ByteArray := ⟨#[2]⟩
def sNil : ByteArray := ⟨#[]⟩
def rootA (r s : ByteArray) : ByteArray := (hkdfF r s sRoot 64).extract 0 32
def rootC (r s : ByteArray) : ByteArray := (hkdfF r s sRoot 64).extract 32 64
def keyF (c : ByteArray) : ByteArray := macF c sOne
def behF (c : ByteArray) : ByteArray := macF c sTwo
def sealK (k : ByteArray) : ByteArray := hkdfF sNil k sMK 76
def turnF (k t : ByteArray) : ByteArray := streamF ((sealK k).extract 0 32) ((sealK k).extract 64 76) t
def tagF (k with_ turned : ByteArray) : ByteArray := macF ((sealK k).extract 32 64) (be 4 (with_.size : Int) ++ with_ ++ turned)
theorem sealK_size (k : ByteArray) : (sealK k).size = 76 := hkdfF_size _ _ _ _
theorem ext_size {a : ByteArray} {i j : Nat} (h : j ≤ a.size) : (a.extract i j).size = j - i := by rw [ByteArray.size_extract]; omega
theorem rootA_size (r s : ByteArray) : (rootA r s).size = 32 := ext_size (by rw [hkdfF_size]; omega)
theorem rootC_size (r s : ByteArray) : (rootC r s).size = 32 := ext_size (by rw [hkdfF_size]; omega)
theorem keyF_size (c : ByteArray) : (keyF c).size = 32 := macF_size _ _
theorem behF_size (c : ByteArray) : (behF c).size = 32 := macF_size _ _
theorem turnF_size (k t : ByteArray) : (turnF k t).size = t.size := streamF_size _ _ _
theorem tagF_size (k a b : ByteArray) : (tagF k a b).size = 32 := macF_size _ _
theorem ext_ext (a : ByteArray) (i j k l : Nat) (h : i + l ≤ j) (hj : j ≤ a.size) : (a.extract i j).extract k l = a.extract (i + k) (i + l) := by
  apply ba_ext
  · simp only [ByteArray.size_extract]; omega
  · intro n hn
    simp only [ByteArray.size_extract] at hn
    rw [sb_extract (a.extract i j) k l n (by omega) (by rw [ByteArray.size_extract]; omega), sb_extract a i j (k + n) (by omega) hj, sb_extract a (i + k) (i + l) n (by omega) (by omega)]
    congr 1; omega
end Go.Msg
namespace Go.Proofs.YteghoooelgcpkabGreatDoor
open Go.RowKit Go.Msg
theorem expand64 (p : Value) (k t u : ByteArray) (hk : k.size ≤ 64) (ht : t.size ≤ 1000) (hu : u.size ≤ 100) (w : World) (hp : PrimAt w p) :
    Calls Tryz.prog 79 #[p, .string k, .string t, .string u, .int .i64 64] w fun e w' => e = .returned (.string (hkdfF k t u 64)) ∧ Below w.heap.size w w' := expand_any p k t u 64 hk ht hu (by omega) w hp
end Go.Proofs.YteghoooelgcpkabGreatDoor
namespace Go.Proofs.YteghoooelgcpkabGreatDoor
open Go.RowKit Go.Msg
set_option maxHeartbeats 1000000 in
theorem cut32 (t : ByteArray) (h : 32 ≤ t.size) (h2 : t.size ≤ 1000) (w : World) : Calls Tryz.prog 99 #[.string t, .int .i64 32] w fun e w' => e = .returned (.tuple #[.string (t.extract 0 32), .string (t.extract 32 t.size)]) ∧ ∃ q, w' = w.drewN q := by
  have c1 : ¬ (32 : Int) > t.size := by omega
  have c2 : (32 : Int) ≤ t.size := by omega
  go_enter Tryz.func99, Tryz.ntmps99
  go_wp2_with fail
  go_region
  go_wp2
  go_ret2
  exact ⟨rfl, 1, rfl⟩
theorem derive64 (k t u : ByteArray) (hk : k.size ≤ 64) (ht : t.size ≤ 1000) (hu : u.size ≤ 100) (w : World) (hT : Tbl w) :
    Calls Tryz.prog 98 #[.string k, .string t, .string u, .int .i64 64] w fun e w' => e = .returned (.string (hkdfF k t u 64)) ∧ Below w.heap.size w w' := derive_any k t u 64 hk ht hu (by omega) w hT
theorem derive76 (k t u : ByteArray) (hk : k.size ≤ 64) (ht : t.size ≤ 1000) (hu : u.size ≤ 100) (w : World) (hT : Tbl w) :
    Calls Tryz.prog 98 #[.string k, .string t, .string u, .int .i64 76] w fun e w' => e = .returned (.string (hkdfF k t u 76)) ∧ Below w.heap.size w w' := derive_any k t u 76 hk ht hu (by omega) w hT
theorem below_drewN {B : Nat} {a w : World} (h : Below B a w) (n : Nat) : Below B a (w.drewN n) := ⟨h.os, h.tape, h.output, h.size, h.block⟩
set_option maxHeartbeats 1000000 in
theorem root_any (r s : ByteArray) (hr : r.size = 32) (hs : s.size = 32) (w : World) (hT : Tbl w) :
    Calls Tryz.prog 69 #[.string r, .string s] w fun e w' => e = .returned (.tuple #[.string (rootA r s), .string (rootC r s)]) ∧ Below w.heap.size w w' := by
  have hz : (hkdfF r s sRoot 64).size = 64 := hkdfF_size _ _ _ _
  have HA : Hid ((hkdfF r s sRoot 64).extract 0 32 = rootA r s) := Hid.mk rfl
  have HC : Hid ((hkdfF r s sRoot 64).extract 32 (hkdfF r s sRoot 64).size = rootC r s) := Hid.mk (by rw [hz]; rfl)
  go_enter Tryz.func69, Tryz.ntmps69
  go_wp2_with (first
    | (go_at_call 98; refine (derive64 r s sRoot (by omega) (by omega) (by decide) _ hT).mono ?_; rintro e w1 ⟨rfl, hb⟩)
    | (go_at_call 99; have M := cut32 (hkdfF r s sRoot 64) (by omega) (by omega) w1; with_reducible refine M.mono ?_; clear M; rintro e w2 ⟨rfl, q, rfl⟩; rw [HA.out, HC.out]))
  go_ret2
  exact ⟨rfl, below_drewN hb q⟩
set_option maxHeartbeats 1000000 in
theorem messageKey_any (c : ByteArray) (hc : c.size ≤ 64) (w : World) (hT : Tbl w) : Calls Tryz.prog 72 #[.string c] w fun e w' => e = .returned (.string (keyF c)) ∧ Below w.heap.size w w' := by
  go_enter Tryz.func72, Tryz.ntmps72
  go_wp2_with (go_at_call 100; refine (dmac_any c sOne hc (by decide) _ hT).mono ?_; rintro e w1 ⟨rfl, hb⟩)
  go_ret
  exact ⟨rfl, hb⟩
set_option maxHeartbeats 1000000 in
theorem behind_any (c : ByteArray) (hc : c.size ≤ 64) (w : World) (hT : Tbl w) : Calls Tryz.prog 74 #[.string c] w fun e w' => e = .returned (.string (behF c)) ∧ Below w.heap.size w w' := by
  go_enter Tryz.func74, Tryz.ntmps74
  go_wp2_with (go_at_call 100; refine (dmac_any c sTwo hc (by decide) _ hT).mono ?_; rintro e w1 ⟨rfl, hb⟩)
  go_ret
  exact ⟨rfl, hb⟩
def skC (k : ByteArray) : Array Value := #[.string ((sealK k).extract 0 32), .string ((sealK k).extract 32 64), .string ((sealK k).extract 64 76)]
def sk0 : Array Value := #[.string ⟨#[]⟩, .string ⟨#[]⟩, .string ⟨#[]⟩]
theorem sk0_pos : 0 < sk0.size := by decide
theorem row_drewN {w : World} {n g : Nat} {c : Array Value} (h : w.rowOf g = c) : (w.drewN n).rowOf g = c := h
theorem rowcel {W : World} {g : Nat} {c : Array Value} (h : W.rowOf g = c) (j : Nat) (v : Value) (hj : c[j]? = some v) : W.cell? ⟨g, j, none⟩ = some v := by
  have hlt : j < c.size := (Array.getElem?_eq_some_iff.1 hj).1
  rw [(cell_of_rowOf h j hlt).1, hj]
theorem rtKeys : RowTy Tryz.prog 153 3 := ⟨by decide, by kernel_rfl, _, Tryz.underlying153, rfl⟩
theorem skC_size (k : ByteArray) : (skC k).size = 3 := rfl
theorem skC_one (k : ByteArray) : (skC k).all (·.oneCell') = true := by simp [skC, Value.oneCell']
theorem sk_c0 {w : World} {g : Nat} {k : ByteArray} (h : w.rowOf g = skC k) : w.cell? ⟨g, 0, none⟩ = some (.string ((sealK k).extract 0 32)) := rowcel h 0 _ rfl
theorem sk_c2 {w : World} {g : Nat} {k : ByteArray} (h : w.rowOf g = skC k) : w.cell? ⟨g, 2, none⟩ = some (.string ((sealK k).extract 64 76)) := rowcel h 2 _ rfl
theorem new_stored {w w1 : World} (B1 : Below w.heap.size w w1) (z c : Array Value) (t : Nat) (hz : 0 < z.size) : (w1.alloc (.cells z t)).rowOf w1.heap.size = z ∧ ∃ W, W = (w1.alloc (.cells z t)).setRow w1.heap.size c ∧ W.rowOf w1.heap.size = c ∧ Below w.heap.size w W ∧ w1.heap.size < W.heap.size := by
  have r : (w1.alloc (.cells z t)).rowOf w1.heap.size = z := by simp [go_sem]
  refine ⟨r, _, rfl, rowOf_setRow_same (by rw [r]; exact hz), below_setRow (B1.alloc B1.size _) B1.size _, ?_⟩
  simp [World.setRow]
set_option maxHeartbeats 2000000 in
theorem sealKeysOf_any (k : ByteArray) (hk : k.size ≤ 64) (w : World) (hT : Tbl w) :
    Calls Tryz.prog 101 #[.string k] w fun e w' => e = .returned (.agg (skC k)) ∧ Below w.heap.size w w' := by
  have hz := sealK_size k
  have HK : Hid (hkdfF sNil k sMK 76 = sealK k) := Hid.mk rfl
  have HSK : Hid (skC k = #[.string ((sealK k).extract 0 32), .string ((sealK k).extract 32 64), .string ((sealK k).extract 64 76)]) := Hid.mk rfl
  rw [HSK.out]
  generalize sealK k = s at *
  have x0 : (s.extract 0 32).size = 32 := ext_size (by omega)
  have x1 : (s.extract 32 64).size = 32 := ext_size (by omega)
  have x2 : (s.extract 64 76).size = 12 := ext_size (by omega)
  have x3 : (s.extract 32 76).size = 44 := ext_size (by omega)
  have HE0 : Hid (s.extract 32 s.size = s.extract 32 76) := Hid.mk (by rw [hz])
  have HE1 : Hid ((s.extract 32 76).extract 0 32 = s.extract 32 64) := Hid.mk (ext_ext s 32 76 0 32 (by omega) (by omega))
  have HE2 : Hid ((s.extract 32 76).extract 32 (s.extract 32 76).size = s.extract 64 76) := Hid.mk (by rw [x3]; exact ext_ext s 32 76 32 44 (by omega) (by omega))
  clear HSK
  go_enter Tryz.func101, Tryz.ntmps101
  have B0 : Below w.heap.size w (w.alloc (.cells sk0 153)) := by_alloc w _
  have R0 : (w.alloc (.cells sk0 153)).rowOf w.heap.size = sk0 := by simp [go_sem]
  go_wp2_with (first
    | (go_at_call 98; refine (derive76 sNil k sMK (by decide) (by omega) (by decide) _ (hT.below B0)).mono ?_; rintro e w1 ⟨rfl, hb1⟩; rw [HK.out]; have r1 : w1.rowOf w.heap.size = sk0 := (by rw [below_row hb1 (by rw [R0]; exact sk0_pos)]; exact R0); have B1 := below_lift B0 (by simp) hb1; have s1 := B1.size; clear hb1 B0 R0)
    | (go_at_call 99; have M := cut32 s (by omega) (by omega) w1; with_reducible refine M.mono ?_; clear M; rintro e w2 ⟨rfl, q2, rfl⟩; rw [HE0.out]; have B2 := below_drewN B1 q2; have r2 := row_drewN (n := q2) r1; generalize w1.drewN q2 = w2 at B2 r2 ⊢)
    | (go_at_call 99; have M := cut32 (s.extract 32 76) (by omega) (by omega) w2; with_reducible refine M.mono ?_; clear M; rintro e w3 ⟨rfl, q3, rfl⟩; rw [HE1.out, HE2.out]; have B3 := below_drewN B2 q3; have r3 := row_drewN (n := q3) r2; generalize w2.drewN q3 = w3 at B3 r3 ⊢; have s3 := B3.size)
    | (refine wpl_store rtKeys rfl _ _ rfl w.heap.size rfl _ rfl ?_ ?_ ?_ _ rfl ?_; (focus (rw [r3]; rfl)); (focus rfl); (focus (simp [Value.oneCell']; done)))
    | fail)
  refine bodyPost_ret (results_row rtKeys Tryz.results101 _ _ w.heap.size rfl ?_) rfl ?_
  · rw [rowOf_setRow_same (by rw [r3]; decide)]; rfl
  · rw [rowOf_setRow_same (by rw [r3]; decide)]; exact ⟨rfl, below_setRow B3 (Nat.le_refl _) _⟩
set_option maxHeartbeats 2000000 in
theorem tagOf_any (k a t : ByteArray) (ha : a.size ≤ 200) (ht : t.size ≤ 200) (w : World) (hT : Tbl w) :
    Calls Tryz.prog 103 #[.agg (skC k), .string a, .string t] w fun e w' => e = .returned (.string (tagF k a t)) ∧ Below w.heap.size w w' := by
  have ca : (a.size : Int) ≤ 200 := by omega
  have hz := sealK_size k
  have HG : Hid (macF ((sealK k).extract 32 64) (be 4 (a.size : Int) ++ a ++ t) = tagF k a t) := Hid.mk rfl
  have zf : (be 4 (a.size : Int)).size = 4 := be_size _ _
  rw [skC]
  generalize sealK k = s at *
  have x1 : (s.extract 32 64).size = 32 := ext_size (by omega)
  have B0 : Below w.heap.size w (w.alloc (.cells #[.string (s.extract 0 32), .string (s.extract 32 64), .string (s.extract 64 76)] 153)) := by_alloc w _
  have R0 : (w.alloc (.cells #[.string (s.extract 0 32), .string (s.extract 32 64), .string (s.extract 64 76)] 153)).rowOf w.heap.size = #[.string (s.extract 0 32), .string (s.extract 32 64), .string (s.extract 64 76)] := by simp [go_sem]
  have HR0 := Hid.mk R0
  have HRC : Hid (∀ W : World, W.rowOf w.heap.size = #[.string (s.extract 0 32), .string (s.extract 32 64), .string (s.extract 64 76)] → W.cell? ⟨w.heap.size, 1, none⟩ = some (.string (s.extract 32 64))) := Hid.mk (fun W h => rowcel h 1 _ rfl)
  clear R0
  go_enter Tryz.func103, Tryz.ntmps103
  go_wp2_with (first
    | (go_at_call 94; have M := otext4 (a.size : Int) ⟨by omega, by omega⟩ (w.alloc (.cells #[.string (s.extract 0 32), .string (s.extract 32 64), .string (s.extract 64 76)] 153)); with_reducible refine M.mono ?_; clear M; rintro e w5 ⟨rfl, hb5⟩; have B5 := below_lift B0 (by simp) hb5; have s5 := B5.size; have hT5 := hT.below B5; have R5 := (below_row hb5 (by rw [HR0.out]; simp)).trans HR0.out; have f1 := HRC.out _ R5; clear R5)
    | (go_at_call 100; refine (dmac_any (s.extract 32 64) (be 4 (a.size : Int) ++ a ++ t) (by omega) ?_ _ hT5).mono ?_; (focus (simp only [ByteArray.size_append]; omega)); rintro e w6 ⟨rfl, hb6⟩; rw [HG.out])
    | fail)
  go_ret
  exact ⟨rfl, below_lift B5 s5 hb6⟩
set_option maxHeartbeats 2000000 in
theorem seal_any (k a t : ByteArray) (hk : k.size ≤ 64) (ha : a.size ≤ 200) (ht : t.size ≤ 200) (w : World) (hT : Tbl w) :
    Calls Tryz.prog 73 #[.string k, .string a, .string t] w fun e w' => e = .returned (.tuple #[.string (turnF k t), .string (tagF k a (turnF k t))]) ∧ Below w.heap.size w w' := by
  have hz := sealK_size k
  have HTT : Hid (streamF ((sealK k).extract 0 32) ((sealK k).extract 64 76) t = turnF k t) := Hid.mk rfl
  have zt : (turnF k t).size ≤ 200 := by rw [turnF_size]; exact ht
  have x0 : ((sealK k).extract 0 32).size = 32 := ext_size (by omega)
  have x2 : ((sealK k).extract 64 76).size = 12 := ext_size (by omega)
  have HT := Hid.mk hT
  clear hT
  go_enter Tryz.func73, Tryz.ntmps73
  go_wp2_with (first
    | (go_at_call 101; have M := sealKeysOf_any k hk w HT.out; with_reducible refine M.mono ?_; clear M; rintro e w1 ⟨rfl, B1⟩; obtain ⟨r1, w2, hw2, R2, B2, z2⟩ := new_stored B1 sk0 (skC k) 153 sk0_pos; have s2 := B2.size; have f0 := sk_c0 R2; have f2 := sk_c2 R2; have HR2 := Hid.mk R2; clear R2)
    | (refine wpl_store rtKeys rfl _ _ rfl w1.heap.size rfl (skC k) rfl ?_ (skC_size k) (skC_one k) w2 hw2.symm ?_; (focus (exact congrArg Array.size r1)); clear hw2 r1)
    | (go_at_call 102; have M := turn_any ((sealK k).extract 0 32) ((sealK k).extract 64 76) t x0 x2 ht w2; with_reducible refine M.mono ?_; clear M; rintro e w4 ⟨rfl, hb4⟩; rw [HTT.out]; have B4 := below_lift B2 s2 hb4; have s4 := B4.size; have R4 := (below_row hb4 (by rw [HR2.out, skC_size]; omega)).trans HR2.out)
    | (refine wpl_load rtKeys rfl _ rfl w1.heap.size rfl (skC k) R4 (skC_size k) ?_)
    | (go_at_call 103; have M := tagOf_any k a (turnF k t) ha zt w4 (HT.out.below B4); with_reducible refine M.mono ?_; clear M; rintro e w6 ⟨rfl, hb6⟩)
    | fail)
  go_ret2
  exact ⟨rfl, below_lift B4 s4 hb6⟩
def orX (a b : ByteArray) : Nat → Int
  | 0 => 0
  | k + 1 => bits .or .u8 (orX a b k) (bits .xor .u8 (sb a k) (sb b k))
theorem xor8_nat (a b : Nat) (ha : a < 256) (hb : b < 256) : bits .xor .u8 (a : Int) (b : Int) = ((a ^^^ b : Nat) : Int) := by
  have ha' : a % 2 ^ IntKind.u8.bits = a := Nat.mod_eq_of_lt ha
  have hb' : b % 2 ^ IntKind.u8.bits = b := Nat.mod_eq_of_lt hb
  simp only [bits, BitVec.ofInt_natCast, BitVec.toNat_xor, BitVec.toNat_ofNat, ha', hb']
  have h : a ^^^ b < 256 := Nat.xor_lt_two_pow (n := 8) ha hb
  exact wraps_u8 _ (Int.natCast_nonneg _) (by omega)
theorem xor8_zero {x y : Int} (hx : 0 ≤ x ∧ x < 256) (hy : 0 ≤ y ∧ y < 256) : (bits .xor .u8 x y = 0 ↔ x = y) ∧ 0 ≤ bits .xor .u8 x y ∧ bits .xor .u8 x y < 256 := by
  obtain ⟨a, rfl⟩ : ∃ a : Nat, x = a := ⟨x.toNat, by omega⟩
  obtain ⟨b, rfl⟩ : ∃ b : Nat, y = b := ⟨y.toNat, by omega⟩
  have h : a ^^^ b < 256 := Nat.xor_lt_two_pow (n := 8) (by omega) (by omega)
  rw [xor8_nat a b (by omega) (by omega)]
  refine ⟨⟨fun e => ?_, fun e => ?_⟩, by omega, by omega⟩
  · have : a ^^^ b = 0 := by omega
    have e : (a ^^^ b) ^^^ b = a := by rw [Nat.xor_assoc, Nat.xor_self, Nat.xor_zero]
    rw [this, Nat.zero_xor] at e
    omega
  · have : a = b := by omega
    subst this; simp
theorem or8_zero' {x y : Int} (hx : 0 ≤ x ∧ x < 256) (hy : 0 ≤ y ∧ y < 256) : bits .or .u8 x y = 0 ↔ x = 0 ∧ y = 0 := by
  obtain ⟨a, rfl⟩ : ∃ a : Nat, x = a := ⟨x.toNat, by omega⟩
  obtain ⟨b, rfl⟩ : ∃ b : Nat, y = b := ⟨y.toNat, by omega⟩
  rw [(bits_nat .u8 8 (by decide) wraps_u8 a b (by omega) (by omega)).2]
  constructor
  · intro h
    have h0 : a ||| b = 0 := by omega
    have := Nat.or_eq_zero_iff.1 h0
    omega
  · rintro ⟨h1, h2⟩
    have e1 : a = 0 := by omega
    have e2 : b = 0 := by omega
    subst e1 e2; rfl
theorem orX_bd (a b : ByteArray) (k : Nat) : 0 ≤ orX a b k ∧ orX a b k < 256 := by
  cases k with
  | zero => simp [orX]
  | succ k => exact ⟨bits_lo_u8 _ _ _, by have := bits_hi_u8 .or (orX a b k) (bits .xor .u8 (sb a k) (sb b k)); rw [orX]; omega⟩
theorem orX_zero (a b : ByteArray) (k : Nat) : orX a b k = 0 ↔ ∀ i, i < k → sb a i = sb b i := by
  induction k with
  | zero => simp [orX]
  | succ k ih =>
    have ha := sb_bd a k
    have hb := sb_bd b k
    obtain ⟨x1, x2, x3⟩ := xor8_zero (x := sb a k) (y := sb b k) (by omega) (by omega)
    rw [orX, or8_zero' (orX_bd a b k) ⟨x2, x3⟩, ih, x1]
    constructor
    · intro h i hi
      by_cases e : i = k
      · subst e; exact h.2
      · exact h.1 i (by omega)
    · intro h; exact ⟨fun i hi => h i (by omega), h k (by omega)⟩
set_option maxHeartbeats 2000000 in
theorem alike_any (a b : ByteArray) (ha : a.size = 32) (hb : b.size = 32) (w : World) :
    Calls Tryz.prog 161 #[.string a, .string b] w fun e w' => e = .returned (.bool (decide (a = b))) ∧ ∃ q, w' = w.drewN q := by
  have c0 : ((a.size : Int) != (b.size : Int)) = false := by simp; omega
  have c00 : (a.size : Int) = (b.size : Int) := by omega
  have HA := Hid.mk ha
  have hab : a.size = b.size := by omega
  have HAB := Hid.mk hab
  have cA : (a.size : Int) ≤ 100 := by omega
  clear ha hb
  go_enter Tryz.func161, Tryz.ntmps161
  go_wp2
  go_loopw [5, 6] (fun x i wr => ∃ (y : Int) (k : Nat), x = .int .u8 y ∧ i = .int .i64 k ∧ k ≤ a.size ∧ Hid (y = orX a b k) ∧ ∃ q, wr = w.drewN q) (fun _ i _ => a.size - (intOf i).toNat)
  case atStart => exact ⟨0, 0, rfl, rfl, by omega, Hid.mk rfl, 0, rfl⟩
  case round =>
    obtain ⟨y, k, rfl, rfl, hk, HY, q, rfl⟩ := hrel
    by_cases hlt : k < a.size
    · have c3 : (k : Int) < a.size := by omega
      have c4 : k < b.size := by omega
      have c5 : (k : Int) < b.size := by omega
      have HV : Hid (sb a k = (a[k].toNat : Int)) := Hid.mk (sb_at a k hlt)
      have HW : Hid (sb b k = (b[k].toNat : Int)) := Hid.mk (sb_at b k c4)
      clear c0 c00 hab
      go_wp2_with fail
      go_region
      go_wp2
      go_roundw
      case rel => exact ⟨_, k + 1, rfl, by go_num, by omega, Hid.mk (by rw [orX, ← HY.out, HV.out, HW.out]), q + 1, rfl⟩
      case measure => simp [intOf]; omega
    · have c3 : ¬ (k : Int) < a.size := by omega
      have hk' : k = a.size := by omega
      have HE : Hid ((y == 0) = decide (a = b)) := Hid.mk (by
        rw [Bool.eq_iff_iff]
        simp only [beq_iff_eq, decide_eq_true_eq]
        rw [HY.out, hk', orX_zero]
        constructor
        · intro h; exact ba_ext HAB.out (fun i hi => h i hi)
        · intro h i _; rw [h])
      clear hk' c0 c00 hab
      go_wp2
      go_ret
      exact ⟨congrArg (fun z => Ending.returned (Value.bool z)) HE.out, q, rfl⟩
set_option maxHeartbeats 2000000 in
theorem open_any (k a t g : ByteArray) (hk : k.size ≤ 64) (ha : a.size ≤ 200) (ht : t.size ≤ 200) (hg : g.size = 32) (w : World) (hT : Tbl w) :
    Calls Tryz.prog 137 #[.string k, .string a, .string t, .string g] w fun e w' => ((tagF k a t = g ∧ e = .returned (.tuple #[.string (turnF k t), .bool true])) ∨ (tagF k a t ≠ g ∧ e = .returned (.tuple #[.string ⟨#[]⟩, .bool false]))) ∧ Below w.heap.size w w' := by
  have hz := sealK_size k
  have HTT : Hid (streamF ((sealK k).extract 0 32) ((sealK k).extract 64 76) t = turnF k t) := Hid.mk rfl
  have x0 : ((sealK k).extract 0 32).size = 32 := ext_size (by omega)
  have x2 : ((sealK k).extract 64 76).size = 12 := ext_size (by omega)
  have zg := tagF_size k a t
  have HT := Hid.mk hT
  clear hT
  by_cases hq : tagF k a t = g
  · have HQ := Hid.mk hq
    have HD : Hid (decide (g = tagF k a t) = true) := Hid.mk (by simp [hq])
    clear hq
    go_enter Tryz.func137, Tryz.ntmps137
    go_wp2_with (first
      | (go_at_call 101; have M := sealKeysOf_any k hk w HT.out; with_reducible refine M.mono ?_; clear M; rintro e w1 ⟨rfl, B1⟩; obtain ⟨r1, w2, hw2, R2, B2, z2⟩ := new_stored B1 sk0 (skC k) 153 sk0_pos; have s2 := B2.size; have HR2 := Hid.mk R2)
      | (refine wpl_store rtKeys rfl _ _ rfl w1.heap.size rfl (skC k) rfl ?_ (skC_size k) (skC_one k) w2 hw2.symm ?_; (focus (exact congrArg Array.size r1)); clear hw2 r1)
      | (refine wpl_load rtKeys rfl _ rfl w1.heap.size rfl (skC k) R2 (skC_size k) ?_)
      | (go_at_call 103; have M := tagOf_any k a t ha ht w2 (HT.out.below B2); with_reducible refine M.mono ?_; clear M; rintro e w4 ⟨rfl, hb4⟩; have B4 := below_lift B2 s2 hb4; have s4 := B4.size; have R4 := (below_row hb4 (by rw [HR2.out, skC_size]; omega)).trans HR2.out; clear R2)
      | (go_at_call 161; have M := alike_any g (tagF k a t) hg zg w4; with_reducible refine M.mono ?_; clear M; rintro e w5 ⟨rfl, q, rfl⟩; rw [HD.out]; have B5 := below_drewN B4 q; have R5 := row_drewN (n := q) R4; generalize w4.drewN q = w5 at B5 R5 ⊢; have s5 := B5.size; have f0 := sk_c0 R5; have f2 := sk_c2 R5; clear R5 R4)
      | (go_at_call 102; have M := turn_any ((sealK k).extract 0 32) ((sealK k).extract 64 76) t x0 x2 ht w5; with_reducible refine M.mono ?_; clear M; rintro e w6 ⟨rfl, hb6⟩; rw [HTT.out])
      | fail)
    go_ret2
    exact ⟨Or.inl ⟨HQ.out, rfl⟩, below_lift B5 s5 hb6⟩
  · have HQ := Hid.mk hq
    have HD : Hid (decide (g = tagF k a t) = false) := Hid.mk (by simp; exact fun e => hq e.symm)
    clear hq
    go_enter Tryz.func137, Tryz.ntmps137
    go_wp2_with (first
      | (go_at_call 101; have M := sealKeysOf_any k hk w HT.out; with_reducible refine M.mono ?_; clear M; rintro e w1 ⟨rfl, B1⟩; obtain ⟨r1, w2, hw2, R2, B2, z2⟩ := new_stored B1 sk0 (skC k) 153 sk0_pos; have s2 := B2.size; have HR2 := Hid.mk R2)
      | (refine wpl_store rtKeys rfl _ _ rfl w1.heap.size rfl (skC k) rfl ?_ (skC_size k) (skC_one k) w2 hw2.symm ?_; (focus (exact congrArg Array.size r1)); clear hw2 r1)
      | (refine wpl_load rtKeys rfl _ rfl w1.heap.size rfl (skC k) R2 (skC_size k) ?_)
      | (go_at_call 103; have M := tagOf_any k a t ha ht w2 (HT.out.below B2); with_reducible refine M.mono ?_; clear M; rintro e w4 ⟨rfl, hb4⟩; have B4 := below_lift B2 s2 hb4; have s4 := B4.size; clear R2)
      | (go_at_call 161; have M := alike_any g (tagF k a t) hg zg w4; with_reducible refine M.mono ?_; clear M; rintro e w5 ⟨rfl, q, rfl⟩; rw [HD.out]; have B5 := below_drewN B4 q; generalize w4.drewN q = w5 at B5 ⊢)
      | fail)
    go_ret2
    exact ⟨Or.inr ⟨HQ.out, rfl⟩, B5⟩
end Go.Proofs.YteghoooelgcpkabGreatDoor
namespace Go
open Go.RowKit
def OffS (g : Nat) (v : Value) : Prop := v.ownBlock ≠ some g
def Off (g : Nat) (v : Value) : Prop := ∀ a m c, v = .slice (some a) m c → 0 < m → a.block ≠ g
theorem OffS.off {g : Nat} {v : Value} (h : OffS g v) : Off g v := fun a m c e _ he => h (by rw [e, ← he]; rfl)
end Go
namespace Go.Msg
open Go.RowKit Go.Proofs.YteghoooelgcpkabGreatDoor
structure Kp where
  pt : ByteArray
  n : Nat
  key : ByteArray
structure Sd where
  root : ByteArray
  self : ByteArray
  theirs : ByteArray
  send : ByteArray
  read : ByteArray
  ns : Nat
  nr : Nat
  pn : Nat
  saved : List Kp
  past : List ByteArray
  draws : List ByteArray
def Opt (t : ByteArray) : Prop := t.size = 0 ∨ t.size = 32
structure Kp.Wf (k : Kp) : Prop where
  pt : k.pt.size = 32
  n : k.n < 300
  key : k.key.size = 32
structure Sd.Wf (x : Sd) : Prop where
  root : x.root.size = 32
  self : x.self.size = 32
  theirs : Opt x.theirs
  send : Opt x.send
  read : Opt x.read
  ns : x.ns ≤ 300
  nr : x.nr ≤ 300
  pn : x.pn ≤ 300
  saved : x.saved.length ≤ 32
  savedW : ∀ k ∈ x.saved, k.Wf
  past : x.past.length ≤ 24
  pastW : ∀ t ∈ x.past, t.size = 32
  draws : x.draws.length ≤ 8
  drawsW : ∀ t ∈ x.draws, t.size = 32
  both : x.read.size ≠ 0 → x.theirs.size ≠ 0
def optB (t : ByteArray) : ByteArray := if t.size = 0 then b1 0 else b1 1 ++ t
def kpB (k : Kp) : ByteArray := k.pt ++ be 2 (k.n : Int) ++ k.key
def kpsB : List Kp → ByteArray
  | [] => ⟨#[]⟩
  | k :: l => kpB k ++ kpsB l
def strsB : List ByteArray → ByteArray
  | [] => ⟨#[]⟩
  | t :: l => t ++ strsB l
def sRS : ByteArray := ⟨#[82, 83]⟩
def sRM : ByteArray := ⟨#[82, 77]⟩
def keptB (x : Sd) : ByteArray :=
  sRS ++ x.root ++ x.self ++ optB x.theirs ++ optB x.send ++ optB x.read ++ be 2 (x.ns : Int) ++ be 2 (x.nr : Int) ++ be 2 (x.pn : Int) ++ b1 (x.saved.length : Int) ++ kpsB x.saved ++ b1 (x.past.length : Int) ++ strsB x.past ++ b1 (x.draws.length : Int) ++ strsB x.draws
theorem nil_ba (a : ByteArray) : (⟨#[]⟩ : ByteArray) ++ a = a := by apply ByteArray.ext; simp
theorem kpsB_snoc (l : List Kp) (k : Kp) : kpsB (l ++ [k]) = kpsB l ++ kpB k := by
  induction l with
  | nil => show kpB k ++ ⟨#[]⟩ = ⟨#[]⟩ ++ kpB k; rw [ba_empty, nil_ba]
  | cons a l ih => show kpB a ++ kpsB (l ++ [k]) = kpB a ++ kpsB l ++ kpB k; rw [ih, ByteArray.append_assoc]
theorem strsB_snoc (l : List ByteArray) (t : ByteArray) : strsB (l ++ [t]) = strsB l ++ t := by
  induction l with
  | nil => show t ++ ⟨#[]⟩ = ⟨#[]⟩ ++ t; rw [ba_empty, nil_ba]
  | cons a l ih => show a ++ strsB (l ++ [t]) = a ++ strsB l ++ t; rw [ih, ByteArray.append_assoc]
theorem kpsB_size (l : List Kp) (h : ∀ k ∈ l, k.Wf) : (kpsB l).size = 66 * l.length := by
  induction l with
  | nil => rfl
  | cons a l ih =>
    have h1 := h a (by simp)
    show (kpB a ++ kpsB l).size = _
    rw [ByteArray.size_append, ih (fun k hk => h k (by simp [hk]))]
    simp only [kpB, ByteArray.size_append, be_size, h1.pt, h1.key, List.length_cons]; omega
theorem strsB_size (l : List ByteArray) (h : ∀ t ∈ l, t.size = 32) : (strsB l).size = 32 * l.length := by
  induction l with
  | nil => rfl
  | cons a l ih =>
    show (a ++ strsB l).size = _
    rw [ByteArray.size_append, ih (fun k hk => h k (by simp [hk])), h a (by simp), List.length_cons]; omega
theorem take_snoc {α : Type} (l : List α) (k : Nat) (a : α) (h : l[k]? = some a) : l.take (k + 1) = l.take k ++ [a] := by
  rw [List.take_add_one, h]; rfl
end Go.Msg
namespace Go.Proofs.YteghoooelgcpkabGreatDoor
open Go.RowKit Go.Msg
def StrsAt (w : World) (v : Value) (l : List ByteArray) : Prop := ∃ ao cap g o, v = .slice ao l.length cap ∧ l.length ≤ cap ∧ (0 < l.length → ao = some ⟨g, o, none⟩) ∧ ∀ i t, l[i]? = some t → w.cell? ⟨g, o + i, none⟩ = some (.string t)
theorem StrsAt.nil (w : World) : StrsAt w (.slice none 0 0) [] := ⟨none, 0, 0, 0, rfl, by simp, fun h => absurd h (by simp), fun i t h => by simp at h⟩
theorem StrsAt.below {w w' : World} {v : Value} {l : List ByteArray} (h : StrsAt w v l) (hb : Below w.heap.size w w') : StrsAt w' v l := by
  obtain ⟨ao, cap, g, o, h1, h2, h3, h4⟩ := h
  exact ⟨ao, cap, g, o, h1, h2, h3, fun i t hi => by rw [hb.cell (World.block_lt_of_cell? w _ (h4 i t hi))]; exact h4 i t hi⟩
theorem StrsAt.one {w : World} {v : Value} {l : List ByteArray} (h : StrsAt w v l) : v.oneCell' = true := by obtain ⟨ao, cap, g, o, rfl, _⟩ := h; rfl
def KpsAt (w : World) (v : Value) (l : List Kp) : Prop := ∃ ao cap g o, v = .slice ao l.length cap ∧ l.length ≤ cap ∧ (0 < l.length → ao = some ⟨g, o, none⟩) ∧ ∀ i k, l[i]? = some k → w.cell? ⟨g, o + i * 3, none⟩ = some (.string k.pt) ∧ w.cell? ⟨g, o + i * 3 + 1, none⟩ = some (.int .i64 (k.n : Int)) ∧ w.cell? ⟨g, o + i * 3 + 2, none⟩ = some (.string k.key)
theorem KpsAt.nil (w : World) : KpsAt w (.slice none 0 0) [] := ⟨none, 0, 0, 0, rfl, by simp, fun h => absurd h (by simp), fun i t h => by simp at h⟩
theorem KpsAt.below {w w' : World} {v : Value} {l : List Kp} (h : KpsAt w v l) (hb : Below w.heap.size w w') : KpsAt w' v l := by
  obtain ⟨ao, cap, g, o, h1, h2, h3, h4⟩ := h
  refine ⟨ao, cap, g, o, h1, h2, h3, fun i k hi => ?_⟩
  obtain ⟨a, b, c⟩ := h4 i k hi
  exact ⟨by rw [hb.cell (World.block_lt_of_cell? w _ a)]; exact a, by rw [hb.cell (World.block_lt_of_cell? w _ b)]; exact b, by rw [hb.cell (World.block_lt_of_cell? w _ c)]; exact c⟩
theorem KpsAt.one {w : World} {v : Value} {l : List Kp} (h : KpsAt w v l) : v.oneCell' = true := by obtain ⟨ao, cap, g, o, rfl, _⟩ := h; rfl
def sideC (x : Sd) (vS vP vD : Value) : Array Value := #[.string x.root, .string x.self, .string (pubF x.self), .string x.theirs, .string x.send, .string x.read, .int .i64 (x.ns : Int), .int .i64 (x.nr : Int), .int .i64 (x.pn : Int), vS, vP, vD]
end Go.Proofs.YteghoooelgcpkabGreatDoor
namespace Go.Msg
open Go.RowKit Go.Proofs.YteghoooelgcpkabGreatDoor
def optP (x : Sd) : Nat → ByteArray
  | 0 => sRS ++ x.root ++ x.self
  | 1 => sRS ++ x.root ++ x.self ++ optB x.theirs
  | 2 => sRS ++ x.root ++ x.self ++ optB x.theirs ++ optB x.send
  | _ => sRS ++ x.root ++ x.self ++ optB x.theirs ++ optB x.send ++ optB x.read
theorem optB_size {t : ByteArray} (h : Opt t) : (optB t).size ≤ 33 := by
  unfold optB; split
  · exact Nat.le_trans (Nat.le_of_eq (b1_size _)) (by decide)
  · rw [ByteArray.size_append, b1_size]; rcases h with h | h <;> omega
theorem optP_size {x : Sd} (h : x.Wf) (k : Nat) : (optP x k).size ≤ 200 := by
  have h1 := h.root; have h2 := h.self; have h3 := optB_size h.theirs; have h4 := optB_size h.send; have h5 := optB_size h.read
  have h0 : sRS.size = 2 := rfl
  unfold optP; split <;> simp only [ByteArray.size_append] <;> omega
theorem optB_no {t : ByteArray} (h : t = ⟨#[]⟩) : optB t = ⟨#[0]⟩ := by subst h; rfl
theorem optB_yes {t : ByteArray} (h : ¬ t = ⟨#[]⟩) : optB t = (⟨#[1]⟩ : ByteArray) ++ t := by
  unfold optB; rw [if_neg (fun e => h (size_zero.1 e))]; rfl
theorem toList_nil {t : ByteArray} : t.toList = [] ↔ t = ⟨#[]⟩ := by
  rw [← toList_inj, show (⟨#[]⟩ : ByteArray).toList = [] from by rw [ByteArray.toList_eq]]
end Go.Msg
namespace Go.Proofs.YteghoooelgcpkabGreatDoor
open Go.RowKit Go.Msg
theorem rowcell {W : World} {g : Nat} {c : Array Value} (h : W.rowOf g = c) (j : Nat) (v : Value) (hj : c[j]? = some v) : W.cell? ⟨g, j, none⟩ = some v := by
  have hlt : j < c.size := (Array.getElem?_eq_some_iff.1 hj).1
  rw [(cell_of_rowOf h j hlt).1, hj]
end Go.Proofs.YteghoooelgcpkabGreatDoor
namespace Go
open Go.RowKit
theorem results_row_tmp {P : Program} {fn : Func} {p u : Tmp} {t n : Nat} (ht : RowTy P t n) (hr : fn.results = #[.cell p t, .tmp u]) (tmps : Array Value) (w : World) (g : Nat)
    (hp : tmps.getD p undef = .pointer (some ⟨g, 0, none⟩)) (h : (w.rowOf g).size = n) : (results fn tmps).run P w = .ok (.tuple #[.agg (w.rowOf g), tmps.getD u undef]) w := by
  obtain ⟨hn, hi, d, hu, hd⟩ := ht
  obtain ⟨t', hg⟩ := rowOf_heap h hn
  have hl := run_loadVar_row (P := P) w g t' t _ (0, 0) d hg hu (by cases d <;> first | rfl | simp [TypeDesc.isRow] at hd) (by rw [hi, h])
  simp only [results, hr]
  have hp' : tmps[p]?.getD undef = .pointer (some ⟨g, 0, none⟩) := by simpa using hp
  simp [asAddr, hp', hl]
end Go
namespace Go.Msg
open Go.RowKit Go.Proofs.YteghoooelgcpkabGreatDoor
def startS (secret theirs self : ByteArray) : Sd := ⟨rootA secret (dhF self theirs), self, theirs, rootC secret (dhF self theirs), ⟨#[]⟩, 0, 0, 0, [], [], []⟩
def waitS (secret self : ByteArray) : Sd := ⟨secret, self, ⟨#[]⟩, ⟨#[]⟩, ⟨#[]⟩, 0, 0, 0, [], [], []⟩
theorem startS_wf {secret theirs self : ByteArray} (ht : theirs.size = 32) (hs : self.size = 32) : (startS secret theirs self).Wf :=
  ⟨rootA_size _ _, hs, Or.inr ht, Or.inr (rootC_size _ _), Or.inl rfl, Nat.zero_le _, Nat.zero_le _, Nat.zero_le _, Nat.zero_le _, fun _ h => (by cases h), Nat.zero_le _, fun _ h => (by cases h), Nat.zero_le _, fun _ h => (by cases h), fun h => absurd rfl h⟩
theorem waitS_wf {secret self : ByteArray} (hr : secret.size = 32) (hs : self.size = 32) : (waitS secret self).Wf :=
  ⟨hr, hs, Or.inl rfl, Or.inl rfl, Or.inl rfl, Nat.zero_le _, Nat.zero_le _, Nat.zero_le _, Nat.zero_le _, fun _ h => (by cases h), Nat.zero_le _, fun _ h => (by cases h), Nat.zero_le _, fun _ h => (by cases h), fun h => absurd rfl h⟩
def headF (x : Sd) : ByteArray := sRM ++ pubF x.self ++ be 2 (x.pn : Int) ++ be 2 (x.ns : Int)
theorem headF_size (x : Sd) : (headF x).size = 38 := by
  have h0 : sRM.size = 2 := rfl
  simp only [headF, ByteArray.size_append, pubF_size, be_size, h0]
def saidS (x : Sd) : Sd := { x with send := behF x.send, ns := x.ns + 1 }
def msgF (x : Sd) (text data : ByteArray) : ByteArray := headF x ++ be 2 (text.size : Int) ++ turnF (keyF x.send) text ++ tagF (keyF x.send) (data ++ headF x) (turnF (keyF x.send) text)
theorem saidS_wf {x : Sd} (h : x.Wf) (hn : x.ns ≠ 300) : (saidS x).Wf :=
  ⟨h.root, h.self, h.theirs, Or.inr (behF_size _), h.read, (by have := h.ns; show x.ns + 1 ≤ 300; omega), h.nr, h.pn, h.saved, h.savedW, h.past, h.pastW, h.draws, h.drawsW, h.both⟩
end Go.Msg
namespace Go.Proofs.YteghoooelgcpkabGreatDoor
open Go.RowKit Go.Msg
abbrev nilS : Value := .slice none 0 0
def side0 : Array Value := #[.string ⟨#[]⟩, .string ⟨#[]⟩, .string ⟨#[]⟩, .string ⟨#[]⟩, .string ⟨#[]⟩, .string ⟨#[]⟩, .int .i64 0, .int .i64 0, .int .i64 0, .slice none 0 0, .slice none 0 0, .slice none 0 0]
theorem box_two (w : World) (c d : Array Value) (t : Nat) : ((w.alloc (.cells c t)).alloc (.cells d t)).rowOf w.heap.size = c ∧ ((w.alloc (.cells c t)).alloc (.cells d t)).rowOf (w.heap.size + 1) = d := by constructor <;> simp [go_sem]
end Go.Proofs.YteghoooelgcpkabGreatDoor
namespace Go
open Go.RowKit
theorem run_append_zero {P : Program} (w : World) (t ty e : TypeId) (i : TypeInfo) (ht : P.underlying t = some (.slice e)) (hi : P.info? e = some i) (base : Option Addr) (n cap : Nat) (hn : n ≤ cap) (ao : Option Addr) (c : Nat) :
    (Builtin.append_ #[t, t] ty #[.slice base n cap, .slice ao 0 c]).run P w = .ok (.slice base n cap) w := by
  have hl : ∀ a, (loadCells a 0).run P w = .ok #[] w := fun a => by simp [loadCells, loadCellsFrom]
  cases base <;> cases ao <;> simp [Builtin.append_, run_underlying ht, sizeOf, typeInfo, hi, Builtin.lenOf, hn, Builtin.firstCells, storeCells, hl]
theorem wpl_append0 {P : Program} {t e : Nat} (ht : P.underlying t = some (.slice e)) (hi : (P.info? e).isSome = true) {ops : Array Oper} {rest : List Oper} {o : Oper} {a : Act} {w : World} {Q : Exit → Act → World → Prop} (hgd : o.guard = none) (s x : Operand)
    (ho : o.op = .call { callee := .builtin .append, args := #[s, x], argTypes := #[t, t] }) (base : Option Addr) (n cap : Nat) (hn : n ≤ cap) (hs : a.eval s = .slice base n cap) (ao : Option Addr) (c : Nat) (hx : a.eval x = .slice ao 0 c)
    (h : wpList P ops Q rest (a.put o.dst (.slice base n cap)) w) : wpList P ops Q (o :: rest) a w := by
  refine wpList_plain hgd fun _ hK => ?_
  cases hq : P.info? e with
  | none => simp [hq] at hi
  | some i =>
    have hr := run_append_zero (P := P) w t o.type e i ht hq base n cap hn ao c
    unfold Oper.wp execOp
    simp only [ho, resolve, invoke, builtin, Sem.run_bind, Sem.run_pure, Result.andThen_ok, List.map_toArray, List.map_cons, List.map_nil, hs, hx, hr]
    exact hK _ _ h
theorem wpl_appendL {P : Program} {t e S B : Nat} (ht : P.underlying t = some (.slice e)) (hi : (P.info? e).map (fun i => (i.zero.map (fun z => z.cells.size), i.size, i.bytes)) = some (some S, S, B)) (hS0 : 0 < S) (hB : B ≤ 100) {ops : Array Oper} {rest : List Oper} {o : Oper} {a : Act} {w : World} {Q : Exit → Act → World → Prop} (hgd : o.guard = none) (s x : Operand)
    (ho : o.op = .call { callee := .builtin .append, args := #[s, x], argTypes := #[t, t] }) (base : Nat) (v : Value) (n : Nat) (xs : List Value) (hs : a.eval s = v) (hown : w.ownsRow base e S v n xs) (ao : Option Addr) (ad : Addr) (m c : Nat) (news : List Value)
    (hx : a.eval x = .slice ao m c) (hao : 0 < m → ao = some ad) (hl : news.length = m * S) (hz : ∀ j u, news[j]? = some u → w.cell? (ad.add j) = some u) (h1 : ∀ u ∈ news, u.oneCell' = true) (hn : n ≤ 1000000) (hm : m ≤ 1000000) (hb : base ≤ w.heap.size)
    (h : ∀ v' w', w'.ownsRow base e S v' (n + m) (xs ++ news) → (∀ w0, Below base w0 w → Below base w0 w') → w.heap.size ≤ w'.heap.size → wpList P ops Q rest (a.put o.dst v') w') : wpList P ops Q (o :: rest) a w := by
  cases hq : P.info? e with
  | none => simp [hq] at hi
  | some i =>
    cases hzz : i.zero with
    | none => simp [hq, hzz] at hi
    | some z =>
      simp [hq, hzz] at hi
      obtain ⟨i1, i2, i3⟩ := hi
      by_cases hm0 : m = 0
      · subst hm0
        have hnil : news = [] := by rw [Nat.zero_mul] at hl; exact List.eq_nil_of_length_eq_zero hl
        subst hnil
        have hv : ∃ bo cap, v = .slice bo n cap ∧ n ≤ cap := by
          rcases hown.2 with ⟨rfl, rfl⟩ | ⟨g, cap, cur, rfl, _, _, hcap, _⟩
          · exact ⟨none, 0, rfl, Nat.le_refl _⟩
          · exact ⟨_, cap, rfl, hcap⟩
        obtain ⟨bo, cap, rfl, hcap⟩ := hv
        refine wpl_append0 ht (by rw [hq]; rfl) hgd s x ho bo n cap hcap hs ao c hx (h _ w ?_ (fun _ hb0 => hb0) (Nat.le_refl _))
        rw [Nat.add_zero, List.append_nil]; exact hown
      · have hao' := hao (by omega)
        subst hao'
        refine wpList_append_own _ hgd s x t ho base e i z S B ht hq hzz i2 i3 i1 hS0 v n xs hs hown ad m c news hx hl hz h1 ?_ ?_ hb ?_
        · unfold maxLen; omega
        · have : (n + m) * B ≤ 2000000 * 100 := Nat.mul_le_mul (by omega) (by omega)
          omega
        · intro v' w' h2 h3 _
          refine h v' w' h2 (fun w0 hb0 => hb0.grown h3 hb (fun q hq' => (hown.lt q hq').1)) h3.size
end Go
namespace Go.Proofs.YteghoooelgcpkabGreatDoor
open Go.RowKit Go.Msg
def kpCells : List Kp → List Value
  | [] => []
  | k :: l => .string k.pt :: .int .i64 (k.n : Int) :: .string k.key :: kpCells l
def strCells (l : List ByteArray) : List Value := l.map Value.string
theorem kpCells_append (a b : List Kp) : kpCells (a ++ b) = kpCells a ++ kpCells b := by
  induction a with
  | nil => rfl
  | cons k a ih => simp [kpCells, ih]
theorem kpCells_get (l : List Kp) (i : Nat) (k : Kp) (h : l[i]? = some k) : (kpCells l)[i * 3]? = some (.string k.pt) ∧ (kpCells l)[i * 3 + 1]? = some (.int .i64 (k.n : Int)) ∧ (kpCells l)[i * 3 + 2]? = some (.string k.key) := by
  induction l generalizing i with
  | nil => simp at h
  | cons a l ih =>
    cases i with
    | zero => simp at h; subst h; exact ⟨rfl, rfl, rfl⟩
    | succ i =>
      have := ih i (by simpa using h)
      rw [show (i + 1) * 3 = i * 3 + 1 + 1 + 1 by omega, show i * 3 + 1 + 1 + 1 + 1 = (i * 3 + 1) + 1 + 1 + 1 by omega, show i * 3 + 1 + 1 + 1 + 2 = (i * 3 + 2) + 1 + 1 + 1 by omega]
      simpa [kpCells] using this
theorem KpsAt.of_owns {w : World} {B e : Nat} {v : Value} {l : List Kp} (h : w.ownsRow B e 3 v l.length (kpCells l)) : KpsAt w v l := by
  have h0 := h
  obtain ⟨h1, h2⟩ := h
  rcases h2 with ⟨rfl, hn⟩ | ⟨g, cap, cur, rfl, hg, hh, hc, hm, hs, ht⟩
  · have : l = [] := List.eq_nil_of_length_eq_zero hn
    subst this; exact KpsAt.nil w
  · refine ⟨_, cap, g, 0, rfl, hc, fun _ => rfl, fun i k hi => ?_⟩
    have hil : i < l.length := (List.getElem?_eq_some_iff.1 hi).1
    obtain ⟨a, b, c⟩ := kpCells_get l i k hi
    rw [Nat.zero_add, h0.cellAt _ (by omega), h0.cellAt _ (by omega), h0.cellAt _ (by omega)]
    exact ⟨a, b, c⟩
theorem StrsAt.of_owns {w : World} {B e : Nat} {v : Value} {l : List ByteArray} (h : w.ownsRow B e 1 v l.length (strCells l)) : StrsAt w v l := by
  have h0 := h
  obtain ⟨h1, h2⟩ := h
  rcases h2 with ⟨rfl, hn⟩ | ⟨g, cap, cur, rfl, hg, hh, hc, hm, hs, ht⟩
  · have : l = [] := List.eq_nil_of_length_eq_zero hn
    subst this; exact StrsAt.nil w
  · refine ⟨_, cap, g, 0, rfl, hc, fun _ => rfl, fun i t hi => ?_⟩
    have hil : i < l.length := (List.getElem?_eq_some_iff.1 hi).1
    rw [Nat.zero_add, h0.cellAt _ (by omega)]
    simp [strCells, hi]
theorem StrsAt.src {w : World} {v : Value} {l : List ByteArray} (h : StrsAt w v l) : ∃ ao cap ad, v = .slice ao l.length cap ∧ (0 < l.length → ao = some ad) ∧ ∀ j u, (strCells l)[j]? = some u → w.cell? (ad.add j) = some u := by
  obtain ⟨ao, cap, g, o, h1, h2, h3, h4⟩ := h
  refine ⟨ao, cap, ⟨g, o, none⟩, h1, h3, fun j u hj => ?_⟩
  rw [Addr.add_mid]
  simp only [strCells, List.getElem?_map, Option.map_eq_some_iff] at hj
  obtain ⟨t, ht, rfl⟩ := hj
  exact h4 j t ht
theorem strCells_one (l : List ByteArray) : ∀ u ∈ strCells l, u.oneCell' = true := by
  intro u hu
  simp only [strCells, List.mem_map] at hu
  obtain ⟨t, _, rfl⟩ := hu; rfl
theorem strCells_length (l : List ByteArray) : (strCells l).length = l.length * 1 := by simp [strCells]
theorem strCells_append (a b : List ByteArray) : strCells (a ++ b) = strCells a ++ strCells b := by simp [strCells]
theorem iStr : (Tryz.prog.info? 9).map (fun i => (i.zero.map (fun z => z.cells.size), i.size, i.bytes)) = some (some 1, 1, 16) := by kernel_rfl
end Go.Proofs.YteghoooelgcpkabGreatDoor
namespace Go.Msg
open Go.RowKit Go.Proofs.YteghoooelgcpkabGreatDoor
def chn (c : ByteArray) : Nat → ByteArray
  | 0 => c
  | j + 1 => behF (chn c j)
def leftL (c pt : ByteArray) (n : Nat) : Nat → List Kp
  | 0 => []
  | j + 1 => leftL c pt n j ++ [⟨pt, n + j, keyF (chn c j)⟩]
theorem leftL_length (c pt : ByteArray) (n j : Nat) : (leftL c pt n j).length = j := by
  induction j with
  | zero => rfl
  | succ j ih => simp [leftL, ih]
theorem chn_size {c : ByteArray} (h : c.size = 32) (j : Nat) : (chn c j).size = 32 := by
  cases j with
  | zero => exact h
  | succ j => exact behF_size _
theorem leftL_wf {c pt : ByteArray} (hp : pt.size = 32) {n j : Nat} (h : n + j ≤ 300) : ∀ k ∈ leftL c pt n j, k.Wf := by
  induction j with
  | zero => intro k hk; cases hk
  | succ j ih =>
    intro k hk
    rw [leftL, List.mem_append] at hk
    rcases hk with hk | hk
    · exact ih (by omega) k hk
    · simp at hk; subst hk; exact ⟨hp, by show n + j < 300; omega, keyF_size _⟩
def lastL (a b : List Kp) : List Kp := (a ++ b).drop ((a ++ b).length - 32)
theorem lastL_length (a b : List Kp) : (lastL a b).length ≤ 32 := by simp [lastL]; omega
theorem lastL_wf {a b : List Kp} (ha : ∀ k ∈ a, k.Wf) (hb : ∀ k ∈ b, k.Wf) : ∀ k ∈ lastL a b, k.Wf := by
  intro k hk
  have := List.mem_of_mem_drop hk
  rcases List.mem_append.1 this with h | h
  · exact ha k h
  · exact hb k h
end Go.Msg
namespace Go.Proofs.YteghoooelgcpkabGreatDoor
open Go.RowKit Go.Msg
theorem own_below3 {w w' : World} {B e S : Nat} {v : Value} {n : Nat} {xs : List Value} (h : w.ownsRow B e S v n xs) (hb : Below w.heap.size w w') : w'.ownsRow B e S v n xs := by
  refine ⟨h.1, ?_⟩
  rcases h.2 with hn | ⟨g, cap, cur, rfl, hg, hh, rest⟩
  · exact Or.inl hn
  · exact Or.inr ⟨g, cap, cur, rfl, hg, by rw [hb.block g (Array.getElem?_eq_some_iff.1 hh).1]; exact hh, rest⟩
theorem Off.nil (g : Nat) : Off g (.slice none 0 0) := fun a m c h => by cases h
theorem offS_of_owns {w : World} {B e s : Nat} {v : Value} {n : Nat} {xs : List Value} (h : w.ownsRow B e s v n xs) {g : Nat} (hg : g < B) : OffS g v := by
  rcases h.2 with ⟨rfl, _⟩ | ⟨k, cap, cur, rfl, hk, _⟩
  · simp [OffS, Value.ownBlock]
  · simp only [OffS, Value.ownBlock, ne_eq, Option.some.injEq]; omega
theorem off_of_owns {w : World} {B e s : Nat} {v : Value} {n : Nat} {xs : List Value} (h : w.ownsRow B e s v n xs) {g : Nat} (hg : g < B) : Off g v := (offS_of_owns h hg).off
theorem own_shape {w : World} {B e S : Nat} {v : Value} {n : Nat} {xs : List Value} (h : w.ownsRow B e S v n xs) : ∃ ao cap g, v = .slice ao n cap ∧ (0 < n → ao = some ⟨g, 0, none⟩) ∧ n ≤ cap := by
  rcases h.2 with ⟨rfl, rfl⟩ | ⟨g, cap, cur, rfl, _, _, hc, _⟩
  · exact ⟨none, 0, 0, rfl, fun h => absurd h (by omega), Nat.le_refl _⟩
  · exact ⟨_, cap, g, rfl, fun _ => rfl, hc⟩
end Go.Proofs.YteghoooelgcpkabGreatDoor
namespace Go.Msg
open Go.RowKit Go.Proofs.YteghoooelgcpkabGreatDoor
structure Pt where
  point : ByteArray
  head : ByteArray
  turned : ByteArray
  tag : ByteArray
  ahead : Nat
  n : Nat
def u16F (m : ByteArray) (i : Nat) : Nat := (numF (sb (m.extract i (i + 2))) 2).toNat
def ptF (m : ByteArray) : Pt := ⟨m.extract 2 34, m.extract 0 38, m.extract 40 (40 + u16F m 38), m.extract (40 + u16F m 38) m.size, u16F m 34, u16F m 36⟩
def IsMsg (m : ByteArray) : Prop := 72 ≤ m.size ∧ m.extract 0 2 = sRM ∧ u16F m 38 ≤ 200 ∧ m.size = 72 + u16F m 38 ∧ u16F m 34 ≤ 300 ∧ u16F m 36 < 300
instance (m : ByteArray) : Decidable (IsMsg m) := by unfold IsMsg; infer_instance
end Go.Msg
namespace Go.Proofs.YteghoooelgcpkabGreatDoor
open Go.RowKit Go.Msg
def partsC (p : Pt) : Array Value := #[.string p.point, .string p.head, .string p.turned, .string p.tag, .int .i64 (p.ahead : Int), .int .i64 (p.n : Int)]
end Go.Proofs.YteghoooelgcpkabGreatDoor
namespace Go.Msg
open Go.RowKit Go.Proofs.YteghoooelgcpkabGreatDoor
theorem ptF_ahead (m : ByteArray) : (ptF m).ahead = u16F m 34 := by simp only [ptF]
theorem ptF_n (m : ByteArray) : (ptF m).n = u16F m 36 := by simp only [ptF]
theorem ptF_point (m : ByteArray) : (ptF m).point = m.extract 2 34 := rfl
theorem ptF_head (m : ByteArray) : (ptF m).head = m.extract 0 38 := rfl
theorem ptF_turned (m : ByteArray) : (ptF m).turned = m.extract 40 (40 + u16F m 38) := rfl
theorem ptF_tag (m : ByteArray) : (ptF m).tag = m.extract (40 + u16F m 38) m.size := rfl
theorem ptF_sizes {m : ByteArray} (h : IsMsg m) : (ptF m).point.size = 32 ∧ (ptF m).head.size = 38 ∧ (ptF m).turned.size ≤ 200 ∧ (ptF m).tag.size = 32 ∧ (ptF m).ahead ≤ 300 ∧ (ptF m).n < 300 := by
  unfold IsMsg at h
  obtain ⟨h1, _, h3, h4, h5, h6⟩ := h
  rw [ptF_ahead, ptF_n, ptF_point, ptF_head, ptF_turned, ptF_tag]
  generalize u16F m 34 = A at *
  generalize u16F m 36 = N at *
  generalize u16F m 38 = U at *
  refine ⟨?_, ?_, ?_, ?_, h5, h6⟩
  · rw [ext_size (by omega)]
  · rw [ext_size (by omega)]
  · rw [ext_size (by omega)]; omega
  · rw [ext_size (by omega)]; omega
def isK (pt : ByteArray) (n : Nat) (k : Kp) : Bool := decide (k.pt = pt ∧ k.n = n)
def okK (k data : ByteArray) (p : Pt) : Bool := decide (tagF k (data ++ p.head) p.turned = p.tag)
def hearK (x : Sd) (p : Pt) (data : ByteArray) (i : Nat) (k : Kp) : Sd × ByteArray × Int :=
  if okK k.key data p then ({ x with saved := x.saved.take i ++ x.saved.drop (i + 1) }, turnF k.key p.turned, 0) else (x, ⟨#[]⟩, 10)
def hearC (x : Sd) (p : Pt) (data : ByteArray) : Sd × ByteArray × Int :=
  if okK (keyF (chn x.read (p.n - x.nr))) data p then
    ({ x with saved := lastL x.saved (leftL x.read p.point x.nr (p.n - x.nr)), read := behF (chn x.read (p.n - x.nr)), nr := p.n + 1 }, turnF (keyF (chn x.read (p.n - x.nr))) p.turned, 0)
  else (x, ⟨#[]⟩, 10)
def newSaved (x : Sd) (p : Pt) : List Kp := if x.read.size = 0 then x.saved else lastL x.saved (leftL x.read x.theirs x.nr (p.ahead - x.nr))
def newPast (x : Sd) : List ByteArray := if x.theirs.size = 0 then x.past else x.past ++ [x.theirs]
def newSide (x : Sd) (p : Pt) (d : ByteArray) : Sd :=
  let r := rootA x.root (dhF x.self p.point)
  let c0 := rootC x.root (dhF x.self p.point)
  { root := rootA r (dhF d p.point), self := d, theirs := p.point, send := rootC r (dhF d p.point), read := behF (chn c0 p.n), ns := 0, nr := p.n + 1, pn := x.ns,
    saved := lastL (newSaved x p) (leftL c0 p.point 0 p.n), past := newPast x, draws := x.draws.drop 1 }
def hearN (x : Sd) (p : Pt) (data d : ByteArray) : Sd × ByteArray × Int :=
  if okK (keyF (chn (rootC x.root (dhF x.self p.point)) p.n)) data p then (newSide x p d, turnF (keyF (chn (rootC x.root (dhF x.self p.point)) p.n)) p.turned, 0) else (x, ⟨#[]⟩, 10)
def been (x : Sd) (pt : ByteArray) : Bool := x.past.any (fun t => decide (t = pt))
def hearS (x : Sd) (m data : ByteArray) : Sd × ByteArray × Int :=
  if ¬ IsMsg m then (x, ⟨#[]⟩, 5) else
  match x.saved.findIdx? (isK (ptF m).point (ptF m).n) with
  | some i => match x.saved[i]? with
    | some k => hearK x (ptF m) data i k
    | none => (x, ⟨#[]⟩, 5)
  | none =>
    if x.theirs = (ptF m).point then
      if x.read.size = 0 ∨ (ptF m).n < x.nr then (x, ⟨#[]⟩, 6)
      else if (ptF m).n > x.nr + 20 then (x, ⟨#[]⟩, 7)
      else hearC x (ptF m) data
    else if been x (ptF m).point = true then (x, ⟨#[]⟩, 6)
    else if x.read.size ≠ 0 ∧ (ptF m).ahead > x.nr + 20 then (x, ⟨#[]⟩, 7)
    else if (ptF m).n > 20 then (x, ⟨#[]⟩, 7)
    else if x.theirs.size ≠ 0 ∧ 24 ≤ x.past.length then (x, ⟨#[]⟩, 4)
    else match x.draws with
      | [] => (x, ⟨#[]⟩, 8)
      | d :: _ => if dhF x.self (ptF m).point = zeros 32 then (x, ⟨#[]⟩, 9) else hearN x (ptF m) data d
theorem hearK_wf {x : Sd} (h : x.Wf) (p : Pt) (data : ByteArray) (i : Nat) (k : Kp) : (hearK x p data i k).1.Wf := by
  unfold hearK
  split
  · refine ⟨h.root, h.self, h.theirs, h.send, h.read, h.ns, h.nr, h.pn, ?_, ?_, h.past, h.pastW, h.draws, h.drawsW, h.both⟩
    · have := h.saved
      show (x.saved.take i ++ x.saved.drop (i + 1)).length ≤ 32
      simp; omega
    · intro q hq
      rcases List.mem_append.1 hq with hq | hq
      · exact h.savedW q (List.mem_of_mem_take hq)
      · exact h.savedW q (List.mem_of_mem_drop hq)
  · exact h
theorem hearC_wf {x : Sd} (h : x.Wf) {p : Pt} (hp : p.point.size = 32) (hn : p.n < 300) (ht : x.theirs.size ≠ 0) (data : ByteArray) : (hearC x p data).1.Wf := by
  unfold hearC
  split
  · refine ⟨h.root, h.self, h.theirs, h.send, Or.inr (behF_size _), h.ns, hn, h.pn, lastL_length _ _, lastL_wf h.savedW (leftL_wf hp ?_), h.past, h.pastW, h.draws, h.drawsW, fun _ => ht⟩
    have := h.nr; omega
  · exact h
theorem hearN_wf {x : Sd} (h : x.Wf) {p : Pt} (hp : p.point.size = 32) (hn : p.n < 300) (ha : p.ahead ≤ 300) (data d : ByteArray) (hd : d ∈ x.draws) (hfull : ¬ (x.theirs.size ≠ 0 ∧ 24 ≤ x.past.length)) : (hearN x p data d).1.Wf := by
  unfold hearN
  split
  · have hs : ∀ k ∈ newSaved x p, k.Wf := by
      unfold newSaved
      split
      · exact h.savedW
      · next hr =>
        refine lastL_wf h.savedW (leftL_wf ?_ (by have := h.nr; omega))
        have := h.both hr
        rcases h.theirs with e | e
        · omega
        · exact e
    refine ⟨rootA_size _ _, h.drawsW d hd, Or.inr hp, Or.inr (rootC_size _ _), Or.inr (behF_size _), Nat.zero_le _, hn, h.ns, lastL_length _ _, lastL_wf hs (leftL_wf hp (by omega)), ?_, ?_, ?_, ?_, fun _ => by show p.point.size ≠ 0; omega⟩
    · show (newPast x).length ≤ 24
      unfold newPast
      split
      · exact h.past
      · have := h.past; simp; omega
    · show ∀ t ∈ newPast x, t.size = 32
      unfold newPast
      split
      · exact h.pastW
      · next hr =>
        intro t ht
        rcases List.mem_append.1 ht with q | q
        · exact h.pastW t q
        · simp at q; subst q
          rcases h.theirs with e | e
          · omega
          · exact e
    · show (x.draws.drop 1).length ≤ 8
      have := h.draws; simp; omega
    · exact fun t ht => h.drawsW t (List.mem_of_mem_drop ht)
  · exact h
theorem hearS_wf {x : Sd} (h : x.Wf) (m data : ByteArray) : (hearS x m data).1.Wf := by
  unfold hearS
  split
  · exact h
  next hm =>
  obtain ⟨h1, h2, h3, h4, h5, h6⟩ := ptF_sizes (Classical.not_not.1 hm)
  split
  · split
    · exact hearK_wf h _ _ _ _
    · exact h
  · split
    · next hs =>
      split
      · exact h
      · split
        · exact h
        · exact hearC_wf h h1 h6 (by rw [hs]; omega) data
    · split
      · exact h
      · split
        · exact h
        · split
          · exact h
          · split
            · exact h
            · next hfull =>
              split
              · exact h
              · next d l hd =>
                split
                · exact h
                · exact hearN_wf h h1 h6 h5 data d (by rw [hd]; simp) hfull
end Go.Msg
namespace Go.Msg
open Go.RowKit Go.Proofs.YteghoooelgcpkabGreatDoor
def orF (t : ByteArray) : Nat → Int
  | 0 => 0
  | k + 1 => bits .or .u8 (orF t k) (sb t k)
theorem or8_zero {x y : Int} (hx : 0 ≤ x ∧ x < 256) (hy : 0 ≤ y ∧ y < 256) : bits .or .u8 x y = 0 ↔ x = 0 ∧ y = 0 := by
  obtain ⟨a, rfl⟩ : ∃ a : Nat, x = a := ⟨x.toNat, by omega⟩
  obtain ⟨b, rfl⟩ : ∃ b : Nat, y = b := ⟨y.toNat, by omega⟩
  rw [(bits_nat .u8 8 (by decide) wraps_u8 a b (by omega) (by omega)).2]
  constructor
  · intro h
    have h0 : a ||| b = 0 := by omega
    have := Nat.or_eq_zero_iff.1 h0
    omega
  · rintro ⟨h1, h2⟩
    have e1 : a = 0 := by omega
    have e2 : b = 0 := by omega
    subst e1 e2; rfl
theorem orF_bd (t : ByteArray) (k : Nat) : 0 ≤ orF t k ∧ orF t k < 256 := by
  cases k with
  | zero => simp [orF]
  | succ k => exact ⟨bits_lo_u8 _ _ _, by have := bits_hi_u8 .or (orF t k) (sb t k); rw [orF]; omega⟩
theorem orF_zero (t : ByteArray) (k : Nat) : orF t k = 0 ↔ ∀ i, i < k → sb t i = 0 := by
  induction k with
  | zero => simp [orF]
  | succ k ih =>
    have hb := sb_bd t k
    rw [orF, or8_zero (orF_bd t k) (by omega), ih]
    constructor
    · intro h i hi
      by_cases e : i = k
      · subst e; exact h.2
      · exact h.1 i (by omega)
    · intro h; exact ⟨fun i hi => h i (by omega), h k (by omega)⟩
theorem zeros_iff {t : ByteArray} {n : Nat} (h : t.size = n) : t = zeros n ↔ ∀ i, i < n → sb t i = 0 := by
  constructor
  · intro e i hi
    rw [e]; unfold zeros; exact sb_bstr _ _ _ hi (by simp)
  · intro e
    refine ba_ext (by rw [h]; unfold zeros; rw [bstr_size]) (fun i hi => ?_)
    rw [e i (by omega)]; unfold zeros
    rw [sb_bstr _ _ _ (by omega) (by simp)]
end Go.Msg
namespace Go.Proofs.YteghoooelgcpkabGreatDoor
open Go.RowKit Go.Msg
def sesC (x : Sd) (vK vP vD : Value) : Array Value := #[.string x.root, .string x.self, .string x.theirs, .string x.send, .string x.read, .int .i64 (x.ns : Int), .int .i64 (x.nr : Int), .int .i64 (x.pn : Int), vK, vP, vD]
structure SesAt (w : World) (g : Nat) (x : Sd) (vK vP vD : Value) : Prop where
  row : w.rowOf g = sesC x vK vP vD
  vk : KpsAt w vK x.saved
  vp : StrsAt w vP x.past
  vd : StrsAt w vD x.draws
theorem sesC_size (x : Sd) (vK vP vD : Value) : (sesC x vK vP vD).size = 11 := rfl
theorem SesAt.below {w w' : World} {g : Nat} {x : Sd} {vK vP vD : Value} (h : SesAt w g x vK vP vD) (hb : Below w.heap.size w w') : SesAt w' g x vK vP vD :=
  ⟨by rw [below_row hb (by rw [h.row, sesC_size]; omega)]; exact h.row, h.vk.below hb, h.vp.below hb, h.vd.below hb⟩
set_option maxHeartbeats 1000000 in
theorem allNoughts_any (t : ByteArray) (ht : t.size = 32) (w : World) :
    Calls Tryz.prog 68 #[.string t] w fun e w' => e = .returned (.bool (decide (t = zeros 32))) ∧ w' = w := by
  go_enter Tryz.func68, Tryz.ntmps68
  go_wp2
  go_loop [3, 4] (fun x i => ∃ (y : Int) (k : Nat), x = .int .u8 y ∧ i = .int .i64 k ∧ k ≤ t.size ∧ Hid (y = orF t k)) (fun _ i => t.size - (intOf i).toNat)
  case atStart => exact ⟨0, 0, rfl, rfl, by omega, Hid.mk rfl⟩
  case round =>
    obtain ⟨y, k, rfl, rfl, hk, HY⟩ := hrel
    by_cases hlt : k < t.size
    · have c3 : (k : Int) < t.size := by omega
      have HV : Hid (sb t k = (t[k].toNat : Int)) := Hid.mk (sb_at t k hlt)
      go_wp2
      go_round
      case rel => exact ⟨_, k + 1, rfl, by go_num, by omega, Hid.mk (by rw [orF, ← HY.out, HV.out])⟩
      case measure => simp [intOf]; omega
    · have c3 : ¬ (k : Int) < t.size := by omega
      have hk' : k = t.size := by omega
      have HE : Hid ((y == 0) = decide (t = zeros 32)) := Hid.mk (by
        rw [Bool.eq_iff_iff]
        simp only [beq_iff_eq, decide_eq_true_eq]
        rw [HY.out, hk', ht, orF_zero, zeros_iff ht])
      clear hk'
      go_wp2
      go_ret
      exact ⟨congrArg (fun z => Ending.returned (Value.bool z)) HE.out, rfl⟩
set_option maxHeartbeats 1000000 in
theorem swait_f (s k : ByteArray) (w : World) :
    Calls Tryz.prog 40 #[.string s, .string k] w fun e w' =>
      ((¬ (s.size = 32 ∧ k.size = 32) ∧ e = .returned (.tuple #[.pointer none, .int .i64 1])) ∨ ((s.size = 32 ∧ k.size = 32) ∧ e = .returned (.tuple #[.pointer (some ⟨w.heap.size, 0, none⟩), .int .i64 0]) ∧ SesAt w' w.heap.size (waitS s k) nilS nilS nilS)) ∧ Below w.heap.size w w' := by
  by_cases h1 : s.size = 32
  · by_cases h2 : k.size = 32
    · have c1 : (s.size : Int) = 32 := by omega
      have c2 : (k.size : Int) = 32 := by omega
      have HH := Hid.mk (And.intro h1 h2)
      clear h1 h2
      go_enter Tryz.func40, Tryz.ntmps40
      go_wp2
      go_ret2
      exact ⟨Or.inr ⟨HH.out, rfl, ⟨by simp [go_sem]; rfl, KpsAt.nil _, StrsAt.nil _, StrsAt.nil _⟩⟩, by_alloc w _⟩
    · have c1 : (s.size : Int) = 32 := by omega
      have c2 : ((k.size : Int) != 32) = true := by simp; omega
      have c3 : ¬ (k.size : Int) = 32 := by omega
      have HH := Hid.mk h2
      clear h2
      go_enter Tryz.func40, Tryz.ntmps40
      go_wp2
      go_ret2
      exact ⟨Or.inl ⟨fun h => HH.out h.2, rfl⟩, Below.refl _ _⟩
  · have c2 : ((s.size : Int) != 32) = true := by simp; omega
    have c3 : ¬ (s.size : Int) = 32 := by omega
    have HH := Hid.mk h1
    clear h1
    go_enter Tryz.func40, Tryz.ntmps40
    go_wp2
    go_ret2
    exact ⟨Or.inl ⟨fun h => HH.out h.1, rfl⟩, Below.refl _ _⟩
set_option maxHeartbeats 1000000 in
theorem sstart_f (s t k : ByteArray) (hs : s.size = 32) (ht : t.size = 32) (hk : k.size = 32) (w : World) (hT : Tbl w) :
    Calls Tryz.prog 39 #[.string s, .string t, .string k] w fun e w' =>
      ((dhF k t = zeros 32 ∧ e = .returned (.tuple #[.pointer none, .int .i64 9])) ∨ (dhF k t ≠ zeros 32 ∧ ∃ g, w.heap.size ≤ g ∧ e = .returned (.tuple #[.pointer (some ⟨g, 0, none⟩), .int .i64 0]) ∧ SesAt w' g (startS s t k) nilS nilS nilS)) ∧ Below w.heap.size w w' := by
  have c1 : (s.size : Int) = 32 := by omega
  have c2 : (t.size : Int) = 32 := by omega
  have c3 : (k.size : Int) = 32 := by omega
  have z1 := dhF_size k t
  have HL : Hid (startS s t k = ⟨rootA s (dhF k t), k, t, rootC s (dhF k t), ⟨#[]⟩, 0, 0, 0, [], [], []⟩) := Hid.mk rfl
  by_cases hd : dhF k t = zeros 32
  · have HD : Hid (decide (dhF k t = zeros 32) = true) := Hid.mk (by simp [hd])
    have HDD := Hid.mk hd
    clear hd
    go_enter Tryz.func39, Tryz.ntmps39
    go_wp2_with (first
      | (go_at_call 67; have M := cshared_f k t (by omega) (by omega) w; with_reducible refine M.mono ?_; clear M; rintro e w1 ⟨rfl, b1⟩)
      | (go_at_call 68; have M := allNoughts_any (dhF k t) z1 w1; with_reducible refine M.mono ?_; clear M; rintro e w2 ⟨rfl, rfl⟩; rw [HD.out])
      | fail)
    go_ret2
    exact ⟨Or.inl ⟨HDD.out, rfl⟩, b1⟩
  · have HD : Hid (decide (dhF k t = zeros 32) = false) := Hid.mk (by simp [hd])
    have HDD := Hid.mk hd
    clear hd
    go_enter Tryz.func39, Tryz.ntmps39
    go_wp2_with (first
      | (go_at_call 67; have M := cshared_f k t (by omega) (by omega) w; with_reducible refine M.mono ?_; clear M; rintro e w1 ⟨rfl, b1⟩; have T1 := hT.below b1; have s1 := b1.size)
      | (go_at_call 68; have M := allNoughts_any (dhF k t) z1 w1; with_reducible refine M.mono ?_; clear M; rintro e w2 ⟨rfl, rfl⟩; rw [HD.out])
      | (go_at_call 69; have M := root_any s (dhF k t) hs z1 w2 T1; with_reducible refine M.mono ?_; clear M; rintro e w3 ⟨rfl, b3⟩; have B3 := below_lift b1 s1 b3; have s3 := B3.size)
      | fail)
    go_ret2
    exact ⟨Or.inr ⟨HDD.out, w3.heap.size, s3, rfl, ⟨by rw [HL.out]; simp [go_sem]; rfl, KpsAt.nil _, StrsAt.nil _, StrsAt.nil _⟩⟩, B3.alloc s3 _⟩
end Go.Proofs.YteghoooelgcpkabGreatDoor
namespace Go
section
variable {P : Program} {ops : Array Oper} {C : World → Prop} {o : Oper} {rest : List Oper} {a : Act} {Q : Act → Prop}
theorem quiet_move (hg : o.guard = none) (x : Operand) (ho : o.op = .move x) (v : Value) (hx : a.eval x = v) (h : wpQuiet P ops C Q rest (a.put o.dst v)) : wpQuiet P ops C Q (o :: rest) a :=
  quiet_value hg v (fun w _ => ⟨w, by unfold execOp; simp only [ho, hx]; rfl, rfl⟩) h
theorem quiet_assign (hg : o.guard = none) (x : Operand) (ho : o.op = .assign x) (v : Value) (hx : a.eval x = v) (h : wpQuiet P ops C Q rest (a.put o.dst v)) : wpQuiet P ops C Q (o :: rest) a :=
  quiet_value hg v (fun w _ => ⟨w, by unfold execOp; simp only [ho, hx]; rfl, rfl⟩) h
theorem quiet_nil (hg : o.guard = none) (x : Operand) (ho : o.op = .nilCheck x) (p : Addr) (hx : a.eval x = .pointer (some p)) (h : wpQuiet P ops C Q rest (a.put o.dst (.pointer (some p)))) : wpQuiet P ops C Q (o :: rest) a :=
  quiet_value hg _ (fun w _ => ⟨w, by unfold execOp; simp only [ho, hx]; simp [go_sem], rfl⟩) h
theorem quiet_cat (hg : o.guard = none) (t t' : TypeId) (x y : Operand) (ho : o.op = .binOp .add t x y t') (s u : ByteArray) (hx : a.eval x = .string s) (hy : a.eval y = .string u) (hs : s.size + u.size < 2 ^ 31)
    (h : wpQuiet P ops C Q rest (a.put o.dst (.string (s ++ u)))) : wpQuiet P ops C Q (o :: rest) a :=
  quiet_value hg _ (fun w _ => ⟨w, by unfold execOp; simp only [ho, hx, hy]; simp [go_sem]; try omega, rfl⟩) h
end
end Go
namespace Go.Msg
open Go.RowKit Go.Proofs.YteghoooelgcpkabGreatDoor
theorem be1 {x : Int} (h : 0 ≤ x ∧ x < 256) : be 1 x = b1 x := by
  show b1 (x / 256 ^ 0 % 256) ++ ⟨#[]⟩ = b1 x
  rw [ba_empty]; congr 1; simp; omega
end Go.Msg
namespace Go.Proofs.YteghoooelgcpkabGreatDoor
open Go.RowKit Go.Msg
theorem oneByte_f (x : Int) (hx : 0 ≤ x ∧ x < 256) (w : World) :
    Calls Tryz.prog 93 #[.int .i64 x] w fun e w' => e = .returned (.string (Proofs.YteghoooelgcpkabGreatDoor.b1 x)) ∧ Below w.heap.size w w' := by
  have HE := Hid.mk (be1 hx)
  have c : x % 4294967296 = x := by omega
  obtain ⟨h0, h1⟩ := hx
  go_enter Tryz.func93, Tryz.ntmps93
  go_wp2_with (first | (go_at_call 94; have M := otext1 x ⟨by omega, by omega⟩ w; with_reducible refine M.mono ?_; clear M; rintro e w1 ⟨rfl, b1⟩; rw [HE.out]) | fail)
  go_ret
  exact ⟨rfl, b1⟩
theorem u16_f (x : Int) (hx : 0 ≤ x ∧ x < 65536) (w : World) :
    Calls Tryz.prog 63 #[.int .i64 x] w fun e w' => e = .returned (.string (be 2 x)) ∧ Below w.heap.size w w' := by
  have c : x % 4294967296 = x := by omega
  obtain ⟨h0, h1⟩ := hx
  go_enter Tryz.func63, Tryz.ntmps63
  go_wp2_with (first | (go_at_call 94; have M := otext2 x ⟨by omega, by omega⟩ w; with_reducible refine M.mono ?_; clear M; rintro e w1 ⟨rfl, b1⟩) | fail)
  go_ret
  exact ⟨rfl, b1⟩
theorem maybeText_f (t : ByteArray) (ht : Opt t) (w : World) :
    Calls Tryz.prog 62 #[.string t] w fun e w' => e = .returned (.string (optB t)) ∧ Below w.heap.size w w' := by
  have zt : t.size ≤ 32 := by rcases ht with h | h <;> omega
  by_cases he : t.toList = []
  · have HE : Hid (optB t = Proofs.YteghoooelgcpkabGreatDoor.b1 0) := Hid.mk (by rw [optB_no (toList_nil.1 he)]; rfl)
    have hb : t.toList.isEmpty = true := by rw [he]; rfl
    go_enter Tryz.func62, Tryz.ntmps62
    go_wp2_with (first | (go_at_call 93; have M := oneByte_f 0 (by omega) w; with_reducible refine M.mono ?_; clear M; rintro e w1 ⟨rfl, b1⟩; rw [← HE.out]) | fail)
    go_ret
    exact ⟨rfl, b1⟩
  · have HE : Hid (optB t = Proofs.YteghoooelgcpkabGreatDoor.b1 1 ++ t) := Hid.mk (by rw [optB_yes (fun e => he (toList_nil.2 e))]; rfl)
    have hb : t.toList.isEmpty = false := by cases h : t.toList <;> simp_all
    have z1 := b1_size 1
    go_enter Tryz.func62, Tryz.ntmps62
    go_wp2_with (first | (go_at_call 93; have M := oneByte_f 1 (by omega) w; with_reducible refine M.mono ?_; clear M; rintro e w1 ⟨rfl, b1⟩) | fail)
    go_ret
    exact ⟨congrArg (fun z => Ending.returned (Value.string z)) HE.out.symm, b1⟩
set_option maxHeartbeats 1000000 in
theorem listText_f (v : Value) (l : List ByteArray) (hl : l.length ≤ 200) (hw : ∀ t ∈ l, t.size = 32) (w : World) (hv : StrsAt w v l) :
    Calls Tryz.prog 65 #[v] w fun e w' => e = .returned (.string (Proofs.YteghoooelgcpkabGreatDoor.b1 (l.length : Int) ++ strsB l)) ∧ Below w.heap.size w w' := by
  obtain ⟨ao, cap, g, o, rfl, hc, ha, hx⟩ := hv
  obtain ⟨n, hn⟩ : ∃ n, n = l.length := ⟨_, rfl⟩
  have HN := Hid.mk hn
  rw [← hn] at hl hc ha ⊢
  have HX := Hid.mk hx
  have HW := Hid.mk hw
  clear hn hx hw
  have c0 : (n : Int) ≤ 200 := by omega
  have z1 : (Proofs.YteghoooelgcpkabGreatDoor.b1 (n : Int)).size = 1 := b1_size _
  go_enter Tryz.func65, Tryz.ntmps65
  go_wp2_with (first | (go_at_call 93; have M := oneByte_f (n : Int) (by omega) w; with_reducible refine M.mono ?_; clear M; rintro e w1 ⟨rfl, B1⟩) | fail)
  go_loop [3, 4] (fun v i => ∃ (t : ByteArray) (k : Nat), v = .string t ∧ i = .int .i64 k ∧ k ≤ n ∧ t.size ≤ 1 + 32 * k ∧ Hid (t = Proofs.YteghoooelgcpkabGreatDoor.b1 (n : Int) ++ strsB (l.take k))) (fun _ i => n - (intOf i).toNat)
  case atStart => exact ⟨_, 0, rfl, rfl, by omega, by omega, Hid.mk (by show Proofs.YteghoooelgcpkabGreatDoor.b1 (n : Int) = Proofs.YteghoooelgcpkabGreatDoor.b1 (n : Int) ++ ⟨#[]⟩; rw [ba_empty])⟩
  case round =>
    obtain ⟨t, k, rfl, rfl, hk, ht, HTT⟩ := hrel
    by_cases hlt : k < n
    · have c5 : (k : Int) < n := by omega
      have c6 : t.size ≤ 10000 := by omega
      have hao := ha (by omega)
      subst hao
      obtain ⟨p, hp⟩ : ∃ p, l[k]? = some p := ⟨l[k]'(by rw [← HN.out]; exact hlt), List.getElem?_eq_getElem _⟩
      have zp := HW.out p (List.mem_of_getElem? hp)
      have hpc := HX.out k p hp
      have e1 : w1.cell? ⟨g, o + k, none⟩ = some (.string p) := by rw [B1.cell (World.block_lt_of_cell? w _ hpc)]; exact hpc
      have HST : Hid (strsB (l.take (k + 1)) = strsB (l.take k) ++ p) := Hid.mk (by rw [take_snoc _ _ _ hp, strsB_snoc])
      clear hp hpc
      go_wp2
      go_round
      case rel => exact ⟨_, k + 1, rfl, by go_num, by omega, by simp only [ByteArray.size_append, zp]; omega, Hid.mk (by rw [HST.out, HTT.out, ByteArray.append_assoc])⟩
      case measure => simp [intOf]; omega
    · have c5 : ¬ (k : Int) < n := by omega
      have HE : Hid (t = Proofs.YteghoooelgcpkabGreatDoor.b1 (n : Int) ++ strsB l) := Hid.mk (by rw [HTT.out, show k = l.length by rw [← HN.out]; omega, List.take_length])
      go_wp2
      go_ret
      exact ⟨congrArg (fun z => Ending.returned (Value.string z)) HE.out, B1⟩
set_option maxHeartbeats 2000000 in
theorem keptText_f (v : Value) (l : List Kp) (hl : l.length ≤ 200) (hw : ∀ k ∈ l, k.Wf) (w : World) (hv : KpsAt w v l) :
    Calls Tryz.prog 64 #[v] w fun e w' => e = .returned (.string (Proofs.YteghoooelgcpkabGreatDoor.b1 (l.length : Int) ++ kpsB l)) ∧ Below w.heap.size w w' := by
  obtain ⟨ao, cap, g, o, rfl, hc, ha, hx⟩ := hv
  obtain ⟨n, hn⟩ : ∃ n, n = l.length := ⟨_, rfl⟩
  have HN := Hid.mk hn
  rw [← hn] at hl hc ha ⊢
  have HX := Hid.mk hx
  have HW := Hid.mk hw
  clear hn hx hw
  have c0 : (n : Int) ≤ 200 := by omega
  have z1 : (Proofs.YteghoooelgcpkabGreatDoor.b1 (n : Int)).size = 1 := b1_size _
  go_enter Tryz.func64, Tryz.ntmps64
  go_wp2_with (first | (go_at_call 93; have M := oneByte_f (n : Int) (by omega) w; with_reducible refine M.mono ?_; clear M; rintro e w1 ⟨rfl, B1⟩) | fail)
  go_loopw [3, 4] (fun v i wq => ∃ (t : ByteArray) (k : Nat), v = .string t ∧ i = .int .i64 k ∧ k ≤ n ∧ t.size ≤ 1 + 66 * k ∧ Hid (t = Proofs.YteghoooelgcpkabGreatDoor.b1 (n : Int) ++ kpsB (l.take k)) ∧ Below w.heap.size w wq) (fun _ i _ => n - (intOf i).toNat)
  case atStart => exact ⟨_, 0, rfl, rfl, by omega, by omega, Hid.mk (by show Proofs.YteghoooelgcpkabGreatDoor.b1 (n : Int) = Proofs.YteghoooelgcpkabGreatDoor.b1 (n : Int) ++ ⟨#[]⟩; rw [ba_empty]), B1⟩
  case round =>
    obtain ⟨t, k, rfl, rfl, hk, ht, HTT, Bq⟩ := hrel
    by_cases hlt : k < n
    · have c5 : (k : Int) < n := by omega
      have c6 : t.size ≤ 20000 := by omega
      have hao := ha (by omega)
      subst hao
      obtain ⟨kp, hkp⟩ : ∃ kp, l[k]? = some kp := ⟨l[k]'(by rw [← HN.out]; exact hlt), List.getElem?_eq_getElem _⟩
      have hkw := HW.out kp (List.mem_of_getElem? hkp)
      obtain ⟨hp, hxi, hky⟩ := HX.out k kp hkp
      have zp := hkw.pt
      have zk := hkw.key
      have zn : 0 ≤ (kp.n : Int) ∧ (kp.n : Int) < 65536 := by have := hkw.n; omega
      have x5 : (be 2 (kp.n : Int)).size = 2 := be_size _ _
      have HST : Hid (kpsB (l.take (k + 1)) = kpsB (l.take k) ++ kpB kp) := Hid.mk (by rw [take_snoc _ _ _ hkp, kpsB_snoc])
      clear hkw hkp
      go_wp2
      have E0 : ∀ W, Below w.heap.size w W → W.cell? ⟨g, o + k * 3, none⟩ = some (.string kp.pt) := fun W hW => by rw [hW.cell (World.block_lt_of_cell? w _ hp)]; exact hp
      have E1 : ∀ W, Below w.heap.size w W → W.cell? ⟨g, o + k * 3 + 1, none⟩ = some (.int .i64 (kp.n : Int)) := fun W hW => by rw [hW.cell (World.block_lt_of_cell? w _ hxi)]; exact hxi
      have E2 : ∀ W, Below w.heap.size w W → W.cell? ⟨g, o + k * 3 + 2, none⟩ = some (.string kp.key) := fun W hW => by rw [hW.cell (World.block_lt_of_cell? w _ hky)]; exact hky
      refine wp_region_quiet (C := fun W => Below w.heap.size w W) mixed_any (by kernel_rfl) Bq.drew ?_
      simp only
      refine quiet_move rfl _ rfl (.string t) rfl ?_
      simp only [Act.put, List.setIfInBounds_toArray, List.set_cons_succ, List.set_cons_zero]
      refine quiet_move rfl _ rfl (.slice (some ⟨g, o, none⟩) n cap) rfl ?_
      simp only [Act.put, List.setIfInBounds_toArray, List.set_cons_succ, List.set_cons_zero]
      refine quiet_move rfl _ rfl (.int .i64 (k : Int)) rfl ?_
      simp only [Act.put, List.setIfInBounds_toArray, List.set_cons_succ, List.set_cons_zero]
      refine quiet_value rfl (.pointer (some ⟨g, o + k * 3, none⟩)) (fun W hW => ⟨W, by unfold execOp; simp [go_sem, Act.eval, c5], rfl⟩) ?_
      simp only [Act.put, List.setIfInBounds_toArray, List.set_cons_succ, List.set_cons_zero]
      refine quiet_value rfl (.pointer (some ⟨g, o + k * 3, none⟩)) (fun W hW => ⟨W, by unfold execOp; simp [go_sem, Act.eval], rfl⟩) ?_
      simp only [Act.put, List.setIfInBounds_toArray, List.set_cons_succ, List.set_cons_zero]
      refine quiet_value rfl (.string kp.pt) (fun W hW => ⟨W, by have E := E0 W hW; unfold execOp; simp [go_sem, Act.eval, E], rfl⟩) ?_
      simp only [Act.put, List.setIfInBounds_toArray, List.set_cons_succ, List.set_cons_zero]
      refine quiet_move rfl _ rfl (.slice (some ⟨g, o, none⟩) n cap) rfl ?_
      simp only [Act.put, List.setIfInBounds_toArray, List.set_cons_succ, List.set_cons_zero]
      refine quiet_move rfl _ rfl (.int .i64 (k : Int)) rfl ?_
      simp only [Act.put, List.setIfInBounds_toArray, List.set_cons_succ, List.set_cons_zero]
      refine quiet_value rfl (.pointer (some ⟨g, o + k * 3, none⟩)) (fun W hW => ⟨W, by unfold execOp; simp [go_sem, Act.eval, c5], rfl⟩) ?_
      simp only [Act.put, List.setIfInBounds_toArray, List.set_cons_succ, List.set_cons_zero]
      refine quiet_value rfl (.pointer (some ⟨g, o + k * 3 + 1, none⟩)) (fun W hW => ⟨W, by unfold execOp; simp [go_sem, Act.eval], rfl⟩) ?_
      simp only [Act.put, List.setIfInBounds_toArray, List.set_cons_succ, List.set_cons_zero]
      refine quiet_value rfl (.int .i64 (kp.n : Int)) (fun W hW => ⟨W, by have E := E1 W hW; unfold execOp; simp [go_sem, Act.eval, E], rfl⟩) ?_
      simp only [Act.put, List.setIfInBounds_toArray, List.set_cons_succ, List.set_cons_zero]
      refine quiet_call rfl (.string (be 2 (kp.n : Int))) 63 #[.int .i64 (kp.n : Int)] (fun W => by unfold execOp; simp [go_sem, Act.eval]) (fun W hW => (u16_f (kp.n : Int) zn W).mono fun _ _ h => ⟨h.1, below_lift hW hW.size h.2⟩) ?_
      simp only [Act.put, List.setIfInBounds_toArray, List.set_cons_succ, List.set_cons_zero]
      refine quiet_cat rfl _ _ _ _ rfl (kp.pt) (be 2 (kp.n : Int)) rfl rfl (by first | omega | (simp only [ByteArray.size_append]; omega)) ?_
      simp only [Act.put, List.setIfInBounds_toArray, List.set_cons_succ, List.set_cons_zero]
      refine quiet_move rfl _ rfl (.slice (some ⟨g, o, none⟩) n cap) rfl ?_
      simp only [Act.put, List.setIfInBounds_toArray, List.set_cons_succ, List.set_cons_zero]
      refine quiet_move rfl _ rfl (.int .i64 (k : Int)) rfl ?_
      simp only [Act.put, List.setIfInBounds_toArray, List.set_cons_succ, List.set_cons_zero]
      refine quiet_value rfl (.pointer (some ⟨g, o + k * 3, none⟩)) (fun W hW => ⟨W, by unfold execOp; simp [go_sem, Act.eval, c5], rfl⟩) ?_
      simp only [Act.put, List.setIfInBounds_toArray, List.set_cons_succ, List.set_cons_zero]
      refine quiet_value rfl (.pointer (some ⟨g, o + k * 3 + 2, none⟩)) (fun W hW => ⟨W, by unfold execOp; simp [go_sem, Act.eval], rfl⟩) ?_
      simp only [Act.put, List.setIfInBounds_toArray, List.set_cons_succ, List.set_cons_zero]
      refine quiet_value rfl (.string kp.key) (fun W hW => ⟨W, by have E := E2 W hW; unfold execOp; simp [go_sem, Act.eval, E], rfl⟩) ?_
      simp only [Act.put, List.setIfInBounds_toArray, List.set_cons_succ, List.set_cons_zero]
      refine quiet_cat rfl _ _ _ _ rfl (kp.pt ++ be 2 (kp.n : Int)) (kp.key) rfl rfl (by first | omega | (simp only [ByteArray.size_append]; omega)) ?_
      simp only [Act.put, List.setIfInBounds_toArray, List.set_cons_succ, List.set_cons_zero]
      refine quiet_cat rfl _ _ _ _ rfl (t) (kp.pt ++ be 2 (kp.n : Int) ++ kp.key) rfl rfl (by first | omega | (simp only [ByteArray.size_append]; omega)) ?_
      simp only [Act.put, List.setIfInBounds_toArray, List.set_cons_succ, List.set_cons_zero]
      refine quiet_assign rfl _ rfl (.string (t ++ (kp.pt ++ be 2 (kp.n : Int) ++ kp.key))) rfl ?_
      simp only [Act.put, List.setIfInBounds_toArray, List.set_cons_succ, List.set_cons_zero]
      refine wpQuiet_nil ?_
      intro wz Bz
      go_wp2
      go_roundw
      case rel => exact ⟨_, k + 1, rfl, by go_num, by omega, by simp only [ByteArray.size_append, zp, zk, x5]; omega, Hid.mk (by rw [HST.out, HTT.out]; simp only [kpB, ByteArray.append_assoc]), Bz⟩
      case measure => simp [intOf]; omega
    · have c5 : ¬ (k : Int) < n := by omega
      have HE : Hid (t = Proofs.YteghoooelgcpkabGreatDoor.b1 (n : Int) ++ kpsB l) := Hid.mk (by rw [HTT.out, show k = l.length by rw [← HN.out]; omega, List.take_length])
      go_wp2
      go_ret
      exact ⟨congrArg (fun z => Ending.returned (Value.string z)) HE.out, Bq⟩
end Go.Proofs.YteghoooelgcpkabGreatDoor
