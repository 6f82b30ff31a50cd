import Derived.Test.YteghoooelgcpkaaGreatDoorM00
import Derived.Test.YteghoooelgcpkaaGreatDoorM08
namespace Go.Msg
def mixF (W h : Nat → Int) (i : Nat) : Int := (h i + rnds W h 64 i) % 4294967296
theorem rstep_sum (k v : Int) (s : Nat → Int) : rstep 0 ((k + v) % 4294967296) s = rstep k v s := by
  have e : rT 0 ((k + v) % 4294967296) s = rT k v s := by unfold rT; omega
  unfold rstep; rw [e]
end Go.Msg
namespace Go.Proofs.YteghoooelgcpkaaGreatDoor
open Go.RowKit Go.Msg
def thro (k : Nat) (a b : Nat → Int) (i : Nat) : Int := if i < k then a i else b i
theorem thro_zero (a b : Nat → Int) : thro 0 a b = b := by funext i; simp [thro]
theorem thro_at (k : Nat) (a b : Nat → Int) : thro k a b k = b k := by simp [thro]
theorem thro_step (k : Nat) (a b : Nat → Int) : upd (thro k a b) k (a k) = thro (k + 1) a b := by
  funext i
  unfold upd thro
  by_cases e : i = k
  · subst e; simp
  · rw [if_neg e]
    by_cases h : i < k
    · rw [if_pos h, if_pos (by omega)]
    · rw [if_neg h, if_neg (by omega)]
theorem thro_end (k : IntKind) (n : Nat) (a b : Nat → Int) : tab k n (thro n a b) = tab k n a := tab_congr fun i hi => by simp [thro, hi]
structure Tbl (w : World) : Prop where
  sq : ∀ i, i < 8 → w.cell? ⟨0, i, none⟩ = some (.int .u32 (Hc i))
  cu : ∀ i, i < 64 → w.cell? ⟨1, i, none⟩ = some (.int .u32 (Kc i))
theorem Tbl.lt {w : World} (h : Tbl w) : 1 < w.heap.size := World.block_lt_of_cell? w _ (h.cu 0 (by omega))
theorem Tbl.below {w w' : World} (h : Tbl w) (hb : Below w.heap.size w w') : Tbl w' := by
  have := h.lt
  exact ⟨fun i hi => by rw [hb.cell (by show 0 < _; omega)]; exact h.sq i hi, fun i hi => by rw [hb.cell (by show 1 < _; omega)]; exact h.cu i hi⟩
theorem below4x (w : World) (A B C D : Obj) (bs : List Obj) (n : Nat) : Below w.heap.size w ((((((w.alloc A).alloc B).alloc C).alloc D).exts bs).dr n) :=
  below_dr (below_exts' (((((Below.refl _ _).alloc (Nat.le_refl _) _).alloc (by simp) _).alloc (by simp; omega) _).alloc (by simp; omega) _) (by simp; omega) _) _
theorem rnds_tab (W h : Nat → Int) : tab .u32 8 h = tab .u32 8 (rnds W h 0) := tab_congr fun i hi => (o8_at h i hi).symm
set_option maxRecDepth 4000 in
set_option maxHeartbeats 4000000 in
theorem dmixed_any (h W : Nat → Int) (hh : ∀ i, i < 8 → B32 (h i)) (hW : ∀ i, i < 64 → B32 (W i)) (w : World) (ht : Tbl w) :
    Calls Tryz.prog 171 #[.agg (tab .u32 8 h), .agg (tab .u32 64 W)] w fun e w' => e = .returned (.agg (tab .u32 8 (mixF W h))) ∧ Below w.heap.size w w' := by
  have hlt1 := ht.lt
  have HT : Hid _ := ht
  have HH : Hid _ := hh
  have HWB : Hid _ := hW
  clear ht hh hW
  go_enter Tryz.func171, Tryz.ntmps171
  go_wp2_with (first | (refine wpl_load rtS rfl _ rfl _ rfl (tab .u32 8 h) ?_ (tab_size _ _ _) ?_; (focus (first | (simp [go_sem]; done) | (simp (disch := first | (simp [go_sem]; done) | (simp [go_sem]; omega)) [go_sem]; done)))) | (refine wpl_store rtS rfl _ _ rfl _ rfl (tab .u32 8 h) rfl ?_ (tab_size _ _ _) (tab_all _ _ _) ((((w.alloc (c8 h)).alloc (c64 W)).alloc (c8 (fun _ => 0))).alloc (c8 h)) ?_ ?_; (focus (first | (simp [go_sem]; done) | (simp (disch := first | (simp [go_sem]; done) | (simp [go_sem]; omega)) [go_sem]; done))); (focus (first | (simp [go_sem]; done) | (simp (disch := first | (simp [go_sem]; done) | (simp [go_sem]; omega)) [go_sem]; done)))))
  go_loopw [6] (fun i wr => ∃ (k n : Nat) (bs : List Obj), k ≤ 64 ∧ i = .int .i64 k ∧ wr = (((((w.alloc (c8 h)).alloc (c64 W)).alloc (c8 (fun _ => 0))).alloc (c8 (rnds W h k))).exts bs).dr n) (fun i _ => 64 - (intOf i).toNat)
  case atStart => exact ⟨0, _, [], by omega, rfl, by rw [World.exts_nil, World.dr_self, c8, rnds_tab W h]⟩
  case round =>
    obtain ⟨k, n, bs, hk, rfl, rfl⟩ := hrel
    by_cases hlt : k < 64
    · have c1 : (k : Int) < 64 := by omega
      have yk : ((w.alloc (c8 h)).alloc (c64 W)).cell? ⟨1, k, none⟩ = some (.int .u32 (Kc k)) := by rw [(by_alloc2 w _ _).cell (show 1 < _ from hlt1)]; exact HT.out.cu k hlt
      obtain ⟨kl, kh⟩ := Kc_bd k
      obtain ⟨Wl, Wh⟩ := HWB.out k hlt
      obtain ⟨s, hs⟩ : ∃ s, s = rnds W h k := ⟨_, rfl⟩
      have hsb : ∀ i, i < 8 → B32 (s i) := fun i _ => by rw [hs]; exact rnds_bd HH.out k i
      have HSB : Hid _ := hsb
      have HN : Hid (rstep 0 ((Kc k + W k) % 4294967296) s = rnds W h (k + 1)) := Hid.mk (by rw [rstep_sum, hs]; rfl)
      rw [← hs]
      clear hs hsb
      go_wp2_with fail
      refine wp_region_quiet_tail 8 (fun w' => ∃ m, w' = (((((w.alloc (c8 h)).alloc (c64 W)).alloc (c8 (fun _ => 0))).alloc (c8 s)).exts bs).dr m) mixed_any (by kernel_rfl) ⟨_, rfl⟩ ?_
      simp only [List.take_succ_cons, List.take_zero, List.drop_succ_cons, List.drop_zero]
      refine quiet_load_row rtS rfl _ rfl _ rfl (tab .u32 8 s) (tab_size _ _ _) ?_ ?_
      · rintro w' ⟨p, rfl⟩; simp [go_sem]
      simp only [Act.put, List.setIfInBounds_toArray, List.set_cons_succ, List.set_cons_zero]
      iterate 7 (go_big_quiet_step (fail))
      refine wpQuiet_nil ?_
      rintro w' ⟨q, rfl⟩
      go_wp2_with (first
        | (go_at_call 186; have M := sround_any s HSB.out ((Kc k + W k) % 4294967296) (mod32 _) ((((((w.alloc (c8 h)).alloc (c64 W)).alloc (c8 (fun _ => 0))).alloc (c8 s)).exts bs).dr q); with_reducible refine M.mono ?_; clear M; rintro e w' ⟨rfl, hb1⟩; obtain ⟨bs1, n1, rfl⟩ := below_form2 hb1; rw [HN.out])
        | (refine wpl_store rtS rfl _ _ rfl _ rfl (tab .u32 8 (rnds W h (k + 1))) rfl ?_ (tab_size _ _ _) (tab_all _ _ _) ((((((w.alloc (c8 h)).alloc (c64 W)).alloc (c8 (fun _ => 0))).alloc (c8 (rnds W h (k + 1)))).exts bs1).dr n1) ?_ ?_; (focus (first | (simp [go_sem]; done) | (simp (disch := first | (simp [go_sem]; done) | (simp [go_sem]; omega)) [go_sem]; done))); (focus (first | (simp [go_sem]; done) | (simp (disch := first | (simp [go_sem]; done) | (simp [go_sem]; omega)) [go_sem]; done)))))
      go_roundw
      case rel => exact ⟨k + 1, _, bs1, by omega, by go_num, rfl⟩
      case measure => simp [intOf]; omega
    · have hk' : k = 64 := by omega
      subst hk'
      rw [show ((64 : Nat) : Int) = 64 from rfl]
      obtain ⟨s, hs⟩ : ∃ s, s = rnds W h 64 := ⟨_, rfl⟩
      have hsb : ∀ i, B32 (s i) := fun i => by rw [hs]; exact rnds_bd HH.out 64 i
      have HSB : Hid _ := hsb
      have HM : Hid (∀ i, (h i + s i) % 4294967296 = mixF W h i) := Hid.mk (fun i => by rw [hs]; rfl)
      rw [← hs]
      clear hs hsb
      go_wp2
      go_loopw [7] (fun i wr => ∃ k n : Nat, k ≤ 8 ∧ i = .int .i64 k ∧ wr = (((((w.alloc (c8 (thro k (mixF W h) h))).alloc (c64 W)).alloc (c8 (fun _ => 0))).alloc (c8 s)).exts bs).dr n) (fun i _ => 8 - (intOf i).toNat)
      case atStart => exact ⟨0, _, by omega, rfl, by rw [thro_zero]⟩
      case round =>
        obtain ⟨k, n, hk, rfl, rfl⟩ := hrel
        by_cases hlt : k < 8
        · have c1 : (k : Int) < 8 := by omega
          obtain ⟨hl, hhh⟩ := HH.out k hlt
          obtain ⟨sl, sh⟩ := HSB.out k
          obtain ⟨f, hf⟩ : ∃ f, f = thro k (mixF W h) h := ⟨_, rfl⟩
          have fk : f k = h k := by rw [hf, thro_at]
          have HF : Hid (upd f k ((h k + s k) % 4294967296) = thro (k + 1) (mixF W h) h) := Hid.mk (by rw [hf, HM.out, thro_step])
          rw [← hf]
          clear hf
          go_wp2
          go_region
          go_wp2
          go_roundw
          case rel => exact ⟨k + 1, _, by omega, by go_num, by rw [← HF.out]⟩
          case measure => simp [intOf]; omega
        · have hk' : k = 8 := by omega
          subst hk'
          have e8 : c8 (thro 8 (mixF W h) h) = c8 (mixF W h) := by show Obj.cells _ _ = Obj.cells _ _; rw [thro_end]
          rw [show ((8 : Nat) : Int) = 8 from rfl, e8]
          go_wp2_with (first | (refine wpl_load rtS rfl _ rfl _ rfl (tab .u32 8 (mixF W h)) ?_ (tab_size _ _ _) ?_; (focus (first | (simp [go_sem]; done) | (simp (disch := first | (simp [go_sem]; done) | (simp [go_sem]; omega)) [go_sem]; done)))) | (refine wpl_store rtS rfl _ _ rfl _ rfl (tab .u32 8 (mixF W h)) rfl ?_ (tab_size _ _ _) (tab_all _ _ _) ((((((w.alloc (c8 (mixF W h))).alloc (c64 W)).alloc (c8 (mixF W h))).alloc (c8 s)).exts bs).dr n) ?_ ?_; (focus (first | (simp [go_sem]; done) | (simp (disch := first | (simp [go_sem]; done) | (simp [go_sem]; omega)) [go_sem]; done))); (focus (first | (simp [go_sem]; done) | (simp (disch := first | (simp [go_sem]; done) | (simp [go_sem]; omega)) [go_sem]; done)))))
          exact bodyPost_ret (v := .agg (tab .u32 8 (mixF W h))) (by rw [results_row rtS Tryz.results171 _ _ (w.heap.size + 1 + 1) rfl (by first | (simp [go_sem]; done) | (simp (disch := first | (simp [go_sem]; done) | (simp [go_sem]; omega)) [go_sem]; done))]; first | (simp [go_sem]; done) | (simp (disch := first | (simp [go_sem]; done) | (simp [go_sem]; omega)) [go_sem]; done)) rfl ⟨rfl, below4x _ _ _ _ _ _ _⟩
set_option maxHeartbeats 1000000 in
theorem dtext_any (f : Nat → Int) (hf : ∀ i, i < 8 → B32 (f i)) (w : World) :
    Calls Tryz.prog 172 #[.agg (tab .u32 8 f)] w fun e w' => e = .returned (.string (dig f 8)) ∧ Below w.heap.size w w' := by
  have HF : Hid _ := hf
  clear hf
  go_enter Tryz.func172, Tryz.ntmps172
  go_wp2
  go_loopw [3, 4] (fun z i wr => ∃ (k : Nat), k ≤ 8 ∧ z = .string (dig f k) ∧ i = .int .i64 k ∧ Below (w.heap.size + 1) (w.alloc (c8 f)) wr) (fun _ i _ => 8 - (intOf i).toNat)
  case atStart => exact ⟨0, by omega, rfl, rfl, Below.refl _ _⟩
  case round =>
    obtain ⟨k, hk, rfl, rfl, hbel⟩ := hrel
    by_cases hlt : k < 8
    · have c1 : (k : Int) < 8 := by omega
      have hs := hbel.size
      have y1 : wr.cell? ⟨w.heap.size, k, none⟩ = some (.int .u32 (f k)) := by rw [hbel.cell (by simp)]; simp [go_sem, hlt]
      have zs : (dig f k).size ≤ 32 := by rw [dig_size]; omega
      have z4 : (be 4 (f k)).size = 4 := be_size _ _
      go_wp2_with (go_at_call 100; refine (otext_any (f k) (HF.out k hlt) 4 (by omega) _).mono ?_; rintro e w1 ⟨rfl, hb1⟩)
      go_roundw
      case rel => exact ⟨k + 1, by omega, rfl, by go_num, hbel.trans (hb1.mono (by simpa using hs))⟩
      case measure => simp [intOf]; omega
    · have hk' : k = 8 := by omega
      subst hk'
      go_wp2
      go_ret
      exact ⟨rfl, (by_alloc w _).trans (hbel.mono (by omega))⟩
theorem be_split (N : Int) : be 4 (N / 4294967296) ++ be 4 (N % 4294967296) = be 8 N := by
  have d : ∀ j, N / 4294967296 / 256 ^ j % 256 = N / 256 ^ (j + 4) % 256 := fun j => by
    rw [Int.ediv_ediv_of_nonneg (by omega), Int.pow_add, Int.mul_comm]; rfl
  have e0 : N % 4294967296 / 256 ^ 0 % 256 = N / 256 ^ 0 % 256 := by simp
  have e1 : N % 4294967296 / 256 ^ 1 % 256 = N / 256 ^ 1 % 256 := by simp; omega
  have e2 : N % 4294967296 / 256 ^ 2 % 256 = N / 256 ^ 2 % 256 := by simp; omega
  have e3 : N % 4294967296 / 256 ^ 3 % 256 = N / 256 ^ 3 % 256 := by simp; omega
  simp only [be, d, e0, e1, e2, e3, ByteArray.append_assoc, ba_empty]
end Go.Proofs.YteghoooelgcpkaaGreatDoor
namespace Go.Msg
open Go.RowKit Go.Proofs.YteghoooelgcpkaaGreatDoor
theorem mixF_block (h b : Nat → Int) : mixF (wl b 64) h = blockF h b := rfl
theorem pad_of (t : ByteArray) : t ++ (b1 128 ++ zeros (padZ t.size) ++ be 4 (8 * (t.size : Int) / 4294967296) ++ be 4 (8 * (t.size : Int) % 4294967296)) = pad t := by
  unfold pad
  rw [ByteArray.append_assoc (a := b1 128 ++ zeros (padZ t.size)), be_split, ← ByteArray.append_assoc, ← ByteArray.append_assoc]
end Go.Msg
namespace Go.Proofs.YteghoooelgcpkaaGreatDoor
open Go.RowKit Go.Msg
theorem rtA : RowTy Tryz.prog 200 8 := ⟨by decide, by kernel_rfl, _, Tryz.underlying200, rfl⟩
set_option maxHeartbeats 1000000 in
theorem filling_any (n : Nat) (hn : n ≤ 100000) (w : World) :
    Calls Tryz.prog 169 #[.int .i64 (n : Int)] w fun e w' => e = .returned (.string (b1 128 ++ zeros (padZ n) ++ be 4 (8 * (n : Int) / 4294967296) ++ be 4 (8 * (n : Int) % 4294967296))) ∧ Below w.heap.size w w' := by
  have hp : padZ n < 64 := by unfold padZ; omega
  have hq : (119 - (n : Int) % 64) % 64 = (padZ n : Int) := by unfold padZ; omega
  obtain ⟨P, hP⟩ : ∃ P, P = padZ n := ⟨_, rfl⟩
  rw [← hP] at hp hq ⊢
  clear hP
  go_enter Tryz.func169, Tryz.ntmps169
  go_wp2
  go_loop [3, 5] (fun z i => ∃ (k : Nat) (s : ByteArray), k ≤ P ∧ z = .string s ∧ i = .int .i64 k ∧ s.size = k + 1 ∧ Hid (s = b1 128 ++ zeros k)) (fun _ i => P - (intOf i).toNat)
  case atStart => exact ⟨0, _, by omega, rfl, rfl, rfl, Hid.mk (by rw [zeros_zero, ba_empty]; rfl)⟩
  case round =>
    obtain ⟨k, s, hk, rfl, rfl, hz, HS⟩ := hrel
    by_cases hlt : k < P
    · have c1 : (k : Int) < P := by omega
      have c2 : s.size ≤ 64 := by omega
      have HZ : Hid _ := hz
      clear hz
      go_wp2
      go_round
      case rel => exact ⟨k + 1, _, by omega, rfl, by go_num, by rw [ByteArray.size_append, HZ.out]; rfl, Hid.mk (by rw [HS.out, zeros_succ, ByteArray.append_assoc])⟩
      case measure => simp [intOf]; omega
    · have hk' : k = P := by omega
      subst hk'
      have z1 : (be 4 ((n : Int) / 536870912)).size = 4 := be_size _ _
      have z2 : (be 4 ((n : Int) * 8)).size = 4 := be_size _ _
      have HE2 : Hid (8 * (n : Int) % 4294967296 = (n : Int) * 8) := Hid.mk (by omega)
      have c2 : s.size ≤ 64 := by omega
      have HE : Hid ((n : Int) / 536870912 = 8 * (n : Int) / 4294967296) := Hid.mk (by omega)
      have e1 : (n : Int) / 536870912 % 4294967296 = (n : Int) / 536870912 := by omega
      clear hz
      go_wp2_with (first
        | (go_at_call 100; have M := otext4 ((n : Int) / 536870912) ⟨by omega, by omega⟩ w; with_reducible refine M.mono ?_; clear M; rintro e w1 ⟨rfl, hb1⟩)
        | (go_at_call 100; have M := otext4 ((n : Int) * 8) ⟨by omega, by omega⟩ w1; with_reducible refine M.mono ?_; clear M; rintro e w2 ⟨rfl, hb2⟩))
      go_ret
      exact ⟨congrArg (fun z => Ending.returned (Value.string z)) (by rw [HS.out, HE.out, HE2.out]), below_lift hb1 hb1.size hb2⟩
set_option maxRecDepth 4000 in
set_option maxHeartbeats 4000000 in
theorem dsum_any (t : ByteArray) (ht : t.size ≤ 100000) (w : World) (hT : Tbl w) :
    Calls Tryz.prog 137 #[.string t] w fun e w' => e = .returned (.string (shaF t)) ∧ Below w.heap.size w w' := by
  have zf : (b1 128 ++ zeros (padZ t.size) ++ be 4 (8 * (t.size : Int) / 4294967296) ++ be 4 (8 * (t.size : Int) % 4294967296)).size ≤ 100 := by
    simp only [ByteArray.size_append, b1_size, be_size, zeros, bstr_size]; unfold padZ; omega
  have HP := pad_of t
  obtain ⟨F, hF⟩ : ∃ F, F = b1 128 ++ zeros (padZ t.size) ++ be 4 (8 * (t.size : Int) / 4294967296) ++ be 4 (8 * (t.size : Int) % 4294967296) := ⟨_, rfl⟩
  have HF : Hid _ := hF
  rw [← hF] at HP zf
  have hm0 := pad_mod t
  have hz0 := pad_size t
  obtain ⟨m, hm⟩ : ∃ m, (pad t).size = 64 * m := ⟨(pad t).size / 64, by omega⟩
  have hz1 : (pad t).size ≤ 200000 := by rw [hz0]; unfold padZ; omega
  have HSH : Hid (dig (hs (pad t) m) 8 = shaF t) := Hid.mk (by unfold shaF; rw [show (pad t).size / 64 = m by omega])
  have HPD : Hid (t ++ F = pad t) := HP
  have HTT : Hid _ := hT
  clear hm0 hz0 HP hF hT
  go_enter Tryz.func137, Tryz.ntmps137
  go_wp2_with (go_at_call 169; have M := filling_any t.size ht w; with_reducible refine M.mono ?_; clear M; rintro e w1 ⟨rfl, hb1⟩; rw [← HF.out]; have hT1 := HTT.out.below hb1; have q0 := hT1.sq 0 (by omega); have q1 := hT1.sq 1 (by omega); have q2 := hT1.sq 2 (by omega); have q3 := hT1.sq 3 (by omega); have q4 := hT1.sq 4 (by omega); have q5 := hT1.sq 5 (by omega); have q6 := hT1.sq 6 (by omega); have q7 := hT1.sq 7 (by omega); clear hT1)
  rw [HPD.out]
  obtain ⟨T, hT⟩ : ∃ T, T = pad t := ⟨_, rfl⟩
  rw [← hT] at hm hz1 ⊢
  have HTP : Hid (T = pad t) := hT
  have hT1 := HTT.out.below hb1
  have R1 : (w1.alloc (Obj.cells (tab .u32 8 (upd (upd (upd (upd (upd (upd (upd (upd (fun _ => 0) 0 (Hc 0)) 1 (Hc 1)) 2 (Hc 2)) 3 (Hc 3)) 4 (Hc 4)) 5 (Hc 5)) 6 (Hc 6)) 7 (Hc 7))) 201)).rowOf w1.heap.size = tab .u32 8 (hs T 0) := by
    simp only [go_sem]
    refine tab_congr fun i hi => ?_
    match i, hi with
    | 0, _ => rfl
    | 1, _ => rfl
    | 2, _ => rfl
    | 3, _ => rfl
    | 4, _ => rfl
    | 5, _ => rfl
    | 6, _ => rfl
    | 7, _ => rfl
  have B1 := by_alloc w1 (Obj.cells (tab .u32 8 (upd (upd (upd (upd (upd (upd (upd (upd (fun _ => 0) 0 (Hc 0)) 1 (Hc 1)) 2 (Hc 2)) 3 (Hc 3)) 4 (Hc 4)) 5 (Hc 5)) 6 (Hc 6)) 7 (Hc 7))) 201)
  clear q0 q1 q2 q3 q4 q5 q6 q7 hT
  go_loopw [5, 6] (fun i _ wr => ∃ k : Nat, k ≤ m ∧ i = .int .i64 (64 * (k : Int)) ∧ Hid (wr.rowOf w1.heap.size = tab .u32 8 (hs T k)) ∧ w1.heap.size + 1 ≤ wr.heap.size ∧ Below w1.heap.size w1 wr) (fun i _ _ => 64 * m - (intOf i).toNat)
  case atStart => exact ⟨0, by omega, rfl, R1, by simp, B1⟩
  case round =>
    clear R1 B1
    obtain ⟨k, hk, rfl, R1, hs1, hbel⟩ := hrel
    obtain ⟨f, hf⟩ : ∃ f, f = hs T k := ⟨_, rfl⟩
    have hfb : ∀ i, i < 8 → B32 (f i) := fun i _ => by rw [hf]; exact hs_bd T k i
    by_cases hlt : k < m
    · have c1 : 64 * (k : Int) + 64 ≤ T.size := by omega
      have c3 : 64 * k + 64 ≤ T.size := by omega
      have c4 : (64 * (k : Int)).toNat = 64 * k := by omega
      have c5 : (64 * (k : Int) + 64).toNat = 64 * k + 64 := by omega
      have c6 : (T.size : Int) ≤ 200000 := by omega
      have hz : (T.extract (64 * k) (64 * k + 64)).size = 64 := by rw [ByteArray.size_extract]; omega
      obtain ⟨W, hW⟩ : ∃ W, W = wl (fun i => sb (T.extract (64 * k) (64 * k + 64)) i) 64 := ⟨_, rfl⟩
      have hWb : ∀ i, i < 64 → B32 (W i) := fun i _ => by rw [hW]; exact wl_bd (sb_B8 _) 64 i
      have HN : Hid (mixF W f = hs T (k + 1)) := Hid.mk (by rw [hW, hf, mixF_block]; rfl)
      rw [← hf] at R1
      have HWB : Hid _ := hWb
      have HFB : Hid _ := hfb
      have HW : Hid _ := hW
      clear hf hfb hWb hW
      go_wp2_with (first
        | (go_at_call 170; have M := schedule_any (T.extract (64 * k) (64 * k + 64)) hz wr; with_reducible refine M.mono ?_; clear M; rintro e w2 ⟨rfl, hb2⟩; rw [← HW.out]; have R2 : w2.rowOf w1.heap.size = tab .u32 8 f := (by rw [below_row hb2 (by rw [R1.out, tab_size]; omega)]; exact R1.out); have s2 := hb2.size; have hl2 : w1.heap.size < w2.heap.size := (by omega); have B2 := hbel.trans (hb2.mono (by omega)))
        | (refine wpl_store rtW rfl _ _ rfl w2.heap.size rfl (tab .u32 64 W) rfl ?_ (tab_size _ _ _) (tab_all _ _ _) (w2.alloc (c64 W)) ?_ ?_; (focus (simp [go_sem]; done)); (focus (simp [go_sem]; done)); have B3 := B2.alloc (by omega) (c64 W); have R3 : (w2.alloc (c64 W)).rowOf w1.heap.size = tab .u32 8 f := (by rw [below_row (by_alloc w2 _) (by rw [R2, tab_size]; omega)]; exact R2))
        | (refine wpl_load rtS rfl _ rfl w1.heap.size rfl (tab .u32 8 f) ?_ (tab_size _ _ _) ?_; (focus (exact R3)))
        | (refine wpl_load rtW rfl _ rfl w2.heap.size rfl (tab .u32 64 W) ?_ (tab_size _ _ _) ?_; (focus (simp [go_sem]; done)))
        | (go_at_call 171; have M := dmixed_any f W HFB.out HWB.out (w2.alloc (c64 W)) (hT1.below B3); with_reducible refine M.mono ?_; clear M; rintro e w3 ⟨rfl, hb3⟩; have R4 : w3.rowOf w1.heap.size = tab .u32 8 f := (by rw [below_row hb3 (by rw [R3, tab_size]; omega)]; exact R3); have s3 := hb3.size; have B4 := B3.trans (hb3.mono (by simp; omega)))
        | (refine wpl_store rtS rfl _ _ rfl w1.heap.size rfl (tab .u32 8 (mixF W f)) rfl ?_ (tab_size _ _ _) (tab_all _ _ _) _ rfl ?_; (focus (rw [R4, tab_size]))))
      go_roundw
      case rel =>
        refine ⟨k + 1, by omega, by go_num, Hid.mk (by rw [rowOf_setRow_same (by rw [R4, tab_size]; omega), HN.out]), ?_, below_setRow B4 (Nat.le_refl _) _⟩
        simp at s3; simp [go_sem]; omega
      case measure => simp [intOf]; omega
    · have hk' : k = m := by omega
      subst hk'
      have c1 : ¬ 64 * (k : Int) + 64 ≤ T.size := by omega
      rw [← hf] at R1
      have HE : Hid (dig f 8 = shaF t) := Hid.mk (by rw [hf, HTP.out, HSH.out])
      have HFB : Hid _ := hfb
      clear hf hfb
      go_wp2_with (first
        | (refine wpl_load rtS rfl _ rfl w1.heap.size rfl (tab .u32 8 f) ?_ (tab_size _ _ _) ?_; (focus (exact R1.out)))
        | (go_at_call 172; have M := dtext_any f HFB.out wr; with_reducible refine M.mono ?_; clear M; rintro e w2 ⟨rfl, hb2⟩; rw [HE.out]))
      go_ret
      exact ⟨rfl, below_lift hb1 hb1.size (hbel.trans (hb2.mono (by omega)))⟩
end Go.Proofs.YteghoooelgcpkaaGreatDoor
namespace Go.Msg
open Go.RowKit
theorem xor8_zero {v : Int} (h : 0 ≤ v ∧ v < 256) : bits .xor .u8 0 v = v := by
  obtain ⟨a, rfl⟩ : ∃ a : Nat, v = a := ⟨v.toNat, by omega⟩
  have := bits_xor_nat .u8 8 (by decide) wraps_u8 0 a (by decide) (by omega)
  rw [Nat.zero_xor] at this
  exact this
end Go.Msg
namespace Go.Proofs.YteghoooelgcpkaaGreatDoor
open Go.RowKit Go.Msg
@[go_sem] theorem zeroB64 : #[Value.int IntKind.u8 0, Value.int IntKind.u8 0, Value.int IntKind.u8 0, Value.int IntKind.u8 0, Value.int IntKind.u8 0, Value.int IntKind.u8 0, Value.int IntKind.u8 0, Value.int IntKind.u8 0, Value.int IntKind.u8 0, Value.int IntKind.u8 0, Value.int IntKind.u8 0, Value.int IntKind.u8 0, Value.int IntKind.u8 0, Value.int IntKind.u8 0, Value.int IntKind.u8 0, Value.int IntKind.u8 0, Value.int IntKind.u8 0, Value.int IntKind.u8 0, Value.int IntKind.u8 0, Value.int IntKind.u8 0, Value.int IntKind.u8 0, Value.int IntKind.u8 0, Value.int IntKind.u8 0, Value.int IntKind.u8 0, Value.int IntKind.u8 0, Value.int IntKind.u8 0, Value.int IntKind.u8 0, Value.int IntKind.u8 0, Value.int IntKind.u8 0, Value.int IntKind.u8 0, Value.int IntKind.u8 0, Value.int IntKind.u8 0, Value.int IntKind.u8 0, Value.int IntKind.u8 0, Value.int IntKind.u8 0, Value.int IntKind.u8 0, Value.int IntKind.u8 0, Value.int IntKind.u8 0, Value.int IntKind.u8 0, Value.int IntKind.u8 0, Value.int IntKind.u8 0, Value.int IntKind.u8 0, Value.int IntKind.u8 0, Value.int IntKind.u8 0, Value.int IntKind.u8 0, Value.int IntKind.u8 0, Value.int IntKind.u8 0, Value.int IntKind.u8 0, Value.int IntKind.u8 0, Value.int IntKind.u8 0, Value.int IntKind.u8 0, Value.int IntKind.u8 0, Value.int IntKind.u8 0, Value.int IntKind.u8 0, Value.int IntKind.u8 0, Value.int IntKind.u8 0, Value.int IntKind.u8 0, Value.int IntKind.u8 0, Value.int IntKind.u8 0, Value.int IntKind.u8 0, Value.int IntKind.u8 0, Value.int IntKind.u8 0, Value.int IntKind.u8 0, Value.int IntKind.u8 0] = tab .u8 64 (fun _ => 0) := by rw [tab_eq]; rfl
abbrev d64 (f : Nat → Int) : Obj := .cells (tab .u8 64 f) 171
set_option maxRecDepth 4000 in
set_option maxHeartbeats 2000000 in
theorem veiled_any (k : ByteArray) (hk : k.size ≤ 64) (v : Int) (hv : 0 ≤ v ∧ v < 256) (w : World) :
    Calls Tryz.prog 138 #[.string k, .int .u8 v] w fun e w' => e = .returned (.string (veil k v)) ∧ Below w.heap.size w w' := by
  have HV : Hid _ := hv
  clear hv
  go_enter Tryz.func138, Tryz.ntmps138
  go_wp2
  go_loopw [6] (fun i wr => ∃ j n : Nat, j ≤ 64 ∧ i = .int .i64 j ∧ wr = (w.alloc (d64 (fstn j (fun _ => v)))).dr n) (fun i _ => 64 - (intOf i).toNat)
  case atStart => exact ⟨0, _, by omega, rfl, by rw [fstn_zero]; exact (World.dr_self _).symm⟩
  case round =>
    obtain ⟨j, n, hj, rfl, rfl⟩ := hrel
    by_cases hlt : j < 64
    · have c1 : (j : Int) < 64 := by omega
      obtain ⟨f, hf⟩ : ∃ f, f = fstn j (fun _ => v) := ⟨_, rfl⟩
      have HF : Hid (upd f j v = fstn (j + 1) (fun _ => v)) := Hid.mk (by rw [hf]; exact fstn_succ j (fun _ => v))
      rw [← hf]
      clear hf
      go_wp2
      go_roundw
      case rel => exact ⟨j + 1, _, by omega, by go_num, by rw [← HF.out]⟩
      case measure => simp [intOf]; omega
    · have hj' : j = 64 := by omega
      subst hj'
      rw [show ((64 : Nat) : Int) = 64 from rfl]
      obtain ⟨G, hG⟩ : ∃ G : Nat → Int, G = fun i => bits .xor .u8 v (sb k i) := ⟨_, rfl⟩
      have e0 : d64 (fstn 64 (fun _ => v)) = d64 (thro 0 G (fun _ => v)) := by show Obj.cells _ _ = Obj.cells _ _; rw [thro_zero]; congr 1; exact tab_congr fun i hi => by simp [fstn, hi]
      have HGE : Hid (∀ i, i < 64 → thro k.size G (fun _ => v) i = bits .xor .u8 (sb k i) v) := Hid.mk (fun i _ => by
        unfold thro
        by_cases h : i < k.size
        · rw [if_pos h, hG]; exact xor8_comm _ _
        · rw [if_neg h, sb_past k i (by omega), xor8_zero HV.out])
      have HG : Hid (∀ i, bits .xor .u8 v (sb k i) = G i) := Hid.mk (fun i => by rw [hG])
      rw [e0]
      clear hG e0
      go_wp2
      go_loopw [7] (fun i wr => ∃ j n : Nat, j ≤ k.size ∧ i = .int .i64 j ∧ wr = (w.alloc (d64 (thro j G (fun _ => v)))).dr n) (fun i _ => k.size - (intOf i).toNat)
      case atStart => exact ⟨0, _, by omega, rfl, rfl⟩
      case round =>
        obtain ⟨j, n, hj, rfl, rfl⟩ := hrel
        by_cases hlt : j < k.size
        · have c0 : (j : Int) < 64 := by omega
          have c1 : (j : Int) < k.size := by omega
          have c2 : j < 64 := by omega
          obtain ⟨f, hf⟩ : ∃ f, f = thro j G (fun _ => v) := ⟨_, rfl⟩
          have fj : f j = v := by rw [hf, thro_at]
          have hx : bits .xor .u8 v (k[j].toNat : Int) = G j := by rw [← sb_at k j hlt]; exact HG.out j
          have HF : Hid (upd f j (G j) = thro (j + 1) G (fun _ => v)) := Hid.mk (by rw [hf, thro_step])
          rw [← hf]
          clear hf
          go_wp2
          go_region
          go_wp2
          go_roundw
          case rel => exact ⟨j + 1, _, by omega, by go_num, by rw [← HF.out]⟩
          case measure => simp [intOf]; omega
        · have hj' : j = k.size := by omega
          subst hj'
          have c1 : ¬ (k.size : Int) < k.size := by omega
          have HV2 : Hid (bstr 64 (fun i => thro k.size G (fun _ => v) (0 + i)) = veil k v) := Hid.mk (bstr_congr fun i hi => by rw [Nat.zero_add]; exact HGE.out i hi)
          by_cases h64 : k.size < 64
          · have c2 : (k.size : Int) < 64 := by omega
            go_wp2_with (refine wpl_convert rfl 112 9 5 _ rfl Tryz.underlying112 Tryz.underlying5 Tryz.underlying9 w.heap.size 0 64 64 rfl 64 (thro k.size G (fun _ => v)) ?_ (by decide) ?_; (focus (simp [go_sem]; done)); rw [HV2.out])
            go_ret
            exact ⟨rfl, below_dr (by_alloc w _) _⟩
          · have c2 : (k.size : Int) = 64 := by omega
            go_wp2_with (refine wpl_convert rfl 112 9 5 _ rfl Tryz.underlying112 Tryz.underlying5 Tryz.underlying9 w.heap.size 0 64 64 rfl 64 (thro k.size G (fun _ => v)) ?_ (by decide) ?_; (focus (simp [go_sem]; done)); rw [HV2.out])
            go_ret
            exact ⟨rfl, below_dr (by_alloc w _) _⟩
set_option maxHeartbeats 2000000 in
theorem dmac_any (k t : ByteArray) (hk : k.size ≤ 64) (ht : t.size ≤ 50000) (w : World) (hT : Tbl w) :
    Calls Tryz.prog 102 #[.string k, .string t] w fun e w' => e = .returned (.string (macF k t)) ∧ Below w.heap.size w w' := by
  have c0 : ¬ (k.size : Int) > 64 := by omega
  have z1 := veil_size k 54
  have z2 := veil_size k 92
  have z3 := shaF_size (veil k 54 ++ t)
  go_enter Tryz.func102, Tryz.ntmps102
  go_wp2_with (first
    | (go_at_call 138; have M := veiled_any k hk 54 (by decide) w; with_reducible refine M.mono ?_; clear M; rintro e w1 ⟨rfl, b1⟩; have y1 := b1.size; have T1 := hT.below b1)
    | (go_at_call 137; have M := dsum_any (veil k 54 ++ t) (by rw [ByteArray.size_append]; omega) w1 T1; with_reducible refine M.mono ?_; clear M; rintro e w2 ⟨rfl, b2⟩; have T2 := T1.below b2; have B2 := below_lift b1 y1 b2; have y2 := B2.size)
    | (go_at_call 138; have M := veiled_any k hk 92 (by decide) w2; with_reducible refine M.mono ?_; clear M; rintro e w3 ⟨rfl, b3⟩; have T3 := T2.below b3; have B3 := below_lift B2 y2 b3; have y3 := B3.size)
    | (go_at_call 137; have M := dsum_any (veil k 92 ++ shaF (veil k 54 ++ t)) (by rw [ByteArray.size_append]; omega) w3 T3; with_reducible refine M.mono ?_; clear M; rintro e w4 ⟨rfl, b4⟩))
  go_ret
  exact ⟨rfl, below_lift B3 y3 b4⟩
theorem be_one (x : Int) (h : 0 ≤ x ∧ x < 256) : be 1 x = b1 x := by
  simp only [be, ba_empty, Int.pow_zero, Int.ediv_one]
  rw [Int.emod_eq_of_lt h.1 h.2]
set_option maxHeartbeats 2000000 in
theorem derive_any (k t u : ByteArray) (n : Nat) (hk : k.size ≤ 64) (ht : t.size ≤ 1000) (hu : u.size ≤ 100) (hn : n ≤ 1000) (w : World) (hT : Tbl w) :
    Calls Tryz.prog 139 #[.string k, .string t, .string u, .int .i64 (n : Int)] w fun e w' => e = .returned (.string (hkdfF k t u n)) ∧ Below w.heap.size w w' := by
  go_enter Tryz.func139, Tryz.ntmps139
  go_wp2_with (go_at_call 102; refine (dmac_any k t hk (by omega) _ hT).mono ?_; rintro e w1 ⟨rfl, b1⟩)
  obtain ⟨s1, hs1⟩ : ∃ s, s = macF k t := ⟨_, rfl⟩
  have z1 : s1.size = 32 := by rw [hs1]; exact macF_size _ _
  have HS1 : Hid (s1 = macF k t) := hs1
  rw [← hs1]
  clear hs1
  have hT1 := hT.below b1
  go_loopw [10, 11, 12] (fun o l i wr => ∃ (a b : ByteArray) (j : Nat), o = .string a ∧ l = .string b ∧ i = .int .u32 ((j : Int) + 1) ∧ a.size = 32 * j ∧ b.size ≤ 32 ∧ a.size < n + 32 ∧ Hid (a = hkA s1 u j) ∧ Hid (b = hkT s1 u j) ∧ Tbl wr ∧ Below w.heap.size w wr) (fun o _ _ _ => n + 32 - slen o)
  case atStart => exact ⟨_, _, 0, rfl, rfl, rfl, rfl, by decide, by show 0 < n + 32; omega, Hid.mk rfl, Hid.mk rfl, hT1, b1⟩
  case round =>
    clear b1 hT1
    obtain ⟨a, b, j, rfl, rfl, rfl, ha, hb, han, HAV, HBV, hT1, hbel⟩ := hrel
    have hbs := hbel.size
    by_cases hlt : a.size < n
    · have c1 : (a.size : Int) < n := by omega
      have HA : Hid _ := ha
      have c2 : a.size ≤ 1000 := by omega
      have cj : (j : Int) ≤ 32 := by omega
      have HJ : Hid (be 1 ((j : Int) + 1) = b1 ((j : Int) + 1)) := Hid.mk (be_one _ (by omega))
      have zb : (be 1 ((j : Int) + 1)).size = 1 := be_size _ _
      clear ha
      go_wp2_with (first
        | (go_at_call 100; have M := otext1 ((j : Int) + 1) ⟨by omega, by omega⟩ wr; with_reducible refine M.mono ?_; clear M; rintro e w2 ⟨rfl, hb2⟩; have hT2 := hT1.below hb2; have B2 := below_lift hbel hbs hb2; have y2 := B2.size)
        | (go_at_call 102; refine (dmac_any s1 (b ++ u ++ be 1 ((j : Int) + 1)) ?_ ?_ _ hT2).mono ?_; (focus (omega)); (focus (simp [ByteArray.size_append]; omega)); rintro e w3 ⟨rfl, hb3⟩; obtain ⟨s2, hs2⟩ : ∃ s, s = macF s1 (b ++ u ++ be 1 ((j : Int) + 1)) := ⟨_, rfl⟩; have z2 : s2.size = 32 := (by rw [hs2]; exact macF_size _ _); rw [← hs2]; have HS2 : Hid _ := hs2; clear hs2; have x2 : s2.size ≤ 32 := (by omega)))
      go_roundw
      case rel => exact ⟨_, _, j + 1, rfl, rfl, by go_num, by rw [ByteArray.size_append, z2, HA.out]; omega, x2, by rw [ByteArray.size_append, z2]; omega, Hid.mk (by rw [hkA, ← HAV.out, hkT, ← HBV.out, HS2.out, HJ.out]), Hid.mk (by rw [hkT, ← HBV.out, HS2.out, HJ.out]), hT2.below hb3, below_lift B2 y2 hb3⟩
      case measure => simp [slen, ByteArray.size_append]; omega
    · have c1 : ¬ (a.size : Int) < n := by omega
      have c2 : (n : Int) ≤ a.size := by omega
      have c3 : a.size ≤ 2000 := by omega
      have hj : j = (n + 31) / 32 := by omega
      have HE : Hid (a.extract 0 n = hkdfF k t u n) := Hid.mk (by rw [hkdfF, HAV.out, ← HS1.out, ← hj])
      clear hj
      go_wp2
      go_ret
      exact ⟨congrArg (fun z => Ending.returned (Value.string z)) HE.out, hbel⟩
end Go.Proofs.YteghoooelgcpkaaGreatDoor
namespace Go.Msg
open Go.RowKit Go.Proofs.YteghoooelgcpkaaGreatDoor
def half (v : Nat → Int) (x y z n : Nat) : Nat → Int := upd (upd v x ((v x + v y) % 4294967296)) z (rr (xr (upd v x ((v x + v y) % 4294967296) z) (upd v x ((v x + v y) % 4294967296) x)) n)
theorem half_bd {v : Nat → Int} (h : ∀ i, B32 (v i)) (x y z n : Nat) (hn : n ≤ 32) : ∀ i, B32 (half v x y z n i) :=
  upd_bd (upd_bd h x (mod32 _)) z (rr_bd (xr_bd _ _) n hn)
def qst (v : Nat → Int) (a b c d : Nat) : Nat → Nat → Int
  | 0 => v
  | 1 => half v a b d 16
  | 2 => half (half v a b d 16) c d b 20
  | 3 => half (half (half v a b d 16) c d b 20) a b d 24
  | _ => half (half (half (half v a b d 16) c d b 20) a b d 24) c d b 25
def qr (v : Nat → Int) (a b c d : Nat) : Nat → Int := qst v a b c d 4
theorem qst_bd {v : Nat → Int} (h : ∀ i, B32 (v i)) (a b c d k : Nat) : ∀ i, B32 (qst v a b c d k i) := by
  have h1 := half_bd h a b d 16 (by decide)
  have h2 := half_bd h1 c d b 20 (by decide)
  have h3 := half_bd h2 a b d 24 (by decide)
  have h4 := half_bd h3 c d b 25 (by decide)
  match k with
  | 0 => exact h
  | 1 => exact h1
  | 2 => exact h2
  | 3 => exact h3
  | k + 4 => exact h4
def rdq (v : Nat → Int) (o : Nat) : Nat → Nat → Int
  | 0 => v
  | k + 1 => qr (rdq v o k) k (4 + (k + o) % 4) (8 + (k + 2 * o) % 4) (12 + (k + 3 * o) % 4)
theorem rdq_bd {v : Nat → Int} (h : ∀ i, B32 (v i)) (o k : Nat) : ∀ i, B32 (rdq v o k i) := by
  induction k with
  | zero => exact h
  | succ k ih => exact qst_bd ih _ _ _ _ 4
def rds (v : Nat → Int) : Nat → Nat → Int
  | 0 => v
  | r + 1 => rdq (rds v r) (r % 2) 4
theorem rds_bd {v : Nat → Int} (h : ∀ i, B32 (v i)) (r : Nat) : ∀ i, B32 (rds v r i) := by
  induction r with
  | zero => exact h
  | succ r ih => exact rdq_bd ih _ 4
def lword (b : Nat → Int) (i : Nat) : Int := b (4 * i) + 256 * b (4 * i + 1) + 65536 * b (4 * i + 2) + 16777216 * b (4 * i + 3)
theorem lword_bd {b : Nat → Int} (h : B8 b) (i : Nat) : B32 (lword b i) := by
  have h0 := h (4 * i); have h1 := h (4 * i + 1); have h2 := h (4 * i + 2); have h3 := h (4 * i + 3)
  unfold lword B32; omega
def sOpen : ByteArray := ⟨#[101, 120, 112, 97, 110, 100, 32, 51, 50, 45, 98, 121, 116, 101, 32, 107]⟩
def words0 (key nonce : ByteArray) : ByteArray := sOpen ++ key ++ bstr 4 (fun _ => 0) ++ nonce
def swords (key nonce : ByteArray) (n : Nat) : Nat → Int := fstn 16 (upd (lword (fun i => sb (words0 key nonce) i)) 12 (n : Int))
theorem swords_bd (key nonce : ByteArray) (n : Nat) (hn : n < 4294967296) (i : Nat) : B32 (swords key nonce n i) := by
  unfold swords fstn
  split
  · exact upd_bd (lword_bd (sb_B8 _)) 12 ⟨by omega, by omega⟩ i
  · exact ⟨by decide, by decide⟩
def swt (key nonce : ByteArray) (n i : Nat) : Int := (rds (swords key nonce n) 20 i + swords key nonce n i) % 4294967296
def le4 (x : Int) : ByteArray := b4 (x % 256) (x / 256 % 256) (x / 65536 % 256) (x / 16777216 % 256)
theorem le4_size (x : Int) : (le4 x).size = 4 := b4_size _ _ _ _
def ldig (f : Nat → Int) : Nat → ByteArray
  | 0 => ⟨#[]⟩
  | k + 1 => ldig f k ++ le4 (f k)
theorem ldig_size (f : Nat → Int) (k : Nat) : (ldig f k).size = 4 * k := by
  induction k with
  | zero => rfl
  | succ k ih => rw [ldig, ByteArray.size_append, ih, le4_size]; omega
def sblk (key nonce : ByteArray) (n : Nat) : ByteArray := ldig (swt key nonce n) 16
theorem sblk_size (key nonce : ByteArray) (n : Nat) : (sblk key nonce n).size = 64 := ldig_size _ _
theorem sb_le4 (x : Int) (j : Nat) (hj : j < 4) : sb (le4 x) j = x / 256 ^ j % 256 := by
  unfold le4 b4
  rw [sb_bstr _ _ _ hj (by match j, hj with
    | 0, _ => simp; omega
    | 1, _ => simp; omega
    | 2, _ => simp; omega
    | 3, _ => simp; omega)]
  match j, hj with
  | 0, _ => simp
  | 1, _ => simp
  | 2, _ => simp
  | 3, _ => simp
theorem sb_ldig (f : Nat → Int) (k i : Nat) (hi : i < 4 * k) : sb (ldig f k) i = f (i / 4) / 256 ^ (i % 4) % 256 := by
  induction k with
  | zero => omega
  | succ k ih =>
    rw [ldig, sb_append, ldig_size]
    by_cases h : i < 4 * k
    · rw [if_pos h, ih h]
    · rw [if_neg h, sb_le4 _ _ (by omega), show i / 4 = k by omega, show i % 4 = i - 4 * k by omega]
def streamF (key nonce t : ByteArray) : ByteArray := bstr t.size (fun i => bits .xor .u8 (sb t i) (sb (sblk key nonce (i / 64)) (i % 64)))
theorem streamF_size (key nonce t : ByteArray) : (streamF key nonce t).size = t.size := bstr_size _ _
end Go.Msg
namespace Go.Msg
def tn (k : Nat) : Nat := [16, 20, 24, 25].getD k 0
def tq (k : Nat) : Int := [16, 12, 8, 7].getD k 0
theorem tn_tq (k : Nat) (h : k < 4) : 32 - tq k = (tn k : Int) ∧ 1 ≤ tn k ∧ tn k ≤ 31 := by
  match k, h with
  | 0, _ => decide
  | 1, _ => decide
  | 2, _ => decide
  | 3, _ => decide
theorem qst_even (v : Nat → Int) (a b c d k : Nat) (h : k < 4) (hp : k % 2 = 0) : qst v a b c d (k + 1) = half (qst v a b c d k) a b d (tn k) := by
  have : k = 0 ∨ k = 2 := by omega
  rcases this with rfl | rfl <;> rfl
theorem qst_odd (v : Nat → Int) (a b c d k : Nat) (h : k < 4) (hp : k % 2 = 1) : qst v a b c d (k + 1) = half (qst v a b c d k) c d b (tn k) := by
  have : k = 1 ∨ k = 3 := by omega
  rcases this with rfl | rfl <;> rfl
end Go.Msg
namespace Go.Proofs.YteghoooelgcpkaaGreatDoor
open Go.RowKit Go.Msg
theorem arr_4 (a b c d : Int) : #[Value.int IntKind.i64 a, .int .i64 b, .int .i64 c, .int .i64 d] = tab .i64 4 (fun i => [a, b, c, d].getD i 0) := by rw [tab_eq]; rfl
set_option maxHeartbeats 1000000 in
theorem little_any (t : ByteArray) (ht : t.size = 4) (w : World) :
    Calls Tryz.prog 154 #[.string t] w fun e w' => e = .returned (.int .i64 (lword (sb t) 0)) ∧ ∃ q, w' = w.drewN q := by
  have c0 : 0 < t.size := by omega
  have c1 : 1 < t.size := by omega
  have c2 : 2 < t.size := by omega
  have c3 : 3 < t.size := by omega
  have d0 : (0 : Int) < t.size := by omega
  have d1 : (1 : Int) < t.size := by omega
  have d2 : (2 : Int) < t.size := by omega
  have d3 : (3 : Int) < t.size := by omega
  have e0 := (sb_at t 0 c0).symm
  have e1 := (sb_at t 1 c1).symm
  have e2 := (sb_at t 2 c2).symm
  have e3 := (sb_at t 3 c3).symm
  have b0 := sb_bd t 0
  have b1 := sb_bd t 1
  have b2 := sb_bd t 2
  have b3 := sb_bd t 3
  have HL : Hid (lword (sb t) 0 = sb t 0 + 256 * sb t 1 + 65536 * sb t 2 + 16777216 * sb t 3) := Hid.mk rfl
  rw [HL.out]
  generalize sb t 0 = x0 at *
  generalize sb t 1 = x1 at *
  generalize sb t 2 = x2 at *
  generalize sb t 3 = x3 at *
  have f1 : IntKind.i64.wrap (256 * x1) = 256 * x1 := by rw [IntKind.wrap_i64]; omega
  have f2 : IntKind.i64.wrap (65536 * x2) = 65536 * x2 := by rw [IntKind.wrap_i64]; omega
  have f3 : IntKind.i64.wrap (16777216 * x3) = 16777216 * x3 := by rw [IntKind.wrap_i64]; omega
  have f4 : IntKind.i64.wrap (x0 + 256 * x1) = x0 + 256 * x1 := by rw [IntKind.wrap_i64]; omega
  have f5 : IntKind.i64.wrap (x0 + 256 * x1 + 65536 * x2) = x0 + 256 * x1 + 65536 * x2 := by rw [IntKind.wrap_i64]; omega
  have f6 : IntKind.i64.wrap (x0 + 256 * x1 + 65536 * x2 + 16777216 * x3) = x0 + 256 * x1 + 65536 * x2 + 16777216 * x3 := by rw [IntKind.wrap_i64]; omega
  clear HL
  go_enter Tryz.func154, Tryz.ntmps154
  go_wp2_with fail
  go_quiet (fail)
  go_wp2
  go_ret
  exact ⟨rfl, _, rfl⟩
theorem mx_set {w W : World} {g g2 n : Nat} {F T : Nat → Int} {x : Nat} {z : Int} (h1 : ∀ j, j < 16 → W.cell? ⟨g, j, none⟩ = some (.int .i64 (F j))) (h2 : ∀ j, W.frozen? ⟨g, j, none⟩ = false)
    (h3 : ∀ j, j < n → W.cell? ⟨g2, j, none⟩ = some (.int .i64 (T j))) (hB : Below w.heap.size w W) (hx : x < 16) (hg : w.heap.size ≤ g) (hne : g ≠ g2) :
    (∀ j, j < 16 → (W.setCell ⟨g, x, none⟩ (.int .i64 z)).drew.cell? ⟨g, j, none⟩ = some (.int .i64 (upd F x z j))) ∧ (∀ j, (W.setCell ⟨g, x, none⟩ (.int .i64 z)).drew.frozen? ⟨g, j, none⟩ = false) ∧
    (∀ j, j < n → (W.setCell ⟨g, x, none⟩ (.int .i64 z)).drew.cell? ⟨g2, j, none⟩ = some (.int .i64 (T j))) ∧ Below w.heap.size w (W.setCell ⟨g, x, none⟩ (.int .i64 z)).drew := by
  refine ⟨fun j hj => ?_, fun j => ?_, fun j hj => ?_, ?_⟩
  · show (W.setCell ⟨g, x, none⟩ (.int .i64 z)).cell? ⟨g, j, none⟩ = _
    by_cases e : j = x
    · rw [e, World.cell?_setCell_same _ _ _ (h1 x hx)]; simp only [upd, if_true]
    · rw [World.cell?_setCell_other _ _ _ _ (fun h => e (by have := congrArg Addr.off h; simpa using this.symm)), h1 j hj]; simp only [upd, e, if_false]
  · show (W.setCell ⟨g, x, none⟩ (.int .i64 z)).frozen? ⟨g, j, none⟩ = _
    simp [h2 j]
  · show (W.setCell ⟨g, x, none⟩ (.int .i64 z)).cell? ⟨g2, j, none⟩ = _
    rw [World.cell?_setCell_other _ _ _ _ (fun h => hne (by have := congrArg Addr.block h; simpa using this)), h3 j hj]
  · exact (hB.setCell hg _).drew
theorem by_undrew {B : Nat} {w W : World} (h : Below B w W.drew) : Below B w W := ⟨h.os, h.tape, h.output, h.size, h.block⟩
set_option maxHeartbeats 4000000 in
theorem mixed_f (l : Value) (f : Nat → Int) (hf : ∀ i, B32 (f i)) (a b c d : Nat) (ha : a < 16) (hb : b < 16) (hc : c < 16) (hd : d < 16) (w : World) (hl : NumAt w l 16 f) :
    Calls Tryz.prog 155 #[l, .int .i64 (a : Int), .int .i64 (b : Int), .int .i64 (c : Int), .int .i64 (d : Int)] w fun e w' => ∃ v, e = .returned v ∧ NumAt w' v 16 (qr f a b c d) ∧ Below w.heap.size w w' := by
  obtain ⟨ao, cap0, g0, rfl, hc0, ha0, hx0⟩ := hl
  obtain rfl := ha0 (by omega)
  go_enter Tryz.func155, Tryz.ntmps155
  go_wp2_with (refine wpl_appendN intS rfl _ _ rfl w.heap.size _ 0 (fun _ => 0) rfl ?_ g0 16 cap0 f rfl ?_ (by omega) ?_ ?_; (focus (exact World.ownsRow_nil _ _ _ _)); (focus (exact hx0)); (focus (exact Nat.le_refl _)); intro v' w1 hown hbel hsz)
  obtain ⟨g, cap, rfl⟩ := own_some hown (by omega)
  have hgb : w.heap.size ≤ g := (hown.lt g rfl).1
  obtain ⟨ao, cap', g', hv, hcap, hao, hcell⟩ := NumAt.of_owns hown
  obtain rfl := hao (by omega)
  obtain ⟨rfl, rfl⟩ : g = g' ∧ cap = cap' := by simp at hv; exact hv
  have hcl : ∀ i, i < 16 → w1.cell? ⟨g, i, none⟩ = some (.int .i64 (f i)) := fun i hi => hcell i (by omega)
  have hg1 : g < w1.heap.size := World.block_lt_of_cell? w1 _ (hcl 0 (by omega))
  have hfz : ∀ j, w1.frozen? ⟨g, j, none⟩ = false := fun j => hown.frozenAt j
  have hB1 := hbel w (Below.refl _ _)
  rw [arr_4, show 0 + 16 = 16 from rfl]
  have A1 : Hid (∀ j, j < 16 → (w1.alloc (.cells (tab .i64 4 tq) 3)).cell? ⟨g, j, none⟩ = some (.int .i64 (f j))) := Hid.mk (fun j hj => by rw [(by_alloc w1 _).cell (show g < _ from hg1)]; exact hcl j hj)
  have A2 : Hid (∀ j, (w1.alloc (.cells (tab .i64 4 tq) 3)).frozen? ⟨g, j, none⟩ = false) := Hid.mk (fun j => by rw [(by_alloc w1 _).frozen (show g < _ from hg1)]; exact hfz j)
  have A3 : Hid (∀ j, j < 4 → (w1.alloc (.cells (tab .i64 4 tq) 3)).cell? ⟨w1.heap.size, j, none⟩ = some (.int .i64 (tq j))) := Hid.mk (fun j hj => by simp [go_sem, hj])
  have A4 : Below w.heap.size w (w1.alloc (.cells (tab .i64 4 tq) 3)) := hB1.alloc hsz _
  have HFB0 : Hid _ := hf
  clear hcl hfz hB1 hown hbel hcell hv hx0 ha0 hf
  have hne : Hid (g ≠ w1.heap.size) := Hid.mk (by omega)
  go_loopw [13, 14, 15, 16] (fun i _ _ _ wq => ∃ (k : Nat) (F : Nat → Int), Hid (F = qst f a b c d k) ∧ k ≤ 4 ∧ i = .int .i64 k ∧ Hid (∀ j, j < 16 → wq.cell? ⟨g, j, none⟩ = some (.int .i64 (F j))) ∧ Hid (∀ j, wq.frozen? ⟨g, j, none⟩ = false) ∧ Hid (∀ j, j < 4 → wq.cell? ⟨w1.heap.size, j, none⟩ = some (.int .i64 (tq j))) ∧ Below w.heap.size w wq) (fun i _ _ _ _ => 4 - (intOf i).toNat)
  case atStart => exact ⟨0, f, Hid.mk rfl, by omega, rfl, A1, A2, A3, A4⟩
  case round =>
    clear A1 A2 A3 A4
    obtain ⟨k, F, HF, hk, rfl, H1, H2, H3, hB⟩ := hrel
    by_cases hlt : k < 4
    · have c1 : (k : Int) < 4 := by omega
      have yt := H3.out k hlt
      have HFB : Hid (∀ i, B32 (F i)) := Hid.mk (fun i => by rw [HF.out]; exact qst_bd HFB0.out a b c d k i)
      obtain ⟨htq, htn1, htn2⟩ := tn_tq k hlt
      by_cases hpar : k % 2 = 1
      · have c2 : ((k : Int) % 2 == 1) = true := by simp; omega
        obtain ⟨xl, xh⟩ := HFB.out c
        obtain ⟨yl, yh⟩ := HFB.out d
        have yx := H1.out c hc
        have yy := H1.out d hd
        have fx := H2.out c
        have cx : (c : Int) < 16 := by omega
        have cy : (d : Int) < 16 := by omega
        have cz : (b : Int) < 16 := by omega
        go_wp2
        go_region
        obtain ⟨F1, hF1⟩ : ∃ F1, F1 = upd F c ((F c + F d) % 4294967296) := ⟨_, rfl⟩
        obtain ⟨W1, hW1⟩ : ∃ W, W = (wr.setCell ⟨g, c, none⟩ (.int .i64 ((F c + F d) % 4294967296))).drew := ⟨_, rfl⟩
        rw [← hW1]
        obtain ⟨J1, J2, J3, JB⟩ := mx_set (x := c) (z := (F c + F d) % 4294967296) H1.out H2.out H3.out hB hc hgb hne.out
        rw [← hW1, ← hF1] at J1
        rw [← hW1] at J2 J3 JB
        have HB1 : Hid (∀ i, B32 (F1 i)) := Hid.mk (by rw [hF1]; exact upd_bd HFB.out _ (mod32 _))
        obtain ⟨X, hX⟩ : ∃ X, X = xr (F1 b) (F1 c) := ⟨_, rfl⟩
        have HX : Hid (B32 X) := Hid.mk (by rw [hX]; exact xr_bd _ _)
        have ex : bits .xor .i64 (F1 b) (F1 c) = X := by rw [hX]; exact xor64 (HB1.out _) (HB1.out _)
        have HN : Hid (upd F1 b (rr X (tn k)) = qst f a b c d (k + 1)) := Hid.mk (by rw [hX, hF1, qst_odd f a b c d k hlt (by omega), ← HF.out]; rfl)
        have yz := J1 b hb
        have yx2 := J1 c hc
        have fz := J2 b
        have yt := J3 k hlt
        have K1 : Hid _ := J1
        have K2 : Hid _ := J2
        have K3 : Hid _ := J3
        have hw : IntKind.i64.wrap (32 - tq k) = (tn k : Int) := by rw [htq, IntKind.wrap_i64]; omega
        clear hF1 hW1 hX yx yy fx J1 J2 J3 H1 H2 H3 hB
        go_wp2_with fail
        refine wp_region_quiet_tail 18 (fun w' => ∃ m, w' = W1.dr m) mixed_any (by kernel_rfl) ⟨W1.drawn + 1, rfl⟩ ?_
        simp only [List.take_succ_cons, List.take_zero, List.drop_succ_cons, List.drop_zero]
        iterate 16 (go_big_quiet_step (fail))
        go_big_quiet_step ((go_at_call 160; exact (round_any X _ HX.out (by omega) (by omega) _).mono fun _ _ ⟨q, h1, h2⟩ => ⟨h1, _, h2⟩))
        go_big_quiet_step (fail)
        refine wpQuiet_nil ?_
        rintro w' ⟨q, rfl⟩
        go_wp2
        go_roundw
        case rel =>
          obtain ⟨L1, L2, L3, LB⟩ := mx_set (x := b) (z := rr X (tn k)) K1.out K2.out K3.out JB hb hgb hne.out
          rw [HN.out] at L1
          exact ⟨k + 1, _, Hid.mk rfl, by omega, by go_num, L1, L2, L3, below_dr (by_undrew LB) _⟩
        case measure => simp [intOf]; omega
      · have c2 : ((k : Int) % 2 == 1) = false := by simp; omega
        obtain ⟨xl, xh⟩ := HFB.out a
        obtain ⟨yl, yh⟩ := HFB.out b
        have yx := H1.out a ha
        have yy := H1.out b hb
        have fx := H2.out a
        have cx : (a : Int) < 16 := by omega
        have cy : (b : Int) < 16 := by omega
        have cz : (d : Int) < 16 := by omega
        go_wp2
        go_region
        obtain ⟨F1, hF1⟩ : ∃ F1, F1 = upd F a ((F a + F b) % 4294967296) := ⟨_, rfl⟩
        obtain ⟨W1, hW1⟩ : ∃ W, W = (wr.setCell ⟨g, a, none⟩ (.int .i64 ((F a + F b) % 4294967296))).drew := ⟨_, rfl⟩
        rw [← hW1]
        obtain ⟨J1, J2, J3, JB⟩ := mx_set (x := a) (z := (F a + F b) % 4294967296) H1.out H2.out H3.out hB ha hgb hne.out
        rw [← hW1, ← hF1] at J1
        rw [← hW1] at J2 J3 JB
        have HB1 : Hid (∀ i, B32 (F1 i)) := Hid.mk (by rw [hF1]; exact upd_bd HFB.out _ (mod32 _))
        obtain ⟨X, hX⟩ : ∃ X, X = xr (F1 d) (F1 a) := ⟨_, rfl⟩
        have HX : Hid (B32 X) := Hid.mk (by rw [hX]; exact xr_bd _ _)
        have ex : bits .xor .i64 (F1 d) (F1 a) = X := by rw [hX]; exact xor64 (HB1.out _) (HB1.out _)
        have HN : Hid (upd F1 d (rr X (tn k)) = qst f a b c d (k + 1)) := Hid.mk (by rw [hX, hF1, qst_even f a b c d k hlt (by omega), ← HF.out]; rfl)
        have yz := J1 d hd
        have yx2 := J1 a ha
        have fz := J2 d
        have yt := J3 k hlt
        have K1 : Hid _ := J1
        have K2 : Hid _ := J2
        have K3 : Hid _ := J3
        have hw : IntKind.i64.wrap (32 - tq k) = (tn k : Int) := by rw [htq, IntKind.wrap_i64]; omega
        clear hF1 hW1 hX yx yy fx J1 J2 J3 H1 H2 H3 hB
        go_wp2_with fail
        refine wp_region_quiet_tail 18 (fun w' => ∃ m, w' = W1.dr m) mixed_any (by kernel_rfl) ⟨W1.drawn + 1, rfl⟩ ?_
        simp only [List.take_succ_cons, List.take_zero, List.drop_succ_cons, List.drop_zero]
        iterate 16 (go_big_quiet_step (fail))
        go_big_quiet_step ((go_at_call 160; exact (round_any X _ HX.out (by omega) (by omega) _).mono fun _ _ ⟨q, h1, h2⟩ => ⟨h1, _, h2⟩))
        go_big_quiet_step (fail)
        refine wpQuiet_nil ?_
        rintro w' ⟨q, rfl⟩
        go_wp2
        go_roundw
        case rel =>
          obtain ⟨L1, L2, L3, LB⟩ := mx_set (x := d) (z := rr X (tn k)) K1.out K2.out K3.out JB hd hgb hne.out
          rw [HN.out] at L1
          exact ⟨k + 1, _, Hid.mk rfl, by omega, by go_num, L1, L2, L3, below_dr (by_undrew LB) _⟩
        case measure => simp [intOf]; omega
    · have hk' : k = 4 := by omega
      subst hk'
      go_wp2
      go_ret
      exact ⟨_, rfl, ⟨_, cap, g, rfl, hcap, fun _ => rfl, fun i hi => by rw [H1.out i hi, HF.out]; rfl⟩, hB⟩
end Go.Proofs.YteghoooelgcpkaaGreatDoor
