import Derived.Test.YteghoooelgcpkaaGreatDoorM00
namespace Go.Proofs.YteghoooelgcpkaaGreatDoor
open Go.RowKit Go.Msg

set_option maxHeartbeats 400000 in
theorem wrapped_any (x : Nat → Int) (h19 : 0 ≤ x 19) (h19' : x 19 < 4294967296) (h0 : 0 ≤ x 0) (h0' : x 0 + 19 * (x 19 / 256) < 4294967296) (w : World) :
    Calls Tryz.prog 190 #[.agg (tab .u32 20 x)] w fun e w' => e = .returned (.agg (tab .u32 20 (wrap1 x))) ∧ Below w.heap.size w w' := by
  go_enter Tryz.func190, Tryz.ntmps190
  have hw1 : upd (upd x 19 (bits .and .u32 (x 19) 255)) 0 (x 0 + 19 * (x 19 / 256)) = wrap1 x := by rw [bits_and_255 _ h19 h19']; rfl
  go_wp2_with (first | (refine wpl_load rt117 rfl _ rfl _ rfl (tab .u32 20 (wrap1 x)) ?_ (tab_size _ _ _) ?_; (focus (first | (simp [go_sem]; done) | (simp (disch := first | (simp [go_sem]; done) | (simp [go_sem]; omega)) [go_sem]; done)))) | (refine wpl_store rt117 rfl _ _ rfl _ rfl (tab .u32 20 (wrap1 x)) rfl ?_ (tab_size _ _ _) (tab_all _ _ _) ((w.alloc (.cells (tab .u32 20 (wrap1 x)) 189)).alloc (.cells (tab .u32 20 (wrap1 x)) 189)) ?_ ?_; (focus (first | (simp [go_sem]; done) | (simp (disch := first | (simp [go_sem]; done) | (simp [go_sem]; omega)) [go_sem]; done))); (focus (first | (simp [go_sem]; done) | (simp (disch := first | (simp [go_sem]; done) | (simp [go_sem]; omega)) [go_sem]; done)))))
  exact bodyPost_ret (v := .agg (tab .u32 20 (wrap1 x))) (by rw [results_row rt117 Tryz.results190 _ _ (w.heap.size + 1) rfl (by first | (simp [go_sem]; done) | (simp (disch := first | (simp [go_sem]; done) | (simp [go_sem]; omega)) [go_sem]; done))]; first | (simp [go_sem]; done) | (simp (disch := first | (simp [go_sem]; done) | (simp [go_sem]; omega)) [go_sem]; done)) rfl ⟨rfl, ((Below.refl _ _).alloc (Nat.le_refl _) _).alloc (by simp) _⟩

set_option maxHeartbeats 800000 in
theorem tidy_any (f : Nat → Int) (hf : ∀ i, i < 20 → 0 ≤ f i ∧ f i ≤ 4294443008) (w : World) :
    Calls Tryz.prog 188 #[.agg (tab .u32 20 f)] w fun e w' => ∃ x, e = .returned (.agg (tab .u32 20 x)) ∧ Tidy x ∧ lval 20 x % P25519 = lval 20 f % P25519 ∧ Below w.heap.size w w' := by
  go_enter Tryz.func188, Tryz.ntmps188
  go_wp2
  go_loopw [3] (fun i wr => ∃ (k n : Nat) (x : Nat → Int) (bs : List Obj), k ≤ 2 ∧ i = .int .i64 k ∧ TidyAt f k x ∧ wr = (((w.alloc (.cells (tab .u32 20 x) 189)).alloc (.cells (tab .u32 20 (fun _ => 0)) 189)).exts bs).dr n) (fun i _ => 2 - (intOf i).toNat)
  case atStart => exact ⟨0, _, f, [], by omega, rfl, TidyAt.start hf, by rw [World.exts_nil, World.dr_self]⟩
  case round =>
    obtain ⟨k, n, x, bs, hk, rfl, hc, rfl⟩ := hrel
    by_cases hlt : k < 2
    · go_wp2_with (first | (refine wpl_load rt117 rfl _ rfl _ rfl (tab .u32 20 x) ?_ (tab_size _ _ _) ?_; (focus (first | (simp [go_sem]; done) | (simp (disch := first | (simp [go_sem]; done) | (simp [go_sem]; omega)) [go_sem]; done)))) | (go_at_call 189; refine (carried_any x hc.bound _).mono ?_; rintro e w' ⟨x1, rfl, hc1, hb1⟩; obtain ⟨bs1, n1, rfl⟩ := below_form2 hb1; obtain ⟨hs1, hs2, hs3⟩ := hc.step hlt hc1) | (refine wpl_store rt117 rfl _ _ rfl _ rfl (tab .u32 20 x1) rfl ?_ (tab_size _ _ _) (tab_all _ _ _) ((((w.alloc (.cells (tab .u32 20 x1) 189)).alloc (.cells (tab .u32 20 (fun _ => 0)) 189)).exts bs1).dr n1) ?_ ?_; (focus (first | (simp [go_sem]; done) | (simp (disch := first | (simp [go_sem]; done) | (simp [go_sem]; omega)) [go_sem]; done))); (focus (first | (simp [go_sem]; done) | (simp (disch := first | (simp [go_sem]; done) | (simp [go_sem]; omega)) [go_sem]; done)))) | (refine wpl_load rt117 rfl _ rfl _ rfl (tab .u32 20 x1) ?_ (tab_size _ _ _) ?_; (focus (first | (simp [go_sem]; done) | (simp (disch := first | (simp [go_sem]; done) | (simp [go_sem]; omega)) [go_sem]; done)))) | (go_at_call 190; refine (wrapped_any x1 hc1.at_.1 hs2 (hc1.low 0 (by omega)).1 hs3 _).mono ?_; rintro e w' ⟨rfl, hb2⟩; obtain ⟨bs2, n2, rfl⟩ := below_form2 hb2) | (refine wpl_store rt117 rfl _ _ rfl _ rfl (tab .u32 20 (wrap1 x1)) rfl ?_ (tab_size _ _ _) (tab_all _ _ _) ((((w.alloc (.cells (tab .u32 20 (wrap1 x1)) 189)).alloc (.cells (tab .u32 20 (fun _ => 0)) 189)).exts bs2).dr n2) ?_ ?_; (focus (first | (simp [go_sem]; done) | (simp (disch := first | (simp [go_sem]; done) | (simp [go_sem]; omega)) [go_sem]; done))); (focus (first | (simp [go_sem]; done) | (simp (disch := first | (simp [go_sem]; done) | (simp [go_sem]; omega)) [go_sem]; done)))))
      go_roundw
      case rel => exact ⟨k + 1, _, _, _, by omega, by go_num, hs1, rfl⟩
      case measure => simp [intOf]; omega
    · have hk' : k = 2 := by omega
      subst hk'
      go_wp2_with (first | (refine wpl_load rt117 rfl _ rfl _ rfl (tab .u32 20 x) ?_ (tab_size _ _ _) ?_; (focus (first | (simp [go_sem]; done) | (simp (disch := first | (simp [go_sem]; done) | (simp [go_sem]; omega)) [go_sem]; done)))) | (refine wpl_store rt117 rfl _ _ rfl _ rfl (tab .u32 20 x) rfl ?_ (tab_size _ _ _) (tab_all _ _ _) ((((w.alloc (.cells (tab .u32 20 x) 189)).alloc (.cells (tab .u32 20 x) 189)).exts bs).dr n) ?_ ?_; (focus (first | (simp [go_sem]; done) | (simp (disch := first | (simp [go_sem]; done) | (simp [go_sem]; omega)) [go_sem]; done))); (focus (first | (simp [go_sem]; done) | (simp (disch := first | (simp [go_sem]; done) | (simp [go_sem]; omega)) [go_sem]; done)))))
      exact bodyPost_ret (v := .agg (tab .u32 20 x)) (by rw [results_row rt117 Tryz.results188 _ _ (w.heap.size + 1) rfl (by first | (simp [go_sem]; done) | (simp (disch := first | (simp [go_sem]; done) | (simp [go_sem]; omega)) [go_sem]; done))]; first | (simp [go_sem]; done) | (simp (disch := first | (simp [go_sem]; done) | (simp [go_sem]; omega)) [go_sem]; done)) rfl ⟨x, rfl, hc.tidy, hc.vl, below_dr (below_exts' (((Below.refl _ _).alloc (Nat.le_refl _) _).alloc (by simp) _) (by simp; omega) _) _⟩

end Go.Proofs.YteghoooelgcpkaaGreatDoor
namespace Go.Proofs.YteghoooelgcpkaaGreatDoor
open Go.RowKit Go.Msg

theorem below2e (w : World) (A B : Obj) (bs : List Obj) (n : Nat) : Below w.heap.size w ((((w.alloc A).alloc B).exts bs).dr n) :=
  below_dr (below_exts' (((Below.refl _ _).alloc (Nat.le_refl _) _).alloc (by simp) _) (by simp; omega) _) _
theorem below3e (w : World) (A B C : Obj) (bs : List Obj) (n : Nat) : Below w.heap.size w (((((w.alloc A).alloc B).alloc C).exts bs).dr n) :=
  below_dr (below_exts' ((((Below.refl _ _).alloc (Nat.le_refl _) _).alloc (by simp) _).alloc (by simp; omega) _) (by simp; omega) _) _
theorem below4e (w : World) (A B C D : Obj) (bs : List Obj) (n : Nat) : Below w.heap.size w ((((((w.alloc A).alloc B).alloc C).alloc D).exts bs).dr n) :=
  below_dr (below_exts' (((((Below.refl _ _).alloc (Nat.le_refl _) _).alloc (by simp) _).alloc (by simp; omega) _).alloc (by simp; omega) _) (by simp; omega) _) _

set_option maxHeartbeats 800000 in
theorem least_any (f : Nat → Int) (hf : Tidy f) (w : World) :
    Calls Tryz.prog 184 #[.agg (tab .u32 20 f)] w fun e w' => ∃ y, e = .returned (.agg (tab .u32 20 y)) ∧ (∀ i, i < 20 → 0 ≤ y i) ∧ (∀ i, i < 19 → y i ≤ 8191) ∧ y 19 ≤ 255 ∧ lval 20 y = lval 20 f % P25519 ∧ Below w.heap.size w w' := by
  have b0 : 0 ≤ f 0 := hf.nn 0 (by omega)
  have b1 : f 0 ≤ 8210 := hf.le0
  have hg : ∀ i, i < 20 → 0 ≤ upd f 0 (f 0 + 19) i ∧ upd f 0 (f 0 + 19) i ≤ 4294443008 := fun i hi => by
    have := hf.le' i hi
    by_cases e : i = 0
    · subst e; simp [upd]; omega
    · simp [upd, e]; omega
  have hg2 : ∀ q, 0 ≤ q → q ≤ 20000 → ∀ i, i < 20 → 0 ≤ upd f 0 (f 0 + 19 * q) i ∧ upd f 0 (f 0 + 19 * q) i ≤ 4294443008 := fun q h1 h2 i hi => by
    have := hf.le' i hi
    by_cases e : i = 0
    · subst e; simp [upd]; omega
    · simp [upd, e]; omega
  have f19 : upd f 0 (f 0 + 19) 19 = f 19 := by simp [upd]
  have t19 := hf.top
  go_enter Tryz.func184, Tryz.ntmps184
  go_wp2_with (first
    | (refine wpl_load rt117 rfl _ rfl _ rfl (tab .u32 20 f) ?_ (tab_size _ _ _) ?_; (focus (first | (simp [go_sem]; done) | (simp (disch := first | (simp [go_sem]; done) | (simp [go_sem]; omega)) [go_sem]; done))))
    | (refine wpl_store rt117 rfl _ _ rfl _ rfl (tab .u32 20 f) rfl ?_ (tab_size _ _ _) (tab_all _ _ _) (((w.alloc (c20 f)).alloc z20).alloc (c20 f)) ?_ ?_; (focus (first | (simp [go_sem]; done) | (simp (disch := first | (simp [go_sem]; done) | (simp [go_sem]; omega)) [go_sem]; done))); (focus (first | (simp [go_sem]; done) | (simp (disch := first | (simp [go_sem]; done) | (simp [go_sem]; omega)) [go_sem]; done))))
    | (refine wpl_load rt117 rfl _ rfl _ rfl (tab .u32 20 (upd f 0 (f 0 + 19))) ?_ (tab_size _ _ _) ?_; (focus (first | (simp [go_sem]; done) | (simp (disch := first | (simp [go_sem]; done) | (simp [go_sem]; omega)) [go_sem]; done))))
    | (go_at_call 189; refine (carried_any _ ?_ _).mono ?_; (focus (with_reducible exact hg)); rintro e w' ⟨x, rfl, hx, hb⟩; obtain ⟨bs, n, rfl⟩ := below_form hb; obtain ⟨hx1, hx2⟩ := hx.at_; rw [f19] at hx2)
    | (refine wpl_store rt117 rfl _ _ rfl _ rfl (tab .u32 20 x) rfl ?_ (tab_size _ _ _) (tab_all _ _ _) (((((w.alloc (c20 f)).alloc z20).alloc (c20 x)).exts bs).dr n) ?_ ?_; (focus (first | (simp [go_sem]; done) | (simp (disch := first | (simp [go_sem]; done) | (simp [go_sem]; omega)) [go_sem]; done))); (focus (first | (simp [go_sem]; done) | (simp (disch := first | (simp [go_sem]; done) | (simp [go_sem]; omega)) [go_sem]; done))))
    | (refine wpl_load rt117 rfl _ rfl _ rfl (tab .u32 20 (upd f 0 (f 0 + 19 * (x 19 / 256)))) ?_ (tab_size _ _ _) ?_; (focus (first | (simp [go_sem]; done) | (simp (disch := first | (simp [go_sem]; done) | (simp [go_sem]; omega)) [go_sem]; done))))
    | (go_at_call 189; refine (carried_any _ ?_ _).mono ?_; (focus (with_reducible exact hg2 _ (by omega) (by omega))); rintro e w' ⟨y, rfl, hy, hb⟩; obtain ⟨bs2, n2, rfl⟩ := below_form2 hb; obtain ⟨hy1, hy2⟩ := hy.at_)
    | (refine wpl_store rt117 rfl _ _ rfl _ rfl (tab .u32 20 y) rfl ?_ (tab_size _ _ _) (tab_all _ _ _) (((((w.alloc (c20 y)).alloc z20).alloc (c20 x)).exts bs2).dr n2) ?_ ?_; (focus (first | (simp [go_sem]; done) | (simp (disch := first | (simp [go_sem]; done) | (simp [go_sem]; omega)) [go_sem]; done))); (focus (first | (simp [go_sem]; done) | (simp (disch := first | (simp [go_sem]; done) | (simp [go_sem]; omega)) [go_sem]; done))))
    | (refine wpl_load rt117 rfl _ rfl _ rfl (tab .u32 20 (upd y 19 (bits .and .u32 (y 19) 255))) ?_ (tab_size _ _ _) ?_; (focus (first | (simp [go_sem]; done) | (simp (disch := first | (simp [go_sem]; done) | (simp [go_sem]; omega)) [go_sem]; done))))
    | (refine wpl_store rt117 rfl _ _ rfl _ rfl (tab .u32 20 (upd y 19 (bits .and .u32 (y 19) 255))) rfl ?_ (tab_size _ _ _) (tab_all _ _ _) (((((w.alloc (c20 (upd y 19 (bits .and .u32 (y 19) 255)))).alloc (c20 (upd y 19 (bits .and .u32 (y 19) 255)))).alloc (c20 x)).exts bs2).dr n2) ?_ ?_; (focus (first | (simp [go_sem]; done) | (simp (disch := first | (simp [go_sem]; done) | (simp [go_sem]; omega)) [go_sem]; done))); (focus (first | (simp [go_sem]; done) | (simp (disch := first | (simp [go_sem]; done) | (simp [go_sem]; omega)) [go_sem]; done)))))
  have hy19 : y 19 < 4294967296 := by have : upd f 0 (f 0 + 19 * (x 19 / 256)) 19 = f 19 := by simp [upd]
                                      omega
  have L := least_math hf rfl hx hy
  rw [bits_and_255 _ hy1 hy19]
  exact bodyPost_ret (v := .agg (tab .u32 20 (upd y 19 (y 19 % 256)))) (by rw [results_row rt117 Tryz.results184 _ _ (w.heap.size + 1) rfl (by first | (simp [go_sem]; done) | (simp (disch := first | (simp [go_sem]; done) | (simp [go_sem]; omega)) [go_sem]; done))]; first | (simp [go_sem]; done) | (simp (disch := first | (simp [go_sem]; done) | (simp [go_sem]; omega)) [go_sem]; done)) rfl ⟨_, rfl, L.1, L.2.1, L.2.2.1, L.2.2.2, below3e _ _ _ _ _ _⟩
end Go.Proofs.YteghoooelgcpkaaGreatDoor
namespace Go.Proofs.YteghoooelgcpkaaGreatDoor
open Go.RowKit Go.Msg

set_option maxHeartbeats 800000 in
theorem plus_any (f g : Nat → Int) (hf : Tidy f) (hg : Tidy g) (w : World) :
    Calls Tryz.prog 179 #[.agg (tab .u32 20 f), .agg (tab .u32 20 g)] w fun e w' => ∃ x, e = .returned (.agg (tab .u32 20 x)) ∧ Tidy x ∧ lval 20 x % P25519 = (lval 20 f + lval 20 g) % P25519 ∧ Below w.heap.size w w' := by
  go_enter Tryz.func179, Tryz.ntmps179
  go_wp2
  go_loopw [5] (fun i wr => ∃ (k n : Nat), k ≤ 20 ∧ i = .int .i64 k ∧ wr = (((w.alloc (c20 (addTo f g k))).alloc (c20 g)).alloc z20).dr n) (fun i _ => 20 - (intOf i).toNat)
  case atStart => exact ⟨0, _, by omega, rfl, by rw [addTo_zero, World.dr_self]⟩
  case round =>
    obtain ⟨k, n, hk, rfl, rfl⟩ := hrel
    by_cases hlt : k < 20
    · have c1 : (k:Int) < 20 := by omega
      have b1 := hf.le' k hlt
      have b2 := hg.le' k hlt
      have HA := addTo_at f g k
      go_wp2
      go_region
      go_wp2
      go_roundw
      case rel => exact ⟨k + 1, _, by omega, by go_num, by rw [addTo_step]⟩
      case measure => simp [intOf]; omega
    · have hk' : k = 20 := by omega
      subst hk'
      have hb : ∀ i, i < 20 → 0 ≤ addTo f g 20 i ∧ addTo f g 20 i ≤ 4294443008 := fun i hi => by
        have := hf.le' i hi; have := hg.le' i hi
        simp only [addTo, hi, if_true]; omega
      go_wp2_with (first | (refine wpl_load rt117 rfl _ rfl _ rfl (tab .u32 20 (addTo f g 20)) ?_ (tab_size _ _ _) ?_; (focus (first | (simp [go_sem]; done) | (simp (disch := first | (simp [go_sem]; done) | (simp [go_sem]; omega)) [go_sem]; done)))) | (go_at_call 188; refine (tidy_any _ ?_ _).mono ?_; (focus (with_reducible exact hb)); rintro e w' ⟨x, rfl, hx, hv, hb1⟩; obtain ⟨bs1, n1, rfl⟩ := below_form hb1) | (refine wpl_store rt117 rfl _ _ rfl _ rfl (tab .u32 20 x) rfl ?_ (tab_size _ _ _) (tab_all _ _ _) (((((w.alloc (c20 (addTo f g 20))).alloc (c20 g)).alloc (c20 x)).exts bs1).dr n1) ?_ ?_; (focus (first | (simp [go_sem]; done) | (simp (disch := first | (simp [go_sem]; done) | (simp [go_sem]; omega)) [go_sem]; done))); (focus (first | (simp [go_sem]; done) | (simp (disch := first | (simp [go_sem]; done) | (simp [go_sem]; omega)) [go_sem]; done)))))
      exact bodyPost_ret (v := .agg (tab .u32 20 x)) (by rw [results_row rt117 Tryz.results179 _ _ (w.heap.size + 1 + 1) rfl (by first | (simp [go_sem]; done) | (simp (disch := first | (simp [go_sem]; done) | (simp [go_sem]; omega)) [go_sem]; done))]; first | (simp [go_sem]; done) | (simp (disch := first | (simp [go_sem]; done) | (simp [go_sem]; omega)) [go_sem]; done)) rfl ⟨x, rfl, hx, by rw [hv, addTo_lval], below3e _ _ _ _ _ _⟩

set_option maxHeartbeats 800000 in
theorem minus_any (f g : Nat → Int) (hf : Tidy f) (hg : Tidy g) (w : World) :
    Calls Tryz.prog 180 #[.agg (tab .u32 20 f), .agg (tab .u32 20 g)] w fun e w' => ∃ x, e = .returned (.agg (tab .u32 20 x)) ∧ Tidy x ∧ lval 20 x % P25519 = (lval 20 f - lval 20 g) % P25519 ∧ Below w.heap.size w w' := by
  have b0 := hf.le' 0 (by omega)
  have g0 := hg.le' 0 (by omega)
  have b19 := hf.le' 19 (by omega)
  have g19 := hg.nn 19 (by omega)
  have g19' := hg.top
  have HS : Hid (upd f 0 (f 0 + (16346 - g 0)) = addTo f (from2p g) 1) := by
    have := addTo_step f (from2p g) 0
    rw [addTo_zero] at this; exact this
  go_enter Tryz.func180, Tryz.ntmps180
  go_wp2
  rw [HS.out]
  go_loopw [5] (fun i wr => ∃ (k n : Nat), 1 ≤ k ∧ k ≤ 19 ∧ i = .int .i64 k ∧ wr = (((w.alloc (c20 (addTo f (from2p g) k))).alloc (c20 g)).alloc z20).dr n) (fun i _ => 19 - (intOf i).toNat)
  case atStart => exact ⟨1, _, by omega, by omega, rfl, by rw [World.dr_self]⟩
  case round =>
    obtain ⟨k, n, hk1, hk, rfl, rfl⟩ := hrel
    by_cases hlt : k < 19
    · have c1 : (k:Int) < 20 := by omega
      have c2 : k < 20 := by omega
      have b1 := hf.le' k c2
      have b2 := hg.le' k c2
      have HA := addTo_at f (from2p g) k
      have HF : Hid (16382 - g k = from2p g k) := by show _ = _; unfold from2p; rw [if_neg (by omega), if_neg (by omega)]
      go_wp2
      go_region
      go_wp2
      go_roundw
      case rel => exact ⟨k + 1, _, by omega, by omega, by go_num, by rw [HF.out, addTo_step]⟩
      case measure => simp [intOf]; omega
    · have hk' : k = 19 := by omega
      subst hk'
      have HA := addTo_at f (from2p g) 19
      have HF : upd (addTo f (from2p g) 19) 19 (f 19 + (510 - g 19)) = addTo f (from2p g) 20 := addTo_step f (from2p g) 19
      have hb : ∀ i, i < 20 → 0 ≤ addTo f (from2p g) 20 i ∧ addTo f (from2p g) 20 i ≤ 4294443008 := fun i hi => by
        have := hf.le' i hi; have := hg.le' i hi
        simp only [addTo, hi, if_true, from2p]
        split
        · omega
        · split <;> omega
      go_wp2_with (first | (refine wpl_load rt117 rfl _ rfl _ rfl (tab .u32 20 (addTo f (from2p g) 20)) ?_ (tab_size _ _ _) ?_; (focus (first | (simp [go_sem]; done) | (simp (disch := first | (simp [go_sem]; done) | (simp [go_sem]; omega)) [go_sem]; done)))) | (go_at_call 188; refine (tidy_any _ ?_ _).mono ?_; (focus (with_reducible exact hb)); rintro e w' ⟨x, rfl, hx, hv, hb1⟩; obtain ⟨bs1, n1, rfl⟩ := below_form hb1) | (refine wpl_store rt117 rfl _ _ rfl _ rfl (tab .u32 20 x) rfl ?_ (tab_size _ _ _) (tab_all _ _ _) (((((w.alloc (c20 (addTo f (from2p g) 20))).alloc (c20 g)).alloc (c20 x)).exts bs1).dr n1) ?_ ?_; (focus (first | (simp [go_sem]; done) | (simp (disch := first | (simp [go_sem]; done) | (simp [go_sem]; omega)) [go_sem]; done))); (focus (first | (simp [go_sem]; done) | (simp (disch := first | (simp [go_sem]; done) | (simp [go_sem]; omega)) [go_sem]; done)))))
      exact bodyPost_ret (v := .agg (tab .u32 20 x)) (by rw [results_row rt117 Tryz.results180 _ _ (w.heap.size + 1 + 1) rfl (by first | (simp [go_sem]; done) | (simp (disch := first | (simp [go_sem]; done) | (simp [go_sem]; omega)) [go_sem]; done))]; first | (simp [go_sem]; done) | (simp (disch := first | (simp [go_sem]; done) | (simp [go_sem]; omega)) [go_sem]; done)) rfl ⟨x, rfl, hx, by rw [hv, addTo_lval, from2p_lval, show lval 20 f + (2 * P25519 - lval 20 g) = (lval 20 f - lval 20 g) - (-2) * P25519 by omega, emod_sub_mul], below3e _ _ _ _ _ _⟩

set_option maxHeartbeats 400000 in
theorem small_any (v : Int) (h0 : 0 ≤ v) (h1 : v ≤ 8191) (w : World) :
    Calls Tryz.prog 162 #[.int .u32 v] w fun e w' => e = .returned (.agg (tab .u32 20 (upd (fun _ => 0) 0 v))) ∧ Below w.heap.size w w' := by
  have hv : bits .and .u32 v 8191 = v := by rw [bits_and_8191 _ h0 (by omega)]; omega
  go_enter Tryz.func162, Tryz.ntmps162
  go_wp2_with (first | (refine wpl_load rt117 rfl _ rfl _ rfl (tab .u32 20 (upd (fun _ => 0) 0 v)) ?_ (tab_size _ _ _) ?_; (focus (first | (simp [go_sem]; done) | (simp (disch := first | (simp [go_sem]; done) | (simp [go_sem]; omega)) [go_sem]; done)))) | (refine wpl_store rt117 rfl _ _ rfl _ rfl (tab .u32 20 (upd (fun _ => 0) 0 v)) rfl ?_ (tab_size _ _ _) (tab_all _ _ _) ((w.alloc (c20 (upd (fun _ => 0) 0 v))).alloc (c20 (upd (fun _ => 0) 0 v))) ?_ ?_; (focus (first | (simp [go_sem]; done) | (simp (disch := first | (simp [go_sem]; done) | (simp [go_sem]; omega)) [go_sem]; done))); (focus (first | (simp [go_sem]; done) | (simp (disch := first | (simp [go_sem]; done) | (simp [go_sem]; omega)) [go_sem]; done)))))
  exact bodyPost_ret (v := .agg (tab .u32 20 (upd (fun _ => 0) 0 v))) (by rw [results_row rt117 Tryz.results162 _ _ (w.heap.size) rfl (by first | (simp [go_sem]; done) | (simp (disch := first | (simp [go_sem]; done) | (simp [go_sem]; omega)) [go_sem]; done))]; first | (simp [go_sem]; done) | (simp (disch := first | (simp [go_sem]; done) | (simp [go_sem]; omega)) [go_sem]; done)) rfl ⟨rfl, ((Below.refl _ _).alloc (Nat.le_refl _) _).alloc (by simp) _⟩

set_option maxHeartbeats 800000 in
theorem timesFactor_any (f : Nat → Int) (hf : Tidy f) (w : World) :
    Calls Tryz.prog 182 #[.agg (tab .u32 20 f)] w fun e w' => ∃ x, e = .returned (.agg (tab .u32 20 x)) ∧ Tidy x ∧ lval 20 x % P25519 = (121665 * lval 20 f) % P25519 ∧ Below w.heap.size w w' := by
  go_enter Tryz.func182, Tryz.ntmps182
  go_wp2
  go_loopw [3] (fun i wr => ∃ (k n : Nat), k ≤ 20 ∧ i = .int .i64 k ∧ wr = ((w.alloc (c20 (mulTo 121665 f k))).alloc z20).dr n) (fun i _ => 20 - (intOf i).toNat)
  case atStart => exact ⟨0, _, by omega, rfl, by rw [mulTo_zero, World.dr_self]⟩
  case round =>
    obtain ⟨k, n, hk, rfl, rfl⟩ := hrel
    by_cases hlt : k < 20
    · have c1 : (k:Int) < 20 := by omega
      have b1 := hf.le' k hlt
      have HA := mulTo_at 121665 f k
      go_wp2
      go_roundw
      case rel => exact ⟨k + 1, _, by omega, by go_num, by rw [← mulTo_step, Int.mul_comm]⟩
      case measure => simp [intOf]; omega
    · have hk' : k = 20 := by omega
      subst hk'
      have hb : ∀ i, i < 20 → 0 ≤ mulTo 121665 f 20 i ∧ mulTo 121665 f 20 i ≤ 4294443008 := fun i hi => by
        have := hf.le' i hi
        simp only [mulTo, hi, if_true]; omega
      go_wp2_with (first | (refine wpl_load rt117 rfl _ rfl _ rfl (tab .u32 20 (mulTo 121665 f 20)) ?_ (tab_size _ _ _) ?_; (focus (first | (simp [go_sem]; done) | (simp (disch := first | (simp [go_sem]; done) | (simp [go_sem]; omega)) [go_sem]; done)))) | (go_at_call 188; refine (tidy_any _ ?_ _).mono ?_; (focus (with_reducible exact hb)); rintro e w' ⟨x, rfl, hx, hv, hb1⟩; obtain ⟨bs1, n1, rfl⟩ := below_form hb1) | (refine wpl_store rt117 rfl _ _ rfl _ rfl (tab .u32 20 x) rfl ?_ (tab_size _ _ _) (tab_all _ _ _) ((((w.alloc (c20 (mulTo 121665 f 20))).alloc (c20 x)).exts bs1).dr n1) ?_ ?_; (focus (first | (simp [go_sem]; done) | (simp (disch := first | (simp [go_sem]; done) | (simp [go_sem]; omega)) [go_sem]; done))); (focus (first | (simp [go_sem]; done) | (simp (disch := first | (simp [go_sem]; done) | (simp [go_sem]; omega)) [go_sem]; done)))))
      exact bodyPost_ret (v := .agg (tab .u32 20 x)) (by rw [results_row rt117 Tryz.results182 _ _ (w.heap.size + 1) rfl (by first | (simp [go_sem]; done) | (simp (disch := first | (simp [go_sem]; done) | (simp [go_sem]; omega)) [go_sem]; done))]; first | (simp [go_sem]; done) | (simp (disch := first | (simp [go_sem]; done) | (simp [go_sem]; omega)) [go_sem]; done)) rfl ⟨x, rfl, hx, by rw [hv, mulTo_lval], below2e _ _ _ _ _⟩
end Go.Proofs.YteghoooelgcpkaaGreatDoor
namespace Go.Proofs.YteghoooelgcpkaaGreatDoor
open Go.RowKit Go.Msg

theorem rt130 : RowTy Tryz.prog 208 40 := ⟨by decide, by kernel_rfl, _, Tryz.underlying208, rfl⟩
abbrev c40 (f : Nat → Int) : Obj := .cells (tab .u32 40 f) 208
@[go_sem] theorem zero40 : #[Value.int IntKind.u32 0, Value.int IntKind.u32 0, Value.int IntKind.u32 0, Value.int IntKind.u32 0, Value.int IntKind.u32 0, Value.int IntKind.u32 0, Value.int IntKind.u32 0, Value.int IntKind.u32 0, Value.int IntKind.u32 0, Value.int IntKind.u32 0, Value.int IntKind.u32 0, Value.int IntKind.u32 0, Value.int IntKind.u32 0, Value.int IntKind.u32 0, Value.int IntKind.u32 0, Value.int IntKind.u32 0, Value.int IntKind.u32 0, Value.int IntKind.u32 0, Value.int IntKind.u32 0, Value.int IntKind.u32 0, Value.int IntKind.u32 0, Value.int IntKind.u32 0, Value.int IntKind.u32 0, Value.int IntKind.u32 0, Value.int IntKind.u32 0, Value.int IntKind.u32 0, Value.int IntKind.u32 0, Value.int IntKind.u32 0, Value.int IntKind.u32 0, Value.int IntKind.u32 0, Value.int IntKind.u32 0, Value.int IntKind.u32 0, Value.int IntKind.u32 0, Value.int IntKind.u32 0, Value.int IntKind.u32 0, Value.int IntKind.u32 0, Value.int IntKind.u32 0, Value.int IntKind.u32 0, Value.int IntKind.u32 0, Value.int IntKind.u32 0] = tab .u32 40 (fun _ => 0) := by rw [tab_eq]; rfl

set_option maxHeartbeats 800000 in
theorem narrowed_any (f : Nat → Int) (hf : ∀ i, i < 40 → 0 ≤ f i ∧ f i ≤ 4294443008) (hz : f 39 = 0) (w : World) :
    Calls Tryz.prog 183 #[.agg (tab .u32 40 f)] w fun e w' => ∃ x, e = .returned (.agg (tab .u32 20 x)) ∧ Tidy x ∧ lval 20 x % P25519 = lval 40 f % P25519 ∧ Below w.heap.size w w' := by
  go_enter Tryz.func183, Tryz.ntmps183
  go_wp2
  go_loopw [3] (fun i wr => ∃ (k n : Nat) (x : Nat → Int), k ≤ 39 ∧ i = .int .i64 k ∧ Carried 40 f k x ∧ wr = ((w.alloc (c40 x)).alloc z20).dr n) (fun i _ => 39 - (intOf i).toNat)
  case atStart => exact ⟨0, _, f, by omega, rfl, Carried.start 40 f (hf 0 (by omega)).1, (World.dr_self _).symm⟩
  case round =>
    obtain ⟨k, n, x, hk, rfl, hc, rfl⟩ := hrel
    by_cases hlt : k < 39
    · have c0 : (0:Int) ≤ k := by omega
      have c1 : (k:Int) + 1 < 40 := by omega
      have c2 : k + 1 < 40 := by omega
      have c3 : k < 40 := by omega
      obtain ⟨b1, b2, b3, b4⟩ : 0 ≤ x k ∧ x k < 4294967296 ∧ 0 ≤ x (k + 1) ∧ x (k + 1) ≤ 4294443008 := by
        have h1 := hc.at_; have h2 := hc.high (k + 1) (by omega); have h3 := hf k c3; have h4 := hf (k + 1) c2
        rw [h2]; omega
      go_wp2
      go_region
      go_wp2
      go_roundw
      case rel => exact ⟨k + 1, _, carry1 x k, by omega, by go_num, hc.step c2 hf, by rw [bits_and_8191 _ b1 b2]; rfl⟩
      case measure => simp [intOf]; omega
    · have hk' : k = 39 := by omega
      subst hk'
      have xb : ∀ i, i < 40 → 0 ≤ x i ∧ x i ≤ 524287 := fun i hi => by
        by_cases e : i = 39
        · subst e; have := hc.at_; omega
        · have := hc.low i (by omega); omega
      clear hf
      go_wp2
      go_loopw [5] (fun i wr => ∃ (k n : Nat), k ≤ 20 ∧ i = .int .i64 k ∧ wr = (((w.alloc (c40 x)).alloc z20).alloc (c20 (fold20 x k))).dr n) (fun i _ => 20 - (intOf i).toNat)
      case atStart => exact ⟨0, _, by omega, rfl, by rw [fold20_zero]⟩
      case round =>
        obtain ⟨k, n, hk, rfl, rfl⟩ := hrel
        by_cases hlt : k < 20
        · have c0 : (0:Int) ≤ k := by omega
          have c1 : (k:Int) < 20 := by omega
          have c2 : 20 + k < 40 := by omega
          have c3 : k < 40 := by omega
          obtain ⟨b1, b2⟩ := xb k c3
          obtain ⟨b3, b4⟩ := xb (20 + k) c2
          go_wp2
          go_region
          go_wp2
          go_roundw
          case rel => exact ⟨k + 1, _, by omega, by go_num, by rw [fold20_step]⟩
          case measure => simp [intOf]; omega
        · have hk' : k = 20 := by omega
          subst hk'
          have hb : ∀ i, i < 20 → 0 ≤ fold20 x 20 i ∧ fold20 x 20 i ≤ 4294443008 := fun i hi => by
            have := xb i (by omega); have := xb (20 + i) (by omega)
            simp only [fold20, hi, if_true]; omega
          go_wp2_with (first | (refine wpl_load rt117 rfl _ rfl _ rfl (tab .u32 20 (fold20 x 20)) ?_ (tab_size _ _ _) ?_; (focus (first | (simp [go_sem]; done) | (simp (disch := first | (simp [go_sem]; done) | (simp [go_sem]; omega)) [go_sem]; done)))) | (go_at_call 188; refine (tidy_any _ ?_ _).mono ?_; (focus (with_reducible exact hb)); rintro e w' ⟨y, rfl, hy, hv, hb1⟩; obtain ⟨bs1, n1, rfl⟩ := below_form hb1) | (refine wpl_store rt117 rfl _ _ rfl _ rfl (tab .u32 20 y) rfl ?_ (tab_size _ _ _) (tab_all _ _ _) (((((w.alloc (c40 x)).alloc (c20 y)).alloc (c20 (fold20 x 20))).exts bs1).dr n1) ?_ ?_; (focus (first | (simp [go_sem]; done) | (simp (disch := first | (simp [go_sem]; done) | (simp [go_sem]; omega)) [go_sem]; done))); (focus (first | (simp [go_sem]; done) | (simp (disch := first | (simp [go_sem]; done) | (simp [go_sem]; omega)) [go_sem]; done)))))
          exact bodyPost_ret (v := .agg (tab .u32 20 y)) (by rw [results_row rt117 Tryz.results183 _ _ (w.heap.size + 1) rfl (by first | (simp [go_sem]; done) | (simp (disch := first | (simp [go_sem]; done) | (simp [go_sem]; omega)) [go_sem]; done))]; first | (simp [go_sem]; done) | (simp (disch := first | (simp [go_sem]; done) | (simp [go_sem]; omega)) [go_sem]; done)) rfl ⟨y, rfl, hy, by rw [hv, fold20_lval, hc.vl], below3e _ _ _ _ _ _⟩

set_option maxHeartbeats 800000 in
theorem times_any (f g : Nat → Int) (hf : Tidy f) (hg : Tidy g) (w : World) :
    Calls Tryz.prog 167 #[.agg (tab .u32 20 f), .agg (tab .u32 20 g)] w fun e w' => ∃ x, e = .returned (.agg (tab .u32 20 x)) ∧ Tidy x ∧ lval 20 x % P25519 = (lval 20 f * lval 20 g) % P25519 ∧ Below w.heap.size w w' := by
  go_enter Tryz.func167, Tryz.ntmps167
  go_wp2
  go_loopw [6] (fun i wr => ∃ (k n : Nat) (W : Nat → Int), k ≤ 20 ∧ i = .int .i64 k ∧ Cols f g k 0 W ∧ wr = ((((w.alloc (c20 f)).alloc (c20 g)).alloc z20).alloc (c40 W)).dr n) (fun i _ => 20 - (intOf i).toNat)
  case atStart => exact ⟨0, _, _, by omega, rfl, Cols.start f g, (World.dr_self _).symm⟩
  case round =>
    obtain ⟨k, n, W, hk, rfl, hc, rfl⟩ := hrel
    by_cases hlt : k < 20
    · go_wp2
      go_loopw [7] (fun j wr => ∃ (m n : Nat) (W : Nat → Int), m ≤ 20 ∧ j = .int .i64 m ∧ Cols f g k m W ∧ wr = ((((w.alloc (c20 f)).alloc (c20 g)).alloc z20).alloc (c40 W)).dr n) (fun i _ => 20 - (intOf i).toNat)
      case atStart => exact ⟨0, _, _, by omega, rfl, hc, rfl⟩
      case round =>
        clear hc
        obtain ⟨m, n, W, hm, rfl, hc, rfl⟩ := hrel
        by_cases hlt2 : m < 20
        · have c0 : (0:Int) ≤ k := by omega
          have c1 : (k:Int) < 20 := by omega
          have c2 : (m:Int) < 20 := by omega
          have c3 : (0:Int) ≤ m := by omega
          have c4 : k + m < 40 := by omega
          have b1 := hf.le' k hlt
          have b2 := hg.le' m hlt2
          have b3 := mul_bd b1.1 b1.2 b2.1 b2.2
          have b4 := hc.bd hlt (k + m) c4
          go_wp2
          go_region
          go_wp2
          go_roundw
          case rel => exact ⟨m + 1, _, _, by omega, by go_num, hc.step hlt hlt2 hf hg, rfl⟩
          case measure => simp [intOf]; omega
        · have hk' : m = 20 := by omega
          subst hk'
          go_wp2
          go_roundw
          case rel => exact ⟨k + 1, _, _, by omega, by go_num, hc.row, rfl⟩
          case measure => simp [intOf]; omega
    · have hk' : k = 20 := by omega
      subst hk'
      have hb : ∀ i, i < 40 → 0 ≤ W i ∧ W i ≤ 4294443008 := fun i hi => by
        have := hc.nn i hi; have := hc.all i hi; omega
      have hz := hc.z
      go_wp2_with (first | (refine wpl_load rt130 rfl _ rfl _ rfl (tab .u32 40 W) ?_ (tab_size _ _ _) ?_; (focus (first | (simp [go_sem]; done) | (simp (disch := first | (simp [go_sem]; done) | (simp [go_sem]; omega)) [go_sem]; done)))) | (go_at_call 183; refine (narrowed_any _ ?_ hz _).mono ?_; (focus (with_reducible exact hb)); rintro e w' ⟨y, rfl, hy, hv, hb1⟩; obtain ⟨bs1, n1, rfl⟩ := below_form hb1) | (refine wpl_store rt117 rfl _ _ rfl _ rfl (tab .u32 20 y) rfl ?_ (tab_size _ _ _) (tab_all _ _ _) ((((((w.alloc (c20 f)).alloc (c20 g)).alloc (c20 y)).alloc (c40 W)).exts bs1).dr n1) ?_ ?_; (focus (first | (simp [go_sem]; done) | (simp (disch := first | (simp [go_sem]; done) | (simp [go_sem]; omega)) [go_sem]; done))); (focus (first | (simp [go_sem]; done) | (simp (disch := first | (simp [go_sem]; done) | (simp [go_sem]; omega)) [go_sem]; done)))))
      exact bodyPost_ret (v := .agg (tab .u32 20 y)) (by rw [results_row rt117 Tryz.results167 _ _ (w.heap.size + 1 + 1) rfl (by first | (simp [go_sem]; done) | (simp (disch := first | (simp [go_sem]; done) | (simp [go_sem]; omega)) [go_sem]; done))]; first | (simp [go_sem]; done) | (simp (disch := first | (simp [go_sem]; done) | (simp [go_sem]; omega)) [go_sem]; done)) rfl ⟨y, rfl, hy, by rw [hv, hc.vl]; simp [lval], below4e _ _ _ _ _ _ _⟩

set_option maxHeartbeats 400000 in
theorem square_any (f : Nat → Int) (hf : Tidy f) (w : World) :
    Calls Tryz.prog 181 #[.agg (tab .u32 20 f)] w fun e w' => ∃ x, e = .returned (.agg (tab .u32 20 x)) ∧ Tidy x ∧ lval 20 x % P25519 = (lval 20 f * lval 20 f) % P25519 ∧ Below w.heap.size w w' := by
  go_enter Tryz.func181, Tryz.ntmps181
  go_wp2_with (first | (refine wpl_load rt117 rfl _ rfl _ rfl (tab .u32 20 f) ?_ (tab_size _ _ _) ?_; (focus (first | (simp [go_sem]; done) | (simp (disch := first | (simp [go_sem]; done) | (simp [go_sem]; omega)) [go_sem]; done)))) | (go_at_call 167; refine (times_any _ _ hf hf _).mono ?_; rintro e w' ⟨y, rfl, hy, hv, hb1⟩; obtain ⟨bs1, n1, rfl⟩ := below_form hb1) | (refine wpl_store rt117 rfl _ _ rfl _ rfl (tab .u32 20 y) rfl ?_ (tab_size _ _ _) (tab_all _ _ _) ((((w.alloc (c20 f)).alloc (c20 y)).exts bs1).dr n1) ?_ ?_; (focus (first | (simp [go_sem]; done) | (simp (disch := first | (simp [go_sem]; done) | (simp [go_sem]; omega)) [go_sem]; done))); (focus (first | (simp [go_sem]; done) | (simp (disch := first | (simp [go_sem]; done) | (simp [go_sem]; omega)) [go_sem]; done)))))
  exact bodyPost_ret (v := .agg (tab .u32 20 y)) (by rw [results_row rt117 Tryz.results181 _ _ (w.heap.size + 1) rfl (by first | (simp [go_sem]; done) | (simp (disch := first | (simp [go_sem]; done) | (simp [go_sem]; omega)) [go_sem]; done))]; first | (simp [go_sem]; done) | (simp (disch := first | (simp [go_sem]; done) | (simp [go_sem]; omega)) [go_sem]; done)) rfl ⟨y, rfl, hy, hv, below2e _ _ _ _ _⟩
end Go.Proofs.YteghoooelgcpkaaGreatDoor
namespace Go.Proofs.YteghoooelgcpkaaGreatDoor
open Go.RowKit Go.Msg

set_option maxHeartbeats 1000000 in
theorem inverse_any (f : Nat → Int) (hf : Tidy f) (w : World) :
    Calls Tryz.prog 166 #[.agg (tab .u32 20 f)] w fun e w' => ∃ x, e = .returned (.agg (tab .u32 20 x)) ∧ Tidy x ∧ lval 20 x % P25519 = (lval 20 f) ^ E2 % P25519 ∧ Below w.heap.size w w' := by
  go_enter Tryz.func166, Tryz.ntmps166
  go_wp2_with (first | (refine wpl_load rt117 rfl _ rfl _ rfl (tab .u32 20 f) ?_ (tab_size _ _ _) ?_; (focus (first | (simp [go_sem]; done) | (simp (disch := first | (simp [go_sem]; done) | (simp [go_sem]; omega)) [go_sem]; done)))) | (refine wpl_store rt117 rfl _ _ rfl _ rfl (tab .u32 20 f) rfl ?_ (tab_size _ _ _) (tab_all _ _ _) (((w.alloc (c20 f)).alloc z20).alloc (c20 f)) ?_ ?_; (focus (first | (simp [go_sem]; done) | (simp (disch := first | (simp [go_sem]; done) | (simp [go_sem]; omega)) [go_sem]; done))); (focus (first | (simp [go_sem]; done) | (simp (disch := first | (simp [go_sem]; done) | (simp [go_sem]; omega)) [go_sem]; done)))))
  go_loopw [4] (fun i wr => ∃ (k n : Nat) (x : Nat → Int) (bs : List Obj), k ≤ 254 ∧ i = .int .i64 ((k : Int) - 1) ∧ Tidy x ∧ lval 20 x % P25519 = (lval 20 f) ^ (E2 / 2 ^ k) % P25519 ∧ wr = ((((w.alloc (c20 f)).alloc z20).alloc (c20 x)).exts bs).dr n) (fun i _ => (intOf i + 1).toNat)
  case atStart => exact ⟨254, _, f, [], by omega, rfl, hf, by rw [E2_top, Int.pow_one], by rw [World.exts_nil, World.dr_self]⟩
  case round =>
    obtain ⟨k, n, x, bs, hk, rfl, hx, hv, rfl⟩ := hrel
    by_cases hlt : 1 ≤ k
    · have HV : Hid (lval 20 x % P25519 = (lval 20 f) ^ (E2 / 2 ^ k) % P25519) := hv
      clear hv
      by_cases h24 : k = 3 ∨ k = 5
      · have HE : Hid (E2 / 2 ^ (k - 1) = 2 * (E2 / 2 ^ k)) := by
          have := E2_bit (k - 1) (by omega)
          rw [if_pos (by omega), show k - 1 + 1 = k by omega] at this; exact this
        rcases h24 with rfl | rfl
        all_goals
          go_wp2_with (first | (refine wpl_load rt117 rfl _ rfl _ rfl (tab .u32 20 x) ?_ (tab_size _ _ _) ?_; (focus (first | (simp [go_sem]; done) | (simp (disch := first | (simp [go_sem]; done) | (simp [go_sem]; omega)) [go_sem]; done)))) | (go_at_call 181; refine (square_any _ hx _).mono ?_; rintro e w' ⟨y, rfl, hy, hv1, hb1⟩; obtain ⟨bs1, n1, rfl⟩ := below_form2 hb1) | (refine wpl_store rt117 rfl _ _ rfl _ rfl (tab .u32 20 y) rfl ?_ (tab_size _ _ _) (tab_all _ _ _) (((((w.alloc (c20 f)).alloc z20).alloc (c20 y)).exts bs1).dr n1) ?_ ?_; (focus (first | (simp [go_sem]; done) | (simp (disch := first | (simp [go_sem]; done) | (simp [go_sem]; omega)) [go_sem]; done))); (focus (first | (simp [go_sem]; done) | (simp (disch := first | (simp [go_sem]; done) | (simp [go_sem]; omega)) [go_sem]; done)))))
          go_roundw
          case rel => first | exact ⟨2, _, _, _, by omega, by go_num, hy, by rw [show E2 / 2 ^ 2 = 2 * (E2 / 2 ^ 3) from HE.out]; exact pow_sq HV.out hv1, rfl⟩ | exact ⟨4, _, _, _, by omega, by go_num, hy, by rw [show E2 / 2 ^ 4 = 2 * (E2 / 2 ^ 5) from HE.out]; exact pow_sq HV.out hv1, rfl⟩
          case measure => simp [intOf]
      · have HE : Hid (E2 / 2 ^ (k - 1) = 2 * (E2 / 2 ^ k) + 1) := by
          have := E2_bit (k - 1) (by omega)
          rw [if_neg (by omega), show k - 1 + 1 = k by omega] at this; exact this
        have h3 : ((k : Int) - 1 != 2) = true := by simp; omega
        have h5 : ((k : Int) - 1 != 4) = true := by simp; omega
        clear h24
        go_wp2_with (first | (refine wpl_load rt117 rfl _ rfl _ rfl (tab .u32 20 x) ?_ (tab_size _ _ _) ?_; (focus (first | (simp [go_sem]; done) | (simp (disch := first | (simp [go_sem]; done) | (simp [go_sem]; omega)) [go_sem]; done)))) | (go_at_call 181; refine (square_any _ hx _).mono ?_; rintro e w' ⟨y, rfl, hy, hv1, hb1⟩; obtain ⟨bs1, n1, rfl⟩ := below_form2 hb1) | (refine wpl_store rt117 rfl _ _ rfl _ rfl (tab .u32 20 y) rfl ?_ (tab_size _ _ _) (tab_all _ _ _) (((((w.alloc (c20 f)).alloc z20).alloc (c20 y)).exts bs1).dr n1) ?_ ?_; (focus (first | (simp [go_sem]; done) | (simp (disch := first | (simp [go_sem]; done) | (simp [go_sem]; omega)) [go_sem]; done))); (focus (first | (simp [go_sem]; done) | (simp (disch := first | (simp [go_sem]; done) | (simp [go_sem]; omega)) [go_sem]; done)))) | (refine wpl_load rt117 rfl _ rfl _ rfl (tab .u32 20 y) ?_ (tab_size _ _ _) ?_; (focus (first | (simp [go_sem]; done) | (simp (disch := first | (simp [go_sem]; done) | (simp [go_sem]; omega)) [go_sem]; done)))) | (refine wpl_load rt117 rfl _ rfl _ rfl (tab .u32 20 f) ?_ (tab_size _ _ _) ?_; (focus (first | (simp [go_sem]; done) | (simp (disch := first | (simp [go_sem]; done) | (simp [go_sem]; omega)) [go_sem]; done)))) | (go_at_call 167; refine (times_any _ _ hy hf _).mono ?_; rintro e w' ⟨z, rfl, hz, hv2, hb2⟩; obtain ⟨bs2, n2, rfl⟩ := below_form2 hb2) | (refine wpl_store rt117 rfl _ _ rfl _ rfl (tab .u32 20 z) rfl ?_ (tab_size _ _ _) (tab_all _ _ _) (((((w.alloc (c20 f)).alloc z20).alloc (c20 z)).exts bs2).dr n2) ?_ ?_; (focus (first | (simp [go_sem]; done) | (simp (disch := first | (simp [go_sem]; done) | (simp [go_sem]; omega)) [go_sem]; done))); (focus (first | (simp [go_sem]; done) | (simp (disch := first | (simp [go_sem]; done) | (simp [go_sem]; omega)) [go_sem]; done)))))
        go_roundw
        case rel => exact ⟨k - 1, _, _, _, by omega, by go_num, hz, by rw [HE.out]; exact pow_sq1 HV.out hv1 hv2, rfl⟩
        case measure => simp [intOf]; omega
    · have hk' : k = 0 := by omega
      subst hk'
      rw [E2_low] at hv
      have HV : Hid (lval 20 x % P25519 = (lval 20 f) ^ E2 % P25519) := hv
      clear hv
      go_wp2_with (first | (refine wpl_load rt117 rfl _ rfl _ rfl (tab .u32 20 x) ?_ (tab_size _ _ _) ?_; (focus (first | (simp [go_sem]; done) | (simp (disch := first | (simp [go_sem]; done) | (simp [go_sem]; omega)) [go_sem]; done)))) | (refine wpl_store rt117 rfl _ _ rfl _ rfl (tab .u32 20 x) rfl ?_ (tab_size _ _ _) (tab_all _ _ _) (((((w.alloc (c20 f)).alloc (c20 x)).alloc (c20 x)).exts bs).dr n) ?_ ?_; (focus (first | (simp [go_sem]; done) | (simp (disch := first | (simp [go_sem]; done) | (simp [go_sem]; omega)) [go_sem]; done))); (focus (first | (simp [go_sem]; done) | (simp (disch := first | (simp [go_sem]; done) | (simp [go_sem]; omega)) [go_sem]; done)))))
      exact bodyPost_ret (v := .agg (tab .u32 20 x)) (by rw [results_row rt117 Tryz.results166 _ _ (w.heap.size + 1) rfl (by first | (simp [go_sem]; done) | (simp (disch := first | (simp [go_sem]; done) | (simp [go_sem]; omega)) [go_sem]; done))]; first | (simp [go_sem]; done) | (simp (disch := first | (simp [go_sem]; done) | (simp [go_sem]; omega)) [go_sem]; done)) rfl ⟨x, rfl, hx, HV.out, below3e _ _ _ _ _ _⟩
end Go.Proofs.YteghoooelgcpkaaGreatDoor
namespace Go.Proofs.YteghoooelgcpkaaGreatDoor
open Go.RowKit Go.Msg

theorem rt107 : RowTy Tryz.prog 163 32 := ⟨by decide, by kernel_rfl, _, Tryz.underlying163, rfl⟩
abbrev c32 (f : Nat → Int) : Obj := .cells (tab .u8 32 f) 163
abbrev z32 : Obj := .cells (tab .u8 32 (fun _ => 0)) 163
@[go_sem] theorem zero32 : #[Value.int IntKind.u8 0, Value.int IntKind.u8 0, Value.int IntKind.u8 0, Value.int IntKind.u8 0, Value.int IntKind.u8 0, Value.int IntKind.u8 0, Value.int IntKind.u8 0, Value.int IntKind.u8 0, Value.int IntKind.u8 0, Value.int IntKind.u8 0, Value.int IntKind.u8 0, Value.int IntKind.u8 0, Value.int IntKind.u8 0, Value.int IntKind.u8 0, Value.int IntKind.u8 0, Value.int IntKind.u8 0, Value.int IntKind.u8 0, Value.int IntKind.u8 0, Value.int IntKind.u8 0, Value.int IntKind.u8 0, Value.int IntKind.u8 0, Value.int IntKind.u8 0, Value.int IntKind.u8 0, Value.int IntKind.u8 0, Value.int IntKind.u8 0, Value.int IntKind.u8 0, Value.int IntKind.u8 0, Value.int IntKind.u8 0, Value.int IntKind.u8 0, Value.int IntKind.u8 0, Value.int IntKind.u8 0, Value.int IntKind.u8 0] = tab .u8 32 (fun _ => 0) := by rw [tab_eq]; rfl
theorem ret_int {k : IntKind} {a b : Int} (h : a = b) : Ending.returned (.int k a) = .returned (.int k b) := by rw [h]

set_option maxHeartbeats 400000 in
theorem bitOf_any (b : Nat → Int) (hb : ∀ i, i < 32 → 0 ≤ b i ∧ b i ≤ 255) (i : Nat) (hi : i < 256) (w : World) :
    Calls Tryz.prog 163 #[.agg (tab .u8 32 b), .int .i64 i] w fun e w' => e = .returned (.int .u32 (bitAt b i)) ∧ Below w.heap.size w w' := by
  have h1 : i / 8 < 32 := by omega
  have h2 := hb (i / 8) h1
  have h3 := shr_bd (i % 8) h2.1 (by omega)
  go_enter Tryz.func163, Tryz.ntmps163
  go_wp2
  go_ret
  exact ⟨ret_int (by rw [bits_and_1 _ h3.1 h3.2]; rfl), (Below.refl _ _).alloc (Nat.le_refl _) _⟩

def clampF (b : Nat → Int) : Nat → Int := upd (upd b 0 (b 0 / 8 * 8)) 31 (b 31 % 64 + 64)
theorem u8_nat {x : Int} (h : 0 ≤ x ∧ x ≤ 255) : ∃ n : Nat, n < 256 ∧ x = n := ⟨x.toNat, by omega, by omega⟩
set_option maxHeartbeats 400000 in
theorem clamp_any (b : Nat → Int) (hb : ∀ i, i < 32 → 0 ≤ b i ∧ b i ≤ 255) (w : World) :
    Calls Tryz.prog 135 #[.agg (tab .u8 32 b)] w fun e w' => e = .returned (.agg (tab .u8 32 (clampF b))) ∧ Below w.heap.size w w' := by
  have h0 : bits .and .u8 (b 0) 248 = b 0 / 8 * 8 := by
    obtain ⟨n, hn, e⟩ := u8_nat (hb 0 (by omega)); rw [e]; exact u8_248 n hn
  have h1 : bits .and .u8 (b 31) 127 = b 31 % 128 := by
    obtain ⟨n, hn, e⟩ := u8_nat (hb 31 (by omega)); rw [e]; exact u8_127 n hn
  have h2 : bits .or .u8 (b 31 % 128) 64 = b 31 % 64 + 64 := by
    obtain ⟨n, hn, e⟩ := u8_nat (hb 31 (by omega)); rw [e]; exact u8_or64 n hn
  have h3 : upd (upd (upd b 0 (b 0 / 8 * 8)) 31 (b 31 % 128)) 31 (b 31 % 64 + 64) = clampF b := by
    funext i; unfold clampF upd; by_cases e : i = 31 <;> simp [e]
  have hb0 := hb 0 (by omega)
  have hb31 := hb 31 (by omega)
  clear hb
  go_enter Tryz.func135, Tryz.ntmps135
  go_wp2_with (first | (refine wpl_load rt107 rfl _ rfl _ rfl (tab .u8 32 (clampF b)) ?_ (tab_size _ _ _) ?_; (focus (first | (simp [go_sem]; done) | (simp (disch := first | (simp [go_sem]; done) | (simp [go_sem]; omega)) [go_sem]; done)))) | (refine wpl_store rt107 rfl _ _ rfl _ rfl (tab .u8 32 (clampF b)) rfl ?_ (tab_size _ _ _) (tab_all _ _ _) ((w.alloc (c32 (clampF b))).alloc (c32 (clampF b))) ?_ ?_; (focus (first | (simp [go_sem]; done) | (simp (disch := first | (simp [go_sem]; done) | (simp [go_sem]; omega)) [go_sem]; done))); (focus (first | (simp [go_sem]; done) | (simp (disch := first | (simp [go_sem]; done) | (simp [go_sem]; omega)) [go_sem]; done)))))
  exact bodyPost_ret (v := .agg (tab .u8 32 (clampF b))) (by rw [results_row rt107 Tryz.results135 _ _ (w.heap.size + 1) rfl (by first | (simp [go_sem]; done) | (simp (disch := first | (simp [go_sem]; done) | (simp [go_sem]; omega)) [go_sem]; done))]; first | (simp [go_sem]; done) | (simp (disch := first | (simp [go_sem]; done) | (simp [go_sem]; omega)) [go_sem]; done)) rfl ⟨rfl, ((Below.refl _ _).alloc (Nat.le_refl _) _).alloc (by simp) _⟩

def sb (s : ByteArray) (i : Nat) : Int := if h : i < s.size then (s[i].toNat : Int) else 0
def sbTo (s : ByteArray) (k : Nat) (i : Nat) : Int := if i < k then sb s i else 0
theorem sbTo_step (s : ByteArray) (k : Nat) (h : k < s.size) : upd (sbTo s k) k (s[k].toNat : Int) = sbTo s (k + 1) := by
  funext i
  unfold upd sbTo
  by_cases e : i = k
  · subst e; simp [sb, h]
  · by_cases h2 : i < k
    · simp [e, h2, show i < k + 1 by omega]
    · simp [e, h2, show ¬ i < k + 1 by omega]
theorem sbTo_zero (s : ByteArray) : sbTo s 0 = fun _ => 0 := by funext i; simp [sbTo]
theorem sb_bd (s : ByteArray) (i : Nat) : 0 ≤ sb s i ∧ sb s i ≤ 255 := by
  unfold sb; split
  · have := s[i].toNat_lt; omega
  · omega
set_option maxHeartbeats 400000 in
theorem bytesOf_any (s : ByteArray) (hs : s.size ≤ 9223372036854775807) (w : World) :
    Calls Tryz.prog 134 #[.string s] w fun e w' => e = .returned (.agg (tab .u8 32 (sb s))) ∧ Below w.heap.size w w' := by
  go_enter Tryz.func134, Tryz.ntmps134
  go_wp2
  go_loopw [4] (fun i wr => ∃ (k n : Nat), k ≤ 32 ∧ k ≤ s.size ∧ i = .int .i64 k ∧ wr = ((w.alloc z32).alloc (c32 (sbTo s k))).dr n) (fun i _ => 32 - (intOf i).toNat)
  case atStart => exact ⟨0, _, by omega, by omega, rfl, by rw [sbTo_zero, World.dr_self]⟩
  case round =>
    obtain ⟨k, n, hk, hks, rfl, rfl⟩ := hrel
    by_cases hlt : k < s.size
    · by_cases hlt2 : k < 32
      · have c1 : (k : Int) < 32 := by omega
        have c2 : (k : Int) < s.size := by omega
        have HS : Hid (upd (sbTo s k) k (s[k].toNat : Int) = sbTo s (k + 1)) := sbTo_step s k hlt
        go_wp2
        go_roundw
        case rel => exact ⟨k + 1, _, by omega, by omega, by go_num, by rw [HS.out]⟩
        case measure => simp [intOf]; omega
      · have hk' : k = 32 := by omega
        subst hk'
        have c2 : (32 : Int) < s.size := by omega
        have hT : tab .u8 32 (sbTo s 32) = tab .u8 32 (sb s) := tab_congr fun i hi => by simp [sbTo, hi]
        go_wp2_with (first | (refine wpl_load rt107 rfl _ rfl _ rfl (tab .u8 32 (sbTo s 32)) ?_ (tab_size _ _ _) ?_; (focus (first | (simp [go_sem]; done) | (simp (disch := first | (simp [go_sem]; done) | (simp [go_sem]; omega)) [go_sem]; done)))) | (refine wpl_store rt107 rfl _ _ rfl _ rfl (tab .u8 32 (sbTo s 32)) rfl ?_ (tab_size _ _ _) (tab_all _ _ _) (((w.alloc (c32 (sbTo s 32))).alloc (c32 (sbTo s 32))).dr n) ?_ ?_; (focus (first | (simp [go_sem]; done) | (simp (disch := first | (simp [go_sem]; done) | (simp [go_sem]; omega)) [go_sem]; done))); (focus (first | (simp [go_sem]; done) | (simp (disch := first | (simp [go_sem]; done) | (simp [go_sem]; omega)) [go_sem]; done)))))
        rw [← hT]
        exact bodyPost_ret (v := .agg (tab .u8 32 (sbTo s 32))) (by rw [results_row rt107 Tryz.results134 _ _ (w.heap.size) rfl (by first | (simp [go_sem]; done) | (simp (disch := first | (simp [go_sem]; done) | (simp [go_sem]; omega)) [go_sem]; done))]; first | (simp [go_sem]; done) | (simp (disch := first | (simp [go_sem]; done) | (simp [go_sem]; omega)) [go_sem]; done)) rfl ⟨rfl, below2 _ _ _ _⟩
    · have c2 : ¬ (k : Int) < s.size := by omega
      have hT : tab .u8 32 (sbTo s k) = tab .u8 32 (sb s) := tab_congr fun i hi => by
        unfold sbTo
        by_cases e : i < k
        · simp [e]
        · simp [e, sb, show ¬ i < s.size by omega]
      have HT : Hid (tab .u8 32 (sbTo s k) = tab .u8 32 (sb s)) := hT
      clear hT
      go_wp2_with (first | (refine wpl_load rt107 rfl _ rfl _ rfl (tab .u8 32 (sbTo s k)) ?_ (tab_size _ _ _) ?_; (focus (first | (simp [go_sem]; done) | (simp (disch := first | (simp [go_sem]; done) | (simp [go_sem]; omega)) [go_sem]; done)))) | (refine wpl_store rt107 rfl _ _ rfl _ rfl (tab .u8 32 (sbTo s k)) rfl ?_ (tab_size _ _ _) (tab_all _ _ _) (((w.alloc (c32 (sbTo s k))).alloc (c32 (sbTo s k))).dr n) ?_ ?_; (focus (first | (simp [go_sem]; done) | (simp (disch := first | (simp [go_sem]; done) | (simp [go_sem]; omega)) [go_sem]; done))); (focus (first | (simp [go_sem]; done) | (simp (disch := first | (simp [go_sem]; done) | (simp [go_sem]; omega)) [go_sem]; done)))))
      rw [← HT.out]
      exact bodyPost_ret (v := .agg (tab .u8 32 (sbTo s k))) (by rw [results_row rt107 Tryz.results134 _ _ (w.heap.size) rfl (by first | (simp [go_sem]; done) | (simp (disch := first | (simp [go_sem]; done) | (simp [go_sem]; omega)) [go_sem]; done))]; first | (simp [go_sem]; done) | (simp (disch := first | (simp [go_sem]; done) | (simp [go_sem]; omega)) [go_sem]; done)) rfl ⟨rfl, below2 _ _ _ _⟩
end Go.Proofs.YteghoooelgcpkaaGreatDoor
namespace Go.Proofs.YteghoooelgcpkaaGreatDoor
open Go.RowKit Go.Msg

theorem mixed_any : Tryz.prog.follows .mixedOrders = true := by kernel_rfl

set_option maxHeartbeats 1000000 in
theorem fromBytes_any (b : Nat → Int) (hb : ∀ i, i < 32 → 0 ≤ b i ∧ b i ≤ 255) (w : World) :
    Calls Tryz.prog 161 #[.agg (tab .u8 32 b)] w fun e w' => ∃ x, e = .returned (.agg (tab .u32 20 x)) ∧ Tidy x ∧ lval 20 x = bsum b 255 ∧ Below w.heap.size w w' := by
  go_enter Tryz.func161, Tryz.ntmps161
  go_wp2
  go_loopw [4] (fun i wr => ∃ (k n : Nat) (x : Nat → Int) (bs : List Obj), k ≤ 255 ∧ i = .int .i64 k ∧ Filled b k x ∧ wr = ((((w.alloc (c32 b)).alloc z20).alloc (c20 x)).exts bs).dr n) (fun i _ => 255 - (intOf i).toNat)
  case atStart => exact ⟨0, _, _, [], by omega, rfl, Filled.start b, by rw [World.exts_nil, World.dr_self]⟩
  case round =>
    obtain ⟨k, n, x, bs, hk, rfl, hx, rfl⟩ := hrel
    by_cases hlt : k < 255
    · have c1 : (k : Int) < 255 := by omega
      have c2 : k / 13 < 20 := by omega
      have c3 : (k : Int) / 13 < 20 := by omega
      have b1 := bitAt_01 b k
      go_wp2
      refine wp_region_quiet_tail 12 (fun w' => ∃ q, w' = (((w.alloc (c32 b)).alloc z20).alloc (c20 x)).ex q) mixed_any (by kernel_rfl) ⟨behind bs (n + 1), by rw [World.ex_behind]; rfl⟩ ?_
      simp only [List.take_succ_cons, List.take_zero, List.drop_succ_cons, List.drop_zero]
      iterate 4 (go_big_quiet_step (fail))
      refine quiet_load_row rt107 rfl _ rfl _ rfl (tab .u8 32 b) (tab_size _ _ _) ?_ ?_
      · rintro w' ⟨p, rfl⟩; simp [go_sem]
      simp only [Act.put, List.setIfInBounds_toArray, List.set_cons_succ, List.set_cons_zero]
      go_big_quiet_step (fail)
      go_big_quiet_step ((rename_i p; go_at_call 163; refine (bitOf_any _ hb _ (by omega) _).mono ?_; rintro e w' ⟨rfl, hb1⟩; obtain ⟨q1, rfl⟩ := below_ex hb1; exact ⟨rfl, q1, rfl⟩))
      iterate 5 (go_big_quiet_step (fail))
      refine wpQuiet_nil ?_
      rintro w' ⟨q, rfl⟩
      unfold World.ex
      go_wp2
      go_roundw
      case rel => exact ⟨k + 1, _, _, _, by omega, by go_num, hx.step hlt, by rw [bit_pow _ b1 (by omega), or_bit _ _ _ (hx.nn _ c2) hx.at_ b1 (by omega)]⟩
      case measure => simp [intOf]; omega
    · have hk' : k = 255 := by omega
      subst hk'
      have D := hx.done
      go_wp2_with (first | (refine wpl_load rt117 rfl _ rfl _ rfl (tab .u32 20 x) ?_ (tab_size _ _ _) ?_; (focus (first | (simp [go_sem]; done) | (simp (disch := first | (simp [go_sem]; done) | (simp [go_sem]; omega)) [go_sem]; done)))) | (refine wpl_store rt117 rfl _ _ rfl _ rfl (tab .u32 20 x) rfl ?_ (tab_size _ _ _) (tab_all _ _ _) (((((w.alloc (c32 b)).alloc (c20 x)).alloc (c20 x)).exts bs).dr n) ?_ ?_; (focus (first | (simp [go_sem]; done) | (simp (disch := first | (simp [go_sem]; done) | (simp [go_sem]; omega)) [go_sem]; done))); (focus (first | (simp [go_sem]; done) | (simp (disch := first | (simp [go_sem]; done) | (simp [go_sem]; omega)) [go_sem]; done)))))
      exact bodyPost_ret (v := .agg (tab .u32 20 x)) (by rw [results_row rt117 Tryz.results161 _ _ (w.heap.size + 1) rfl (by first | (simp [go_sem]; done) | (simp (disch := first | (simp [go_sem]; done) | (simp [go_sem]; omega)) [go_sem]; done))]; first | (simp [go_sem]; done) | (simp (disch := first | (simp [go_sem]; done) | (simp [go_sem]; omega)) [go_sem]; done)) rfl ⟨x, rfl, D.1, D.2, below3e _ _ _ _ _ _⟩

set_option maxHeartbeats 1000000 in
theorem bytes_any (f : Nat → Int) (hf : Tidy f) (w : World) :
    Calls Tryz.prog 168 #[.agg (tab .u32 20 f)] w fun e w' => ∃ b, e = .returned (.agg (tab .u8 32 b)) ∧ (∀ i, i < 32 → 0 ≤ b i ∧ b i ≤ 255) ∧ bval 32 b = lval 20 f % P25519 ∧ Below w.heap.size w w' := by
  go_enter Tryz.func168, Tryz.ntmps168
  go_wp2_with (first | (refine wpl_load rt117 rfl _ rfl _ rfl (tab .u32 20 f) ?_ (tab_size _ _ _) ?_; (focus (first | (simp [go_sem]; done) | (simp (disch := first | (simp [go_sem]; done) | (simp [go_sem]; omega)) [go_sem]; done)))) | (go_at_call 184; refine (least_any _ hf _).mono ?_; rintro e w' ⟨x, rfl, hx1, hx2, hx3, hx4, hb1⟩; obtain ⟨bs1, n1, rfl⟩ := below_form hb1) | (refine wpl_store rt117 rfl _ _ rfl _ rfl (tab .u32 20 x) rfl ?_ (tab_size _ _ _) (tab_all _ _ _) (((((w.alloc (c20 f)).alloc z32).exts bs1).alloc (c20 x)).dr n1) ?_ ?_; (focus (first | (simp [go_sem]; done) | (simp (disch := first | (simp [go_sem]; done) | (simp [go_sem]; omega)) [go_sem]; done))); (focus (first | (simp [go_sem]; done) | (simp (disch := first | (simp [go_sem]; done) | (simp [go_sem]; omega)) [go_sem]; done)))))
  have sz : (((w.alloc (c20 f)).alloc z32).exts bs1).heap.size = w.heap.size + 1 + 1 + bs1.length := by simp [go_sem]
  have xb : ∀ i, i < 20 → 0 ≤ x i ∧ x i < 4294967296 := fun i hi => ⟨hx1 i hi, by
    by_cases e : i = 19
    · subst e; omega
    · have := hx2 i (by omega); omega⟩
  go_loopw [5] (fun i wr => ∃ (k n : Nat) (b : Nat → Int), k ≤ 255 ∧ i = .int .i64 k ∧ FilledB x k b ∧ wr = (((((w.alloc (c20 f)).alloc z32).exts bs1).alloc (c20 x)).alloc (c32 b)).dr n) (fun i _ => 255 - (intOf i).toNat)
  case atStart => exact ⟨0, _, _, by omega, rfl, FilledB.start x, rfl⟩
  case round =>
    obtain ⟨k, n, b, hk, rfl, hx, rfl⟩ := hrel
    by_cases hlt : k < 255
    · have c1 : (k : Int) < 255 := by omega
      have c2 : k / 13 < 20 := by omega
      have c3 : (k : Int) / 13 < 20 := by omega
      have c4 : k / 8 < 32 := by omega
      have c5 : (k : Int) / 8 < 32 := by omega
      have xk := xb (k / 13) c2
      have sk := shr_bd (k % 13) xk.1 xk.2
      have HB : bits .and .u32 (x (k / 13) / 2 ^ (k % 13)) 1 = lbit x k := by rw [bits_and_1 _ sk.1 sk.2]; rfl
      have b1 := lbit_01 x k
      clear xb hx1 hx2 sz
      go_wp2
      go_roundw
      case rel => exact ⟨k + 1, _, _, by omega, by go_num, hx.step hlt, by rw [bit_pow8 _ b1 (by omega), or_bit8 _ _ _ (hx.nn _ c4) hx.at_ b1 (by omega)]⟩
      case measure => simp [intOf]; omega
    · have hk' : k = 255 := by omega
      subst hk'
      have D := hx.done
      go_wp2_with (first | (refine wpl_load rt107 rfl _ rfl _ rfl (tab .u8 32 b) ?_ (tab_size _ _ _) ?_; (focus (first | (simp [go_sem]; done) | (simp (disch := first | (simp [go_sem]; done) | (simp [go_sem]; omega)) [go_sem]; done)))) | (refine wpl_store rt107 rfl _ _ rfl _ rfl (tab .u8 32 b) rfl ?_ (tab_size _ _ _) (tab_all _ _ _) ((((((w.alloc (c20 f)).alloc (c32 b)).exts bs1).alloc (c20 x)).alloc (c32 b)).dr n) ?_ ?_; (focus (first | (simp [go_sem]; done) | (simp (disch := first | (simp [go_sem]; done) | (simp [go_sem]; omega)) [go_sem]; done))); (focus (first | (simp [go_sem]; done) | (simp (disch := first | (simp [go_sem]; done) | (simp [go_sem]; omega)) [go_sem]; done)))))
      refine bodyPost_ret (v := .agg (tab .u8 32 b)) (by rw [results_row rt107 Tryz.results168 _ _ (w.heap.size + 1) rfl (by first | (simp [go_sem]; done) | (simp (disch := first | (simp [go_sem]; done) | (simp [go_sem]; omega)) [go_sem]; done))]; first | (simp [go_sem]; done) | (simp (disch := first | (simp [go_sem]; done) | (simp [go_sem]; omega)) [go_sem]; done)) rfl ⟨b, rfl, D.1, by rw [D.2, lsum_255 x hx1 hx2 hx3, hx4], ?_⟩
      exact below_dr (((below_exts' (((Below.refl _ _).alloc (Nat.le_refl _) _).alloc (by simp) _) (by simp; omega) _).alloc (by simp [go_sem]; omega) _).alloc (by simp [go_sem]; omega) _) _
end Go.Proofs.YteghoooelgcpkaaGreatDoor
namespace Go.Proofs.YteghoooelgcpkaaGreatDoor
open Go.RowKit Go.Msg

theorem rt121 : RowTy Tryz.prog 193 80 := ⟨by decide, by kernel_rfl, _, Tryz.underlying193, rfl⟩
abbrev c80 (f : Nat → Int) : Obj := .cells (tab .u32 80 f) 193
abbrev z80 : Obj := .cells (tab .u32 80 (fun _ => 0)) 193
@[go_sem] theorem zero80 : Tryz.zeroCells193 = tab .u32 80 (fun _ => 0) := by rw [tab_eq]; kernel_rfl
theorem u32_of {x : Int} (h : 0 ≤ x ∧ x < 4294967296) : ∃ n : Nat, n < 4294967296 ∧ x = n := ⟨x.toNat, by omega, by omega⟩
theorem xor_swap {a b : Int} (ha : 0 ≤ a ∧ a < 4294967296) (hb : 0 ≤ b ∧ b < 4294967296) :
    bits .and .u32 4294967295 (bits .xor .u32 a b) = bits .xor .u32 a b ∧ bits .xor .u32 a (bits .xor .u32 a b) = b ∧ bits .xor .u32 b (bits .xor .u32 a b) = a := by
  obtain ⟨n, hn, rfl⟩ := u32_of ha
  obtain ⟨m, hm, rfl⟩ := u32_of hb
  have h : n ^^^ m < 4294967296 := Nat.xor_lt_two_pow (n := 32) hn hm
  rw [u32_xor_nat n m hn hm]
  refine ⟨?_, ?_, ?_⟩
  · have := u32_and_nat 4294967295 (n ^^^ m) (by omega) h
    rw [show ((4294967295 : Nat) : Int) = 4294967295 by rfl] at this
    rw [this, Nat.and_comm, show (4294967295 : Nat) = 2 ^ 32 - 1 by decide, Nat.and_two_pow_sub_one_eq_mod, Nat.mod_eq_of_lt h]
  · rw [u32_xor_nat n _ hn h, ← Nat.xor_assoc, Nat.xor_self, Nat.zero_xor]
  · rw [u32_xor_nat m _ hm h, Nat.xor_comm n m, ← Nat.xor_assoc, Nat.xor_self, Nat.zero_xor]
theorem xor_stay {a b : Int} (ha : 0 ≤ a ∧ a < 4294967296) (hb : 0 ≤ b ∧ b < 4294967296) : bits .and .u32 0 b = 0 ∧ bits .xor .u32 a 0 = a := by
  obtain ⟨n, hn, rfl⟩ := u32_of ha
  obtain ⟨m, hm, rfl⟩ := u32_of hb
  have h1 := u32_and_nat 0 m (by omega) hm
  have h2 := u32_xor_nat n 0 hn (by omega)
  simp only [Nat.zero_and, Nat.xor_zero] at h1 h2
  exact ⟨h1, h2⟩
theorem xor_bd {a b : Int} (ha : 0 ≤ a ∧ a < 4294967296) (hb : 0 ≤ b ∧ b < 4294967296) : 0 ≤ bits .xor .u32 a b ∧ bits .xor .u32 a b < 4294967296 := by
  obtain ⟨n, hn, rfl⟩ := u32_of ha
  obtain ⟨m, hm, rfl⟩ := u32_of hb
  have h : n ^^^ m < 4294967296 := Nat.xor_lt_two_pow (n := 32) hn hm
  rw [u32_xor_nat n m hn hm]; omega

def Sw (F : Nat → Int) (k : Nat) (G : Nat → Int) : Prop := ∀ j, j < 80 → G j = if j % 20 < k then F ((j + 40) % 80) else F j
theorem Sw.step {F G : Nat → Int} {k : Nat} (h : Sw F k G) (hk : k < 20) :
    Sw F (k + 1) (upd (upd (upd (upd G k (G (40 + k))) (40 + k) (G k)) (20 + k) (G (60 + k))) (60 + k) (G (20 + k))) := by
  intro j hj
  have h0 := h k (by omega); have h1 := h (20 + k) (by omega); have h2 := h (40 + k) (by omega); have h3 := h (60 + k) (by omega)
  rw [if_neg (by omega)] at h0 h1 h2 h3
  by_cases e3 : j = 60 + k
  · subst e3; simp only [upd, if_true]; rw [if_pos (by omega), h1]; congr 1; omega
  · by_cases e2 : j = 20 + k
    · subst e2; simp only [upd, e3, if_true, if_false]; rw [if_pos (by omega), h3]; congr 1; omega
    · by_cases e1 : j = 40 + k
      · subst e1; simp only [upd, e3, e2, if_true, if_false]; rw [if_pos (by omega), h0]; congr 1; omega
      · by_cases e0 : j = k
        · subst e0; simp only [upd, e3, e2, e1, if_true, if_false]; rw [if_pos (by omega), h2]; congr 1; omega
        · simp only [upd, e3, e2, e1, e0, if_false]
          rw [h j hj]
          by_cases hlt : j % 20 < k
          · rw [if_pos hlt, if_pos (by omega)]
          · rw [if_neg hlt, if_neg (by omega)]
theorem upd4_self (G : Nat → Int) (k : Nat) : upd (upd (upd (upd G k (G k)) (40 + k) (G (40 + k))) (20 + k) (G (20 + k))) (60 + k) (G (60 + k)) = G := by
  funext j; unfold upd
  by_cases e3 : j = 60 + k
  · simp [e3]
  · by_cases e2 : j = 20 + k
    · simp [e2]
    · by_cases e1 : j = 40 + k
      · simp [e1]
      · by_cases e0 : j = k
        · simp [e0]
        · simp [e3, e2, e1, e0]

set_option maxHeartbeats 1000000 in
theorem exchanged_no (F : Nat → Int) (hF : ∀ i, i < 80 → 0 ≤ F i ∧ F i < 4294967296) (w : World) :
    Calls Tryz.prog 164 #[.agg (tab .u32 80 F), .int .u32 0] w fun e w' => e = .returned (.agg (tab .u32 80 F)) ∧ Below w.heap.size w w' := by
  go_enter Tryz.func164, Tryz.ntmps164
  go_wp2
  go_loopw [6] (fun i wr => ∃ (k n : Nat), k ≤ 20 ∧ i = .int .i64 k ∧ wr = ((w.alloc (c80 F)).alloc z80).dr n) (fun i _ => 20 - (intOf i).toNat)
  case atStart => exact ⟨0, _, by omega, rfl, by rw [World.dr_self]⟩
  case round =>
    obtain ⟨k, n, hk, rfl, rfl⟩ := hrel
    by_cases hlt : k < 20
    · have c1 : (k : Int) < 20 := by omega
      have c2 : k < 80 := by omega
      have c3 : 20 + k < 80 := by omega
      have c4 : 40 + k < 80 := by omega
      have c5 : 60 + k < 80 := by omega
      have b0 := hF k c2
      have b1 := hF (20 + k) c3
      have b2 := hF (40 + k) c4
      have b3 := hF (60 + k) c5
      have e0 := (xor_stay b0 (xor_bd b0 b2)).1
      have e1 := (xor_stay b1 (xor_bd b1 b3)).1
      have d0 := (xor_stay b0 b0).2
      have d1 := (xor_stay b1 b0).2
      have d2 := (xor_stay b2 b0).2
      have d3 := (xor_stay b3 b0).2
      clear b0 b1 b2 b3 hF
      go_wp2
      go_region
      go_wp2
      go_region
      go_wp2
      go_roundw
      case rel => exact ⟨k + 1, _, by omega, by go_num, by rw [upd4_self]⟩
      case measure => simp [intOf]; omega
    · have hk' : k = 20 := by omega
      subst hk'
      go_wp2_with (first | (refine wpl_load rt121 rfl _ rfl _ rfl (tab .u32 80 F) ?_ (tab_size _ _ _) ?_; (focus (first | (simp [go_sem]; done) | (simp (disch := first | (simp [go_sem]; done) | (simp [go_sem]; omega)) [go_sem]; done)))) | (refine wpl_store rt121 rfl _ _ rfl _ rfl (tab .u32 80 F) rfl ?_ (tab_size _ _ _) (tab_all _ _ _) (((w.alloc (c80 F)).alloc (c80 F)).dr n) ?_ ?_; (focus (first | (simp [go_sem]; done) | (simp (disch := first | (simp [go_sem]; done) | (simp [go_sem]; omega)) [go_sem]; done))); (focus (first | (simp [go_sem]; done) | (simp (disch := first | (simp [go_sem]; done) | (simp [go_sem]; omega)) [go_sem]; done)))))
      exact bodyPost_ret (v := .agg (tab .u32 80 F)) (by rw [results_row rt121 Tryz.results164 _ _ (w.heap.size + 1) rfl (by first | (simp [go_sem]; done) | (simp (disch := first | (simp [go_sem]; done) | (simp [go_sem]; omega)) [go_sem]; done))]; first | (simp [go_sem]; done) | (simp (disch := first | (simp [go_sem]; done) | (simp [go_sem]; omega)) [go_sem]; done)) rfl ⟨rfl, below2 _ _ _ _⟩

set_option maxHeartbeats 1000000 in
theorem exchanged_yes (F : Nat → Int) (hF : ∀ i, i < 80 → 0 ≤ F i ∧ F i < 4294967296) (w : World) :
    Calls Tryz.prog 164 #[.agg (tab .u32 80 F), .int .u32 1] w fun e w' => e = .returned (.agg (tab .u32 80 (fun j => F ((j + 40) % 80)))) ∧ Below w.heap.size w w' := by
  go_enter Tryz.func164, Tryz.ntmps164
  go_wp2
  go_loopw [6] (fun i wr => ∃ (k n : Nat) (G : Nat → Int), k ≤ 20 ∧ i = .int .i64 k ∧ Sw F k G ∧ wr = ((w.alloc (c80 G)).alloc z80).dr n) (fun i _ => 20 - (intOf i).toNat)
  case atStart => exact ⟨0, _, F, by omega, rfl, fun j _ => by simp, by rw [World.dr_self]⟩
  case round =>
    obtain ⟨k, n, G, hk, rfl, hS, rfl⟩ := hrel
    by_cases hlt : k < 20
    · have c1 : (k : Int) < 20 := by omega
      have c2 : k < 80 := by omega
      have c3 : 20 + k < 80 := by omega
      have c4 : 40 + k < 80 := by omega
      have c5 : 60 + k < 80 := by omega
      have gb : ∀ j, j < 80 → 0 ≤ G j ∧ G j < 4294967296 := fun j hj => by
        rw [hS j hj]; split
        · exact hF _ (by omega)
        · exact hF _ hj
      obtain ⟨e0, d0, d2⟩ := xor_swap (gb k c2) (gb (40 + k) c4)
      obtain ⟨e1, d1, d3⟩ := xor_swap (gb (20 + k) c3) (gb (60 + k) c5)
      clear gb
      go_wp2
      go_region
      go_wp2
      go_region
      go_wp2
      go_roundw
      case rel => exact ⟨k + 1, _, _, by omega, by go_num, hS.step hlt, rfl⟩
      case measure => simp [intOf]; omega
    · have hk' : k = 20 := by omega
      subst hk'
      have HT : Hid (tab .u32 80 G = tab .u32 80 (fun j => F ((j + 40) % 80))) := tab_congr fun i hi => by rw [hS i hi, if_pos (by omega)]
      go_wp2_with (first | (refine wpl_load rt121 rfl _ rfl _ rfl (tab .u32 80 G) ?_ (tab_size _ _ _) ?_; (focus (first | (simp [go_sem]; done) | (simp (disch := first | (simp [go_sem]; done) | (simp [go_sem]; omega)) [go_sem]; done)))) | (refine wpl_store rt121 rfl _ _ rfl _ rfl (tab .u32 80 G) rfl ?_ (tab_size _ _ _) (tab_all _ _ _) (((w.alloc (c80 G)).alloc (c80 G)).dr n) ?_ ?_; (focus (first | (simp [go_sem]; done) | (simp (disch := first | (simp [go_sem]; done) | (simp [go_sem]; omega)) [go_sem]; done))); (focus (first | (simp [go_sem]; done) | (simp (disch := first | (simp [go_sem]; done) | (simp [go_sem]; omega)) [go_sem]; done)))))
      rw [← HT.out]
      exact bodyPost_ret (v := .agg (tab .u32 80 G)) (by rw [results_row rt121 Tryz.results164 _ _ (w.heap.size + 1) rfl (by first | (simp [go_sem]; done) | (simp (disch := first | (simp [go_sem]; done) | (simp [go_sem]; omega)) [go_sem]; done))]; first | (simp [go_sem]; done) | (simp (disch := first | (simp [go_sem]; done) | (simp [go_sem]; omega)) [go_sem]; done)) rfl ⟨rfl, below2 _ _ _ _⟩
end Go.Proofs.YteghoooelgcpkaaGreatDoor
