/- The walk of package curve: the ladder's loop, Shared, Point. (By program: mktimes.py.) -/
import Derived.Test.YtogkchcclcbobaaCvL
import Derived.Test.YtogkchcclcbobaaLad
namespace Go.Proofs.Ytogkchcclcbobaa
open Go.RowKit Go.Msg

theorem Tidy_congr {f g : Nat → Int} (h : Tidy f) (e : ∀ i, i < 20 → g i = f i) : Tidy g :=
  ⟨fun i hi => by rw [e i hi]; exact h.nn i hi, fun i hi h1 => by rw [e i (by omega)]; exact h.le i hi h1, by rw [e 0 (by omega)]; exact h.le0, by rw [e 19 (by omega)]; exact h.top⟩
/-- Four tidy numbers in one row. -/
structure Tid4 (G : Nat → Int) : Prop where
  a : Tidy G
  b : Tidy (fun i => G (20 + i))
  c : Tidy (fun i => G (40 + i))
  d : Tidy (fun i => G (60 + i))
theorem Tid4.bd {G : Nat → Int} (h : Tid4 G) : ∀ i, i < 80 → 0 ≤ G i ∧ G i < 4294967296 := fun i hi => by
  by_cases h1 : i < 20
  · have := h.a.le' i h1; omega
  · by_cases h2 : i < 40
    · have := h.b.le' (i - 20) (by omega); rw [show 20 + (i - 20) = i by omega] at this; omega
    · by_cases h3 : i < 60
      · have := h.c.le' (i - 40) (by omega); rw [show 40 + (i - 40) = i by omega] at this; omega
      · have := h.d.le' (i - 60) (by omega); rw [show 60 + (i - 60) = i by omega] at this; omega
theorem Tid4.swap {G : Nat → Int} (h : Tid4 G) : Tid4 (fun j => G ((j + 40) % 80)) :=
  ⟨Tidy_congr h.c fun i hi => by congr 1; omega, Tidy_congr h.d fun i hi => by congr 1; omega, Tidy_congr h.a fun i hi => by congr 1; omega, Tidy_congr h.b fun i hi => by congr 1; omega⟩
theorem lval_swap (G : Nat → Int) : lval 20 (fun j => G ((j + 40) % 80)) = lval 20 (fun i => G (40 + i)) ∧ lval 20 (fun i => G ((20 + i + 40) % 80)) = lval 20 (fun i => G (60 + i)) ∧ lval 20 (fun i => G ((40 + i + 40) % 80)) = lval 20 G ∧ lval 20 (fun i => G ((60 + i + 40) % 80)) = lval 20 (fun i => G (20 + i)) :=
  ⟨val_congr fun i hi => by congr 1; omega, val_congr fun i hi => by congr 1; omega, val_congr fun i hi => by congr 1; omega, val_congr fun i hi => by congr 1; omega⟩
/-- The values of the four. -/
structure Vals (G : Nat → Int) (x2 z2 x3 z3 : Int) : Prop where
  a : Eqv (lval 20 G) x2
  b : Eqv (lval 20 (fun i => G (20 + i))) z2
  c : Eqv (lval 20 (fun i => G (40 + i))) x3
  d : Eqv (lval 20 (fun i => G (60 + i))) z3
theorem step_any (F U : Nat → Int) (t : Tid4 F) (tU : Tidy U) (w : World) :
    Calls Try.prog 81 #[.agg (tab .u32 80 F), .agg (tab .u32 20 U)] w fun e w' => ∃ G : Nat → Int, e = .returned (.agg (tab .u32 80 G)) ∧ Tid4 G ∧
      Vals G (tw1 (lval 20 F) (lval 20 fun i => F (20 + i))) (tw2 (lval 20 F) (lval 20 fun i => F (20 + i))) (4 * bt1 (lval 20 F) (lval 20 fun i => F (20 + i)) (lval 20 fun i => F (40 + i)) (lval 20 fun i => F (60 + i))) (4 * bt2 (lval 20 U) (lval 20 F) (lval 20 fun i => F (20 + i)) (lval 20 fun i => F (40 + i)) (lval 20 fun i => F (60 + i))) ∧
      Below w.heap.size w w' := by
  refine (step_walk F U t.a t.b t.c t.d tU w).mono ?_
  rintro e w' ⟨a, b, c, d, aa, bb, ee, da, cb, sum, df, df2, inn, in2, nx3, nz3, nx2, nz2, rfl, ⟨tx2, tz2, tx3, tz3⟩, ⟨va, vb, vc, vd, vaa, vbb, vee, vda, vcb, vsum, vdf, vdf2, vinn, vin2, vx3, vz3, vx2, vz2⟩, hb⟩
  obtain ⟨m1, m2, m3, m4⟩ := step_math va vb vc vd vaa vbb vee vda vcb vsum vdf vdf2 vinn vin2 vx3 vz3 vx2 vz2
  have g0 : ∀ i, i < 20 → (splice (splice (splice (splice F 40 20 nx3) 60 20 nz3) 0 20 nx2) 20 20 nz2) i = nx2 i := fun i hi => by simp [splice]; rw [if_neg (by omega), if_pos (by omega)]
  have g1 : ∀ i, i < 20 → (splice (splice (splice (splice F 40 20 nx3) 60 20 nz3) 0 20 nx2) 20 20 nz2) (20 + i) = nz2 i := fun i hi => by simp only [splice]; rw [if_pos (by omega)]; congr 1; omega
  have g2 : ∀ i, i < 20 → (splice (splice (splice (splice F 40 20 nx3) 60 20 nz3) 0 20 nx2) 20 20 nz2) (40 + i) = nx3 i := fun i hi => by simp only [splice]; rw [if_neg (by omega), if_neg (by omega), if_neg (by omega), if_pos (by omega)]; congr 1; omega
  have g3 : ∀ i, i < 20 → (splice (splice (splice (splice F 40 20 nx3) 60 20 nz3) 0 20 nx2) 20 20 nz2) (60 + i) = nz3 i := fun i hi => by simp only [splice]; rw [if_neg (by omega), if_neg (by omega), if_pos (by omega)]; congr 1; omega
  refine ⟨_, rfl, ⟨Tidy_congr tx2 g0, Tidy_congr tz2 g1, Tidy_congr tx3 g2, Tidy_congr tz3 g3⟩, ⟨?_, ?_, ?_, ?_⟩, hb⟩
  · rw [val_congr g0]; exact m1
  · rw [val_congr g1]; exact m2
  · rw [val_congr g2]; exact m3
  · rw [val_congr g3]; exact m4
theorem Vals.scaled0 {G G2 U : Nat → Int} {s : Pair} {u b : Int} (hs : Scaled s (lval 20 G) (lval 20 fun i => G (20 + i)) (lval 20 fun i => G (40 + i)) (lval 20 fun i => G (60 + i))) (hu : Eqv (lval 20 U) u) (hb : ¬ b = 1)
    (h : Vals G2 (tw1 (lval 20 G) (lval 20 fun i => G (20 + i))) (tw2 (lval 20 G) (lval 20 fun i => G (20 + i))) (4 * bt1 (lval 20 G) (lval 20 fun i => G (20 + i)) (lval 20 fun i => G (40 + i)) (lval 20 fun i => G (60 + i))) (4 * bt2 (lval 20 U) (lval 20 G) (lval 20 fun i => G (20 + i)) (lval 20 fun i => G (40 + i)) (lval 20 fun i => G (60 + i)))) :
    Scaled (lstep u b s) (lval 20 G2) (lval 20 fun i => G2 (20 + i)) (lval 20 fun i => G2 (40 + i)) (lval 20 fun i => G2 (60 + i)) := hs.zero hu hb h.a h.b h.c h.d
theorem Vals.scaled1 {G G2 U : Nat → Int} {s : Pair} {u : Int} (hs : Scaled s (lval 20 G) (lval 20 fun i => G (20 + i)) (lval 20 fun i => G (40 + i)) (lval 20 fun i => G (60 + i))) (hu : Eqv (lval 20 U) u)
    (h : Vals G2 (tw1 (lval 20 fun j => G ((j + 40) % 80)) (lval 20 fun i => G ((20 + i + 40) % 80))) (tw2 (lval 20 fun j => G ((j + 40) % 80)) (lval 20 fun i => G ((20 + i + 40) % 80))) (4 * bt1 (lval 20 fun j => G ((j + 40) % 80)) (lval 20 fun i => G ((20 + i + 40) % 80)) (lval 20 fun i => G ((40 + i + 40) % 80)) (lval 20 fun i => G ((60 + i + 40) % 80))) (4 * bt2 (lval 20 U) (lval 20 fun j => G ((j + 40) % 80)) (lval 20 fun i => G ((20 + i + 40) % 80)) (lval 20 fun i => G ((40 + i + 40) % 80)) (lval 20 fun i => G ((60 + i + 40) % 80)))) :
    Scaled (lstep u 1 s) (lval 20 fun j => G2 ((j + 40) % 80)) (lval 20 fun i => G2 ((20 + i + 40) % 80)) (lval 20 fun i => G2 ((40 + i + 40) % 80)) (lval 20 fun i => G2 ((60 + i + 40) % 80)) := by
  obtain ⟨e0, e1, e2, e3⟩ := lval_swap G
  obtain ⟨f0, f1, f2, f3⟩ := lval_swap G2
  rw [f0, f1, f2, f3]
  rw [e0, e1, e2, e3] at h
  exact hs.one' hu h.a h.b h.c h.d

theorem bitOf_int (b : Nat → Int) (hb : ∀ i, i < 32 → 0 ≤ b i ∧ b i ≤ 255) (i : Int) (h0 : 0 ≤ i) (hi : i < 256) (w : World) :
    Calls Try.prog 79 #[.agg (tab .u8 32 b), .int .i64 i] w fun e w' => e = .returned (.int .u32 (bitAt b i.toNat)) ∧ Below w.heap.size w w' := by
  have := bitOf_any b hb i.toNat (by omega) w
  rw [show ((i.toNat : Nat) : Int) = i by omega] at this
  exact this

theorem tid4_four (U : Nat → Int) (h : Tidy U) : Tid4 (four one20 nil20 U one20) ∧ lval 20 (four one20 nil20 U one20) = 1 ∧ lval 20 (fun i => four one20 nil20 U one20 (20 + i)) = 0 ∧ lval 20 (fun i => four one20 nil20 U one20 (40 + i)) = lval 20 U ∧ lval 20 (fun i => four one20 nil20 U one20 (60 + i)) = 1 := by
  have t1 : Tidy one20 := ⟨fun i _ => by simp only [upd]; split <;> omega, fun i _ _ => by simp only [upd]; split <;> omega, by decide, by decide⟩
  have t0 : Tidy nil20 := ⟨fun i _ => by simp only [upd]; split <;> omega, fun i _ _ => by simp only [upd]; split <;> omega, by decide, by decide⟩
  have g0 : ∀ i, i < 20 → four one20 nil20 U one20 i = one20 i := fun i hi => by simp only [four, splice]; rw [if_neg (by omega), if_neg (by omega), if_neg (by omega), if_pos (by omega)]; congr 1
  have g1 : ∀ i, i < 20 → four one20 nil20 U one20 (20 + i) = nil20 i := fun i hi => by simp only [four, splice]; rw [if_neg (by omega), if_neg (by omega), if_pos (by omega)]; congr 1; omega
  have g2 : ∀ i, i < 20 → four one20 nil20 U one20 (40 + i) = U i := fun i hi => by simp only [four, splice]; rw [if_neg (by omega), if_pos (by omega)]; congr 1; omega
  have g3 : ∀ i, i < 20 → four one20 nil20 U one20 (60 + i) = one20 i := fun i hi => by simp only [four, splice]; rw [if_pos (by omega)]; congr 1; omega
  exact ⟨⟨Tidy_congr t1 g0, Tidy_congr t0 g1, Tidy_congr h g2, Tidy_congr t1 g3⟩, by rw [val_congr g0]; decide, by rw [val_congr g1]; decide, val_congr g2, by rw [val_congr g3]; decide⟩

set_option maxRecDepth 4000 in
set_option maxHeartbeats 8000000 in
theorem ladder_any (k p : Nat → Int) (hk : ∀ i, i < 32 → 0 ≤ k i ∧ k i ≤ 255) (hp : ∀ i, i < 32 → 0 ≤ p i ∧ p i ≤ 255) (w : World) :
    Calls Try.prog 70 #[.agg (tab .u8 32 k), .agg (tab .u8 32 p)] w fun e w' => ∃ b : Nat → Int, e = .returned (.agg (tab .u8 32 b)) ∧ (∀ i, i < 32 → 0 ≤ b i ∧ b i ≤ 255) ∧ bval 32 b = lout (bitAt k) (bsum p 255 % P25519) ∧ Below w.heap.size w w' := by
  have S0 : (((w.alloc (c32 k)).alloc (c32 p)).alloc z32).heap.size = w.heap.size + 1 + 1 + 1 := by simp
  have R0 : Rowz (((w.alloc (c32 k)).alloc (c32 p)).alloc z32) [(w.heap.size, tab .u8 32 k), (w.heap.size + 1, tab .u8 32 p), (w.heap.size + 1 + 1, tab .u8 32 (fun _ => 0))] := Rowz.cons (by simp [go_sem]) (by simp [tab_size]) (Rowz.cons (by simp [go_sem]) (by simp [tab_size]) (Rowz.cons (by simp [go_sem]) (by simp [tab_size]) (Rowz.nil _)))
  have W0 : Below w.heap.size w (((w.alloc (c32 k)).alloc (c32 p)).alloc z32) := (((Below.refl _ _).alloc (Nat.le_refl _) _).alloc (by simp) _).alloc (by simp; omega) _
  go_enter Try.func70, Try.ntmps70
  go_wp2_with (first
    | (refine wpl_load rt107 rfl _ rfl (w.heap.size + 1) rfl (tab .u8 32 p) ?_ (tab_size _ _ _) ?_; (focus (exact (R0 (w.heap.size + 1, tab .u8 32 p) (by simp)).1)))
    | (go_at_call 77; refine (fromBytes_any _ hp _).mono ?_; rintro e A1 ⟨U, rfl, tU, vU, hb1⟩; have hs1 := hb1.size; simp only [World.size_alloc] at hs1)
    | (refine wpl_store rt117 rfl _ _ rfl (A1.heap.size) rfl (tab .u32 20 U) rfl ?_ (tab_size _ _ _) (tab_all _ _ _) (A1.alloc (c20 U)) ?_ ?_; (focus (simp [go_sem]; done)); (focus (simp [go_sem]; done)); obtain ⟨VU, hV⟩ : ∃ V, V = A1.alloc (c20 U) := ⟨_, rfl⟩; have S1 : VU.heap.size = A1.heap.size + 1 := (by rw [hV]; simp); have R1 : Rowz VU [(A1.heap.size, tab .u32 20 U), (w.heap.size, tab .u8 32 k), (w.heap.size + 1 + 1, tab .u8 32 (fun _ => 0))] := (by rw [hV]; exact ((R0.below hb1).sub (m := [(w.heap.size, tab .u8 32 k), (w.heap.size + 1 + 1, tab .u8 32 (fun _ => 0))]) (by simp)).alloc _ _ (by simp [tab_size])); have W1 : Below w.heap.size w VU := (by rw [hV]; exact (below_lift W0 (by first | omega | (simp; omega)) hb1).alloc (by omega) _); rw [← hV]; clear hV))
  refine ladder_region ?_ U A1.heap.size rfl (R1 (A1.heap.size, tab .u32 20 U) (by simp)).1 ?_
  · simp [Act.put]
  intro gl V2 hb2 hgl hrow
  simp only [Act.put, List.setIfInBounds_toArray, List.set_cons_succ, List.set_cons_zero]
  have hu : Eqv (lval 20 U) (bsum p 255 % P25519) := by rw [vU]; exact (Eqv.mod _).symm
  have tf := tid4_four U tU
  have R2 : Rowz V2 [(gl, tab .u32 80 (four one20 nil20 U one20)), (w.heap.size, tab .u8 32 k), (w.heap.size + 1 + 1, tab .u8 32 (fun _ => 0)), (A1.heap.size, tab .u32 20 U)] := Rowz.cons hrow (by simp [tab_size]) ((R1.below hb2).sub (by simp))
  have W2 : Below w.heap.size w V2 := below_lift W1 (by omega) hb2
  have hs2 := hb2.size
  obtain ⟨gU, hgU⟩ : ∃ gU, gU = A1.heap.size := ⟨_, rfl⟩
  rw [← hgU] at R2 hs1 S1 ⊢
  clear hgU R1 W1 hb1 hb2 R0 W0 S0 hrow
  go_wp2
  go_loopw [7] (fun i wr => ∃ (j : Nat) (G : Nat → Int), j ≤ 256 ∧ i = .int .i64 (255 - (j : Int)) ∧ Tid4 G ∧ Scaled (lrun (bitAt k) (bsum p 255 % P25519) j) (lval 20 G) (lval 20 fun i => G (20 + i)) (lval 20 fun i => G (40 + i)) (lval 20 fun i => G (60 + i)) ∧ Rowz wr [(gl, tab .u32 80 G), (w.heap.size, tab .u8 32 k), (w.heap.size + 1 + 1, tab .u8 32 (fun _ => 0)), (gU, tab .u32 20 U)] ∧ Below w.heap.size w wr ∧ VU.heap.size ≤ wr.heap.size) (fun i _ => (intOf i + 1).toNat)
  case atStart => exact ⟨0, _, by omega, by simp, tf.1, ⟨⟨0, Eqv.of_eq (by rw [tf.2.1]; rfl), Eqv.of_eq (by rw [tf.2.2.1]; rfl)⟩, ⟨0, by rw [tf.2.2.2.1]; simp only [lrun]; exact hu.trans (Eqv.of_eq (by omega)), Eqv.of_eq (by rw [tf.2.2.2.2]; rfl)⟩⟩, R2, W2, hs2⟩
  case round =>
    clear tf R2 W2 hs2
    obtain ⟨j, G, hj, rfl, T0, SC, R0, Wr, Sr⟩ := hrel
    have bd0 := T0.bd
    by_cases hlt : j < 256
    · have c1 : (0:Int) ≤ 255 - j := by omega
      have ej : (255 - (j : Int)).toNat = 255 - j := by omega
      have HJ : Hid ((255 - (j : Int)).toNat = 255 - j) := ej
      clear ej
      by_cases hbit : bitAt k (255 - (j : Int)).toNat = 1
      · have T1 := T0.swap
        go_wp2_with (first
          | (refine wpl_load rt107 rfl _ rfl (w.heap.size) rfl (tab .u8 32 k) ?_ (tab_size _ _ _) ?_; (focus (exact (R0 (w.heap.size, tab .u8 32 k) (by simp)).1)))
          | (go_at_call 79; refine (bitOf_int _ hk _ (by omega) (by omega) _).mono ?_; rintro e A0 ⟨rfl, hb0⟩; have hs0 := hb0.size; have Q0 := R0.below hb0; have W0 := below_lift Wr (by omega) hb0; rw [hbit])
          | (refine wpl_load rt121 rfl _ rfl gl rfl (tab .u32 80 G) ?_ (tab_size _ _ _) ?_; (focus (exact (Q0 (gl, tab .u32 80 G) (by simp)).1)))
          | (go_at_call 80; refine (exchanged_yes _ ?_ _).mono ?_; (focus (with_reducible exact bd0)); rintro e A1 ⟨rfl, hb1⟩; have hs1 := hb1.size)
          | (refine wpl_store rt121 rfl _ _ rfl gl rfl (tab .u32 80 (fun j => G ((j + 40) % 80))) rfl ?_ (tab_size _ _ _) (tab_all _ _ _) (A1.setRow gl (tab .u32 80 (fun j => G ((j + 40) % 80)))) rfl ?_; (focus (rw [((Q0.below hb1) (gl, tab .u32 80 G) (by simp)).1]; exact tab_size _ _ _)); obtain ⟨V1, hV⟩ : ∃ V, V = A1.setRow gl (tab .u32 80 (fun j => G ((j + 40) % 80))) := ⟨_, rfl⟩; have S1 : V1.heap.size = A1.heap.size := (by rw [hV]; simp); have Q1 : Rowz V1 [(gl, tab .u32 80 (fun j => G ((j + 40) % 80))), (w.heap.size, tab .u8 32 k), (w.heap.size + 1 + 1, tab .u8 32 (fun _ => 0)), (gU, tab .u32 20 U)] := (by rw [hV]; exact ((Q0.below hb1).sub (m := [(w.heap.size, tab .u8 32 k), (w.heap.size + 1 + 1, tab .u8 32 (fun _ => 0)), (gU, tab .u32 20 U)]) (by simp)).setRow _ _ (tab .u32 80 G) (by simp [tab_size]) ((Q0.below hb1) (gl, tab .u32 80 G) (by simp)).1 (by simp [tab_size]) (by intro p hp; simp only [List.mem_cons, List.not_mem_nil, or_false] at hp; rcases hp with rfl | rfl | rfl <;> simp only <;> omega)); have W1 : Below w.heap.size w V1 := (by rw [hV]; exact below_setRow (below_lift W0 (by omega) hb1) (by omega) _); rw [← hV]; clear hV)
          | (refine wpl_load rt121 rfl _ rfl gl rfl (tab .u32 80 (fun j => G ((j + 40) % 80))) ?_ (tab_size _ _ _) ?_; (focus (exact (Q1 (gl, tab .u32 80 (fun j => G ((j + 40) % 80))) (by simp)).1)))
          | (refine wpl_load rt117 rfl _ rfl gU rfl (tab .u32 20 U) ?_ (tab_size _ _ _) ?_; (focus (exact (Q1 (gU, tab .u32 20 U) (by simp)).1)))
          | (go_at_call 81; refine (step_any _ _ ?_ tU _).mono ?_; (focus (with_reducible exact T1)); rintro e A2 ⟨G2, rfl, T2, E2', hb2⟩; have hs2 := hb2.size)
          | (refine wpl_store rt121 rfl _ _ rfl gl rfl (tab .u32 80 G2) rfl ?_ (tab_size _ _ _) (tab_all _ _ _) (A2.setRow gl (tab .u32 80 G2)) rfl ?_; (focus (rw [((Q1.below hb2) (gl, tab .u32 80 (fun j => G ((j + 40) % 80))) (by simp)).1]; exact tab_size _ _ _)); obtain ⟨V2, hV⟩ : ∃ V, V = A2.setRow gl (tab .u32 80 G2) := ⟨_, rfl⟩; have S2 : V2.heap.size = A2.heap.size := (by rw [hV]; simp); have Q2 : Rowz V2 [(gl, tab .u32 80 G2), (w.heap.size, tab .u8 32 k), (w.heap.size + 1 + 1, tab .u8 32 (fun _ => 0)), (gU, tab .u32 20 U)] := (by rw [hV]; exact ((Q1.below hb2).sub (m := [(w.heap.size, tab .u8 32 k), (w.heap.size + 1 + 1, tab .u8 32 (fun _ => 0)), (gU, tab .u32 20 U)]) (by simp)).setRow _ _ (tab .u32 80 (fun j => G ((j + 40) % 80))) (by simp [tab_size]) ((Q1.below hb2) (gl, tab .u32 80 (fun j => G ((j + 40) % 80))) (by simp)).1 (by simp [tab_size]) (by intro p hp; simp only [List.mem_cons, List.not_mem_nil, or_false] at hp; rcases hp with rfl | rfl | rfl <;> simp only <;> omega)); have W2 : Below w.heap.size w V2 := (by rw [hV]; exact below_setRow (below_lift W1 (by omega) hb2) (by omega) _); rw [← hV]; clear hV)
          | (refine wpl_load rt121 rfl _ rfl gl rfl (tab .u32 80 G2) ?_ (tab_size _ _ _) ?_; (focus (exact (Q2 (gl, tab .u32 80 G2) (by simp)).1)))
          | (go_at_call 80; refine (exchanged_yes _ ?_ _).mono ?_; (focus (with_reducible exact T2.bd)); rintro e A3 ⟨rfl, hb3⟩; have hs3 := hb3.size)
          | (refine wpl_store rt121 rfl _ _ rfl gl rfl (tab .u32 80 (fun j => G2 ((j + 40) % 80))) rfl ?_ (tab_size _ _ _) (tab_all _ _ _) (A3.setRow gl (tab .u32 80 (fun j => G2 ((j + 40) % 80)))) rfl ?_; (focus (rw [((Q2.below hb3) (gl, tab .u32 80 G2) (by simp)).1]; exact tab_size _ _ _)); obtain ⟨V3, hV⟩ : ∃ V, V = A3.setRow gl (tab .u32 80 (fun j => G2 ((j + 40) % 80))) := ⟨_, rfl⟩; have S3 : V3.heap.size = A3.heap.size := (by rw [hV]; simp); have Q3 : Rowz V3 [(gl, tab .u32 80 (fun j => G2 ((j + 40) % 80))), (w.heap.size, tab .u8 32 k), (w.heap.size + 1 + 1, tab .u8 32 (fun _ => 0)), (gU, tab .u32 20 U)] := (by rw [hV]; exact ((Q2.below hb3).sub (m := [(w.heap.size, tab .u8 32 k), (w.heap.size + 1 + 1, tab .u8 32 (fun _ => 0)), (gU, tab .u32 20 U)]) (by simp)).setRow _ _ (tab .u32 80 G2) (by simp [tab_size]) ((Q2.below hb3) (gl, tab .u32 80 G2) (by simp)).1 (by simp [tab_size]) (by intro p hp; simp only [List.mem_cons, List.not_mem_nil, or_false] at hp; rcases hp with rfl | rfl | rfl <;> simp only <;> omega)); have W3 : Below w.heap.size w V3 := (by rw [hV]; exact below_setRow (below_lift W2 (by omega) hb3) (by omega) _); rw [← hV]; clear hV))
        go_roundw
        case rel => exact ⟨j + 1, _, by omega, by go_num, T2.swap, by simp only [lrun]; rw [← HJ.out, hbit]; exact E2'.scaled1 SC hu, Q3, W3, by omega⟩
        case measure => simp [intOf]; omega
      · have h0 : bitAt k (255 - (j : Int)).toNat = 0 := by have := bitAt_01 k (255 - (j : Int)).toNat; omega
        have HN : Hid (¬ bitAt k (255 - (j : Int)).toNat = 1) := hbit
        clear hbit
        have hbit := h0
        clear h0
        have T1 := T0
        go_wp2_with (first
          | (refine wpl_load rt107 rfl _ rfl (w.heap.size) rfl (tab .u8 32 k) ?_ (tab_size _ _ _) ?_; (focus (exact (R0 (w.heap.size, tab .u8 32 k) (by simp)).1)))
          | (go_at_call 79; refine (bitOf_int _ hk _ (by omega) (by omega) _).mono ?_; rintro e A0 ⟨rfl, hb0⟩; have hs0 := hb0.size; have Q0 := R0.below hb0; have W0 := below_lift Wr (by omega) hb0; rw [hbit])
          | (refine wpl_load rt121 rfl _ rfl gl rfl (tab .u32 80 G) ?_ (tab_size _ _ _) ?_; (focus (exact (Q0 (gl, tab .u32 80 G) (by simp)).1)))
          | (go_at_call 80; refine (exchanged_no _ ?_ _).mono ?_; (focus (with_reducible exact bd0)); rintro e A1 ⟨rfl, hb1⟩; have hs1 := hb1.size)
          | (refine wpl_store rt121 rfl _ _ rfl gl rfl (tab .u32 80 G) rfl ?_ (tab_size _ _ _) (tab_all _ _ _) (A1.setRow gl (tab .u32 80 G)) rfl ?_; (focus (rw [((Q0.below hb1) (gl, tab .u32 80 G) (by simp)).1]; exact tab_size _ _ _)); obtain ⟨V1, hV⟩ : ∃ V, V = A1.setRow gl (tab .u32 80 G) := ⟨_, rfl⟩; have S1 : V1.heap.size = A1.heap.size := (by rw [hV]; simp); have Q1 : Rowz V1 [(gl, tab .u32 80 G), (w.heap.size, tab .u8 32 k), (w.heap.size + 1 + 1, tab .u8 32 (fun _ => 0)), (gU, tab .u32 20 U)] := (by rw [hV]; exact ((Q0.below hb1).sub (m := [(w.heap.size, tab .u8 32 k), (w.heap.size + 1 + 1, tab .u8 32 (fun _ => 0)), (gU, tab .u32 20 U)]) (by simp)).setRow _ _ (tab .u32 80 G) (by simp [tab_size]) ((Q0.below hb1) (gl, tab .u32 80 G) (by simp)).1 (by simp [tab_size]) (by intro p hp; simp only [List.mem_cons, List.not_mem_nil, or_false] at hp; rcases hp with rfl | rfl | rfl <;> simp only <;> omega)); have W1 : Below w.heap.size w V1 := (by rw [hV]; exact below_setRow (below_lift W0 (by omega) hb1) (by omega) _); rw [← hV]; clear hV)
          | (refine wpl_load rt121 rfl _ rfl gl rfl (tab .u32 80 G) ?_ (tab_size _ _ _) ?_; (focus (exact (Q1 (gl, tab .u32 80 G) (by simp)).1)))
          | (refine wpl_load rt117 rfl _ rfl gU rfl (tab .u32 20 U) ?_ (tab_size _ _ _) ?_; (focus (exact (Q1 (gU, tab .u32 20 U) (by simp)).1)))
          | (go_at_call 81; refine (step_any _ _ ?_ tU _).mono ?_; (focus (with_reducible exact T1)); rintro e A2 ⟨G2, rfl, T2, E2', hb2⟩; have hs2 := hb2.size)
          | (refine wpl_store rt121 rfl _ _ rfl gl rfl (tab .u32 80 G2) rfl ?_ (tab_size _ _ _) (tab_all _ _ _) (A2.setRow gl (tab .u32 80 G2)) rfl ?_; (focus (rw [((Q1.below hb2) (gl, tab .u32 80 G) (by simp)).1]; exact tab_size _ _ _)); obtain ⟨V2, hV⟩ : ∃ V, V = A2.setRow gl (tab .u32 80 G2) := ⟨_, rfl⟩; have S2 : V2.heap.size = A2.heap.size := (by rw [hV]; simp); have Q2 : Rowz V2 [(gl, tab .u32 80 G2), (w.heap.size, tab .u8 32 k), (w.heap.size + 1 + 1, tab .u8 32 (fun _ => 0)), (gU, tab .u32 20 U)] := (by rw [hV]; exact ((Q1.below hb2).sub (m := [(w.heap.size, tab .u8 32 k), (w.heap.size + 1 + 1, tab .u8 32 (fun _ => 0)), (gU, tab .u32 20 U)]) (by simp)).setRow _ _ (tab .u32 80 G) (by simp [tab_size]) ((Q1.below hb2) (gl, tab .u32 80 G) (by simp)).1 (by simp [tab_size]) (by intro p hp; simp only [List.mem_cons, List.not_mem_nil, or_false] at hp; rcases hp with rfl | rfl | rfl <;> simp only <;> omega)); have W2 : Below w.heap.size w V2 := (by rw [hV]; exact below_setRow (below_lift W1 (by omega) hb2) (by omega) _); rw [← hV]; clear hV)
          | (refine wpl_load rt121 rfl _ rfl gl rfl (tab .u32 80 G2) ?_ (tab_size _ _ _) ?_; (focus (exact (Q2 (gl, tab .u32 80 G2) (by simp)).1)))
          | (go_at_call 80; refine (exchanged_no _ ?_ _).mono ?_; (focus (with_reducible exact T2.bd)); rintro e A3 ⟨rfl, hb3⟩; have hs3 := hb3.size)
          | (refine wpl_store rt121 rfl _ _ rfl gl rfl (tab .u32 80 G2) rfl ?_ (tab_size _ _ _) (tab_all _ _ _) (A3.setRow gl (tab .u32 80 G2)) rfl ?_; (focus (rw [((Q2.below hb3) (gl, tab .u32 80 G2) (by simp)).1]; exact tab_size _ _ _)); obtain ⟨V3, hV⟩ : ∃ V, V = A3.setRow gl (tab .u32 80 G2) := ⟨_, rfl⟩; have S3 : V3.heap.size = A3.heap.size := (by rw [hV]; simp); have Q3 : Rowz V3 [(gl, tab .u32 80 G2), (w.heap.size, tab .u8 32 k), (w.heap.size + 1 + 1, tab .u8 32 (fun _ => 0)), (gU, tab .u32 20 U)] := (by rw [hV]; exact ((Q2.below hb3).sub (m := [(w.heap.size, tab .u8 32 k), (w.heap.size + 1 + 1, tab .u8 32 (fun _ => 0)), (gU, tab .u32 20 U)]) (by simp)).setRow _ _ (tab .u32 80 G2) (by simp [tab_size]) ((Q2.below hb3) (gl, tab .u32 80 G2) (by simp)).1 (by simp [tab_size]) (by intro p hp; simp only [List.mem_cons, List.not_mem_nil, or_false] at hp; rcases hp with rfl | rfl | rfl <;> simp only <;> omega)); have W3 : Below w.heap.size w V3 := (by rw [hV]; exact below_setRow (below_lift W2 (by omega) hb3) (by omega) _); rw [← hV]; clear hV))
        go_roundw
        case rel => exact ⟨j + 1, _, by omega, by go_num, T2, by simp only [lrun]; exact E2'.scaled0 SC hu (by rw [← HJ.out]; exact HN.out), Q3, W3, by omega⟩
        case measure => simp [intOf]; omega
    · have hj' : j = 256 := by omega
      subst hj'
      go_wp2_with (first
        | (refine wpl_load_seg rt117 rfl _ rfl gl 20 rfl .u32 80 G ?_ (by decide) ?_; (focus (exact (R0 (gl, tab .u32 80 G) (by simp)).1)))
        | (go_at_call 82; refine (inverse_any _ T0.b _).mono ?_; rintro e A2 ⟨inv, rfl, tinv, vinv, hb2⟩; have hs2 := hb2.size)
        | (refine wpl_store rt117 rfl _ _ rfl (A2.heap.size) rfl (tab .u32 20 inv) rfl ?_ (tab_size _ _ _) (tab_all _ _ _) (A2.alloc (c20 inv)) ?_ ?_; (focus (simp [go_sem]; done)); (focus (simp [go_sem]; done)); obtain ⟨V2, hV⟩ : ∃ V, V = A2.alloc (c20 inv) := ⟨_, rfl⟩; have S2 : V2.heap.size = A2.heap.size + 1 := (by rw [hV]; simp); have R2 : Rowz V2 [(A2.heap.size, tab .u32 20 inv), (gl, tab .u32 80 G), (w.heap.size + 1 + 1, tab .u8 32 (fun _ => 0))] := (by rw [hV]; exact ((R0.below hb2).sub (m := [(gl, tab .u32 80 G), (w.heap.size + 1 + 1, tab .u8 32 (fun _ => 0))]) (by simp)).alloc _ _ (by simp [tab_size])); have W2 : Below w.heap.size w V2 := (by rw [hV]; exact (below_lift Wr (by omega) hb2).alloc (by omega) _); rw [← hV]; clear hV)
        | (refine wpl_load_seg rt117 rfl _ rfl gl 0 rfl .u32 80 G ?_ (by decide) ?_; (focus (exact (R2 (gl, tab .u32 80 G) (by simp)).1)))
        | (refine wpl_load rt117 rfl _ rfl (A2.heap.size) rfl (tab .u32 20 inv) ?_ (tab_size _ _ _) ?_; (focus (exact (R2 (A2.heap.size, tab .u32 20 inv) (by simp)).1)))
        | (go_at_call 83; refine (times_any _ _ T0.a tinv _).mono ?_; rintro e A3 ⟨xx, rfl, txx, vxx, hb3⟩; have hs3 := hb3.size)
        | (refine wpl_store rt117 rfl _ _ rfl (A3.heap.size) rfl (tab .u32 20 xx) rfl ?_ (tab_size _ _ _) (tab_all _ _ _) (A3.alloc (c20 xx)) ?_ ?_; (focus (simp [go_sem]; done)); (focus (simp [go_sem]; done)); obtain ⟨V3, hV⟩ : ∃ V, V = A3.alloc (c20 xx) := ⟨_, rfl⟩; have S3 : V3.heap.size = A3.heap.size + 1 := (by rw [hV]; simp); have R3 : Rowz V3 [(A3.heap.size, tab .u32 20 xx), (w.heap.size + 1 + 1, tab .u8 32 (fun _ => 0))] := (by rw [hV]; exact ((R2.below hb3).sub (m := [(w.heap.size + 1 + 1, tab .u8 32 (fun _ => 0))]) (by simp)).alloc _ _ (by simp [tab_size])); have W3 : Below w.heap.size w V3 := (by rw [hV]; exact (below_lift W2 (by omega) hb3).alloc (by omega) _); rw [← hV]; clear hV)
        | (refine wpl_load rt117 rfl _ rfl (A3.heap.size) rfl (tab .u32 20 xx) ?_ (tab_size _ _ _) ?_; (focus (exact (R3 (A3.heap.size, tab .u32 20 xx) (by simp)).1)))
        | (go_at_call 84; refine (bytes_any _ txx _).mono ?_; rintro e A4 ⟨b, rfl, bb, vb, hb4⟩; have hs4 := hb4.size)
        | (refine wpl_store rt107 rfl _ _ rfl (w.heap.size + 1 + 1) rfl (tab .u8 32 b) rfl ?_ (tab_size _ _ _) (tab_all _ _ _) (A4.setRow (w.heap.size + 1 + 1) (tab .u8 32 b)) rfl ?_; (focus (rw [((R3.below hb4) (w.heap.size + 1 + 1, tab .u8 32 (fun _ => 0)) (by simp)).1]; exact tab_size _ _ _))))
      have hr4 := ((R3.below hb4) (w.heap.size + 1 + 1, tab .u8 32 (fun _ => 0)) (by simp)).1
      have hr5 : 0 < (A4.rowOf (w.heap.size + 1 + 1)).size := by rw [hr4, tab_size]; omega
      refine bodyPost_ret (v := .agg (tab .u8 32 b)) (by rw [results_row rt107 Try.results70 _ _ (w.heap.size + 1 + 1) rfl (by rw [rowOf_setRow_same hr5]; exact tab_size _ _ _), rowOf_setRow_same hr5]) rfl ⟨b, rfl, bb, ?_, below_setRow (below_lift W3 (by omega) hb4) (by omega) _⟩
      rw [vb]
      have v1 : Eqv (lval 20 xx) (lval 20 G * lval 20 inv) := vxx
      have v2 : Eqv (lval 20 inv) ((lval 20 fun i => G (20 + i)) ^ E2) := vinv
      exact (v1.trans ((Eqv.refl _).mul v2)).trans SC.out
end Go.Proofs.Ytogkchcclcbobaa
