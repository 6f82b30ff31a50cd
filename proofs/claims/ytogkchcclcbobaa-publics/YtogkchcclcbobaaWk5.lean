/- The walks of the document's own answer: the side that bytes are. -/
import Derived.Test.YtogkchcclcbobaaWk4
import Derived.Deep.Cut
namespace Go.Proofs.Ytogkchcclcbobaa
open Go.RowKit Go.Msg
theorem side_all (x0 x1 x2 y0 y1 y2 : ByteArray) (n0 n1 n2 : Int) {vS vP vD : Value} (oS : vS.oneCell' = true) (oP : vP.oneCell' = true) (oD : vD.oneCell' = true) : (sideOf x0 x1 x2 y0 y1 y2 n0 n1 n2 vS vP vD).all (·.oneCell') = true := by
  rw [← Array.all_toList]
  simp only [sideOf, List.all_cons, List.all_nil, oS, oP, oD]
  rfl
set_option maxRecDepth 20000 in
set_option maxHeartbeats 8000000 in
theorem rwoken_any (s : ByteArray) (w : World) :
    Calls Try.prog 34 #[.string s] w fun e w' => ∃ c q, e = .returned (.tuple #[.agg c, .bool q]) ∧ c.size = 12 ∧ c.all (·.oneCell') = true ∧ Below w.heap.size w w' := by
  have qM := mk3
  go_enter Try.func34, Try.ntmps34
  obtain ⟨W0, hW0⟩ : ∃ W, W = ((w.alloc (.cells side0 50)).alloc (.cells #[.string s, .int .i64 0, .bool true] 84)).alloc (.cells side0 50) := ⟨_, rfl⟩
  have I0 : WI w W0 s 0 side0 := by
    rw [hW0]
    refine ⟨by simp [go_sem], ⟨0, true, by omega, by omega, by simp [go_sem], by simp [go_sem], by simp [go_sem], by simp [go_sem], by simp [go_sem], by simp [go_sem]⟩, by simp [go_sem], rfl, ((by_alloc2 _ _ _).alloc (by simp; omega) _), by simp⟩
  go_wp2_with (first
    | (refine wpl_store rtSide rfl _ _ rfl (w.heap.size + 1 + 1) rfl _ rfl ?_ ?_ ?_ W0 ?_ ?_; (focus (simp [go_sem]; done)); (focus rfl); (focus (simp [Value.oneCell']; done)); (focus (rw [hW0, World.setRow_alloc_at _ _ _ _ _ (by simp)]; rfl)); clear hW0)
    | (go_at_call 45; have M := cut2 (w.heap.size + 1) s 0 (by omega) W0 I0.sh; with_reducible refine M.mono ?_; clear M; rintro e W1 ⟨t1, rfl, ht1, hs1, hb1⟩; have I1 := I0.cut hs1 hb1; clear I0 hs1 hb1 ht1)
    | (go_at_call 45; have M := cut32 (w.heap.size + 1) s 2 (by omega) W1 I1.sh; with_reducible refine M.mono ?_; clear M; rintro e W2 ⟨x0, rfl, hx0, hs2, hb2⟩; have I2 := I1.cut hs2 hb2; have f0 := rowcell I2.rx 0 (.string ⟨#[]⟩) rfl; have z0 := rowfz I2.rx 0 (by decide); clear I1 hs2 hb2)
    | (go_at_call 45; have J := I2.store 0 (.string x0); (have M := cut32 (w.heap.size + 1) s _ (by omega) _ J.sh; with_reducible refine M.mono ?_; clear M); rintro e W3 ⟨x1, rfl, hx1, hs3, hb3⟩; (have I3 : WI w W3 s 66 (sideOf x0 ⟨#[]⟩ ⟨#[]⟩ ⟨#[]⟩ ⟨#[]⟩ ⟨#[]⟩ 0 0 0 (.slice none 0 0) (.slice none 0 0) (.slice none 0 0)) := J.cut hs3 hb3); (have f1 := rowcell I3.rx 1 (.string ⟨#[]⟩) rfl); have z1 := rowfz I3.rx 1 (by rw [I3.cs]; omega); clear I2 J hs3 hb3 f0 z0)
    | fail)
  have I4 : WI w ((W3.setCell ⟨w.heap.size + 1 + 1, 1, none⟩ (.string x1)).alloc (.cells (stab 3 (fun _ => ⟨#[]⟩)) 9)) s 66 (sideOf x0 x1 ⟨#[]⟩ ⟨#[]⟩ ⟨#[]⟩ ⟨#[]⟩ 0 0 0 (.slice none 0 0) (.slice none 0 0) (.slice none 0 0)) := (I3.store 1 (.string x1)).below (by_alloc _ _)
  have RL : ((W3.setCell ⟨w.heap.size + 1 + 1, 1, none⟩ (.string x1)).alloc (.cells (stab 3 (fun _ => ⟨#[]⟩)) 9)).rowOf W3.heap.size = stab 3 (fun _ => ⟨#[]⟩) := rowOf_new _ _ _ _ (by simp)
  generalize (W3.setCell ⟨w.heap.size + 1 + 1, 1, none⟩ (.string x1)).alloc (.cells (stab 3 (fun _ => ⟨#[]⟩)) 9) = W4 at *
  have hL := I3.sz
  generalize W3.heap.size = L at *
  clear I3 f1 z1 qM
  go_loopw [7] (fun i wq => ∃ (k : Nat) (f : Nat → ByteArray), i = .int .i64 k ∧ k ≤ 3 ∧ WI w wq s (66 + 33 * k) (sideOf x0 x1 ⟨#[]⟩ ⟨#[]⟩ ⟨#[]⟩ ⟨#[]⟩ 0 0 0 (.slice none 0 0) (.slice none 0 0) (.slice none 0 0)) ∧ wq.rowOf L = stab 3 f ∧ ∀ i, (f i).size ≤ 32) (fun i _ => 3 - (intOf i).toNat)
  case atStart => exact ⟨0, _, rfl, by omega, I4, RL, fun _ => by decide⟩
  case round =>
    clear I4 RL
    obtain ⟨k, f, rfl, hk, I4, RL, hf⟩ := hrel
    by_cases hlt : k < 3
    · have c1 : (k : Int) < 3 := by omega
      have g1 : (stab 3 f)[k]? = some (.string (f k)) := stab_get _ _ _ hlt
      have G1 : Hid _ := g1
      clear g1
      go_wp2_with (first
        | (go_at_call 46; (have M := cnt1 (w.heap.size + 1) s _ (by omega) _ I4.sh; with_reducible refine M.mono ?_; clear M); rintro e W5 ⟨v5, rfl, hv5, hs5, hb5⟩; (have I5 := I4.cut hs5 hb5); (have RL5 : W5.rowOf L = stab 3 f := (by rw [hb5.row (by omega) (by rw [RL, stab_size]; omega), RL])); clear hs5 hb5)
        | (go_at_call 45; (have M := cut32 (w.heap.size + 1) s _ (by omega) _ I5.sh; with_reducible refine M.mono ?_; clear M); rintro e W6 ⟨t6, rfl, ht6, hs6, hb6⟩; (have I6 := I5.cut hs6 hb6); (have RL6 : W6.rowOf L = stab 3 f := (by rw [hb6.row (by omega) (by rw [RL5, stab_size]; omega), RL5])); (have f6 := rowcell RL6 k _ G1.out); (have z6 := rowfz RL6 k (by rw [stab_size]; exact hlt)); clear hs6 hb6)
        | fail)
      all_goals go_roundw
      all_goals first
        | (simp [intOf]; omega)
        | exact ⟨k + 1, f, by go_num, by omega, I5.mono (by omega), RL5, hf⟩
        | exact ⟨k + 1, supd f k t6, by go_num, by omega, (I6.other (But.set W6 ⟨L, k, none⟩ _) hL).mono (by omega), by rw [row_set RL6 (by rw [stab_size]; omega), stab_set], supd_le hf (by omega)⟩
    · have hk' : k = 3 := by omega
      subst hk'
      rw [show ((3 : Nat) : Int) = 3 from rfl]
      have l0 := rowcell RL 0 (.string (f 0)) (stab_get _ _ _ (by omega))
      have l1 := rowcell RL 1 (.string (f 1)) (stab_get _ _ _ (by omega))
      have l2 := rowcell RL 2 (.string (f 2)) (stab_get _ _ _ (by omega))
      have f3 := rowcell I4.rx 3 (.string ⟨#[]⟩) rfl
      have f4 := rowcell I4.rx 4 (.string ⟨#[]⟩) rfl
      have f5 := rowcell I4.rx 5 (.string ⟨#[]⟩) rfl
      have z3 := rowfz I4.rx 3 (by rw [I4.cs]; omega)
      have z4 := rowfz I4.rx 4 (by rw [I4.cs]; omega)
      have z5 := rowfz I4.rx 5 (by rw [I4.cs]; omega)
      have hLX : L ≠ w.heap.size + 1 + 1 := by omega
      have J5 : WI w (((wr.setCell ⟨w.heap.size + 1 + 1, 3, none⟩ (.string (f 0))).setCell ⟨w.heap.size + 1 + 1, 4, none⟩ (.string (f 1))).setCell ⟨w.heap.size + 1 + 1, 5, none⟩ (.string (f 2))) s 165 (sideOf x0 x1 ⟨#[]⟩ (f 0) (f 1) (f 2) 0 0 0 (.slice none 0 0) (.slice none 0 0) (.slice none 0 0)) := ((I4.store 3 (.string (f 0))).store 4 (.string (f 1))).store 5 (.string (f 2))
      generalize hy0 : f 0 = y0 at *
      generalize hy1 : f 1 = y1 at *
      generalize hy2 : f 2 = y2 at *
      have h0 : y0.size ≤ 32 := by rw [← hy0]; exact hf 0
      have h1 : y1.size ≤ 32 := by rw [← hy1]; exact hf 1
      have h2 : y2.size ≤ 32 := by rw [← hy2]; exact hf 2
      have HJ5 : Hid _ := J5
      clear hy0 hy1 hy2 hf RL I4 J5
      obtain ⟨W4', hW4'⟩ : ∃ W, W = wr := ⟨_, rfl⟩
      subst hW4'
      go_wp2_with (first
        | (go_at_call 47; (have J : WI w _ s 165 _ := HJ5.out); (have M := up300 (w.heap.size + 1) s _ (by omega) _ J.sh; with_reducible refine M.mono ?_; clear M); rintro e W7 ⟨n0, rfl, hn0, hs7, hb7⟩; (have I7 := J.cut hs7 hb7); (have f6 := rowcell I7.rx 6 (.int .i64 0) rfl); (have z6 := rowfz I7.rx 6 (by rw [I7.cs]; omega)); clear hs7 hb7 HJ5 J l0 l1 l2 f3 f4 f5 z3 z4 z5)
        | (go_at_call 47; (have J := I7.store 6 (.int .i64 (n0 : Int))); (have M := up300 (w.heap.size + 1) s _ (by omega) _ J.sh; with_reducible refine M.mono ?_; clear M); rintro e W8 ⟨n1, rfl, hn1, hs8, hb8⟩; (have I8 := J.cut hs8 hb8); (have f7 := rowcell I8.rx 7 (.int .i64 0) rfl); (have z7 := rowfz I8.rx 7 (by rw [I8.cs]; omega)); clear hs8 hb8 J I7 f6 z6)
        | (go_at_call 47; (have J := I8.store 7 (.int .i64 (n1 : Int))); (have M := up300 (w.heap.size + 1) s _ (by omega) _ J.sh; with_reducible refine M.mono ?_; clear M); rintro e W9 ⟨n2, rfl, hn2, hs9, hb9⟩; (have I9 := J.cut hs9 hb9); (have f8 := rowcell I9.rx 8 (.int .i64 0) rfl); (have z8 := rowfz I9.rx 8 (by rw [I9.cs]; omega)); clear hs9 hb9 J I8 f7 z7)
        | (go_at_call 46; (have J := I9.store 8 (.int .i64 (n2 : Int))); (have M := cnt32 (w.heap.size + 1) s _ (by omega) _ J.sh; with_reducible refine M.mono ?_; clear M); rintro e WA ⟨nS, rfl, hnS, hsA, hbA⟩; (have IA : WI w WA s 172 (sideOf x0 x1 ⟨#[]⟩ y0 y1 y2 n0 n1 n2 (.slice none 0 0) (.slice none 0 0) (.slice none 0 0)) := J.cut hsA hbA); clear hsA hbA J I9 f8 z8)
        | fail)
      clear hLX
      have sA := IA.sz
      go_loopw [10] (fun i wq => ∃ (k : Nat) (vS : Value) (xs : List Value), i = .int .i64 k ∧ k ≤ nS ∧ WI w wq s (172 + 66 * k) (sideOf x0 x1 ⟨#[]⟩ y0 y1 y2 n0 n1 n2 vS (.slice none 0 0) (.slice none 0 0)) ∧ wq.ownsRow WA.heap.size 88 3 vS k xs ∧ SavedL xs k ∧ WA.heap.size ≤ wq.heap.size) (fun i _ => nS - (intOf i).toNat)
      case atStart => exact ⟨0, _, [], rfl, by omega, IA, World.ownsRow_nil _ _ _ _, fun i hi => by omega, Nat.le_refl _⟩
      case round =>
        clear IA
        obtain ⟨k, vS, xs, rfl, hk, I, hown, hS, hz⟩ := hrel
        by_cases hlt : k < nS
        · have c1 : (k : Int) < nS := by omega
          go_wp2_with (first
            | (go_at_call 45; (have M := cut32 (w.heap.size + 1) s _ (by omega) _ I.sh; with_reducible refine M.mono ?_; clear M); rintro e W5 ⟨p, rfl, hp, hs5, hb5⟩; (have I5 := I.cut hs5 hb5); (have O5 := own_but hown hb5 (by omega)); have s5 := hb5.size; clear hs5 hb5)
            | (go_at_call 47; (have M := up299 (w.heap.size + 1) s _ (by omega) _ I5.sh; with_reducible refine M.mono ?_; clear M); rintro e W6 ⟨v, rfl, hv, hs6, hb6⟩; (have I6 := I5.cut hs6 hb6); (have O6 := own_but O5 hb6 (by omega)); have s6 := hb6.size; clear hs6 hb6)
            | (go_at_call 45; (have M := cut32 (w.heap.size + 1) s _ (by omega) _ I6.sh; with_reducible refine M.mono ?_; clear M); rintro e W7 ⟨ky, rfl, hky, hs7, hb7⟩; (have I7 := I6.cut hs7 hb7); (have O7 := own_but O6 hb7 (by omega)); have s7 := hb7.size; (have f9 := rowcell I7.rx 9 vS rfl); (have z9 := rowfz I7.rx 9 (by rw [I7.cs]; omega)); clear hs7 hb7)
            | (at_builtin; refine wpl_appendG Try.underlying48 iSaved (by omega) (by omega) rfl _ _ rfl WA.heap.size vS k xs rfl ?_ W7.heap.size [.string p, .int .i64 (v : Int), .string ky] rfl rfl ?_ ?_ (by omega) ?_ ?_; (focus (exact O7.alloc _)); (focus (intro j u hj; exact rowcell (rowOf_new _ _ _ _ rfl) j u (by simpa using hj))); (focus (intro u hu; simp at hu; rcases hu with rfl | rfl | rfl <;> rfl)); (focus (simp; omega)); intro v' w' hown2 hbel' hsz'; obtain ⟨g2, cap2, rfl⟩ := own_isS hown2 (by omega); (have hb8 := hbel' _ ((Below.refl WA.heap.size W7).alloc (by omega) (.cells #[.string p, .int .i64 (v : Int), .string ky] 88))); (have I8 := I7.up hb8 (by omega)); (have f9' := rowcell I8.rx 9 vS rfl); (have z9' := rowfz I8.rx 9 (by rw [I8.cs]; omega)))
            | fail)
          go_roundw
          case rel => exact ⟨k + 1, _, _, by go_num, by omega, (I8.store 9 _).mono (by omega), own_but hown2 (But.set w' ⟨w.heap.size + 1 + 1, 9, none⟩ _) (by simp; omega), hS.snoc hown.1 p ky v (by omega) (by omega), by simp at hsz' ⊢; omega⟩
          case measure => simp [intOf]; omega
        · have hk' : k = nS := by omega
          subst hk'
          have I' := I.mono (show 172 + 66 * k ≤ 3000 by omega)
          clear I
          obtain ⟨WB, hWB⟩ : ∃ W, W = wr := ⟨_, rfl⟩
          subst hWB
          go_wp2_with (first
            | (go_at_call 46; (have M := cnt24 (w.heap.size + 1) s _ (by omega) _ I'.sh; with_reducible refine M.mono ?_; clear M); rintro e WC ⟨nP, rfl, hnP, hsC, hbC⟩; (have IC := I'.cut hsC hbC); (have OC := own_but hown hbC (by omega)); have sC := hbC.size; clear hsC hbC hown I')
            | fail)
          have sC2 := IC.sz
          go_loopw [14] (fun i wq => ∃ (j : Nat) (vP : Value) (ys : List Value), i = .int .i64 j ∧ j ≤ nP ∧ WI w wq s (3001 + 32 * j) (sideOf x0 x1 ⟨#[]⟩ y0 y1 y2 n0 n1 n2 vS vP (.slice none 0 0)) ∧ wq.ownsRow WC.heap.size 9 1 vP j ys ∧ StrL ys j ∧ WC.heap.size ≤ wq.heap.size ∧ Mid WA.heap.size WC.heap.size WC wq) (fun i _ => nP - (intOf i).toNat)
          case atStart => exact ⟨0, _, [], rfl, by omega, IC, World.ownsRow_nil _ _ _ _, fun i hi => by omega, Nat.le_refl _, Mid.refl _ _ _⟩
          case round =>
            clear IC
            obtain ⟨j, vP, ys, rfl, hj, I, hown, hY, hz2, hM⟩ := hrel
            by_cases hlt2 : j < nP
            · have c1 : (j : Int) < nP := by omega
              go_wp2_with (first
                | (go_at_call 45; (have M := cut32 (w.heap.size + 1) s _ (by omega) _ I.sh; with_reducible refine M.mono ?_; clear M); rintro e W7 ⟨p, rfl, hp, hs7, hb7⟩; (have I7 := I.cut hs7 hb7); (have O7 := own_but hown hb7 (by omega)); have s7 := hb7.size; (have M7 := hM.but hb7 (by omega) hz2); (have f9 := rowcell I7.rx 10 vP rfl); (have z9 := rowfz I7.rx 10 (by rw [I7.cs]; omega)); clear hs7 hb7)
                | (at_builtin; refine wpl_appendG Try.underlying31 iStr (by omega) (by omega) rfl _ _ rfl WC.heap.size vP j ys rfl ?_ W7.heap.size [.string p] rfl rfl ?_ ?_ (by omega) ?_ ?_; (focus (exact O7.alloc _)); (focus (intro j u hj; exact rowcell (rowOf_new _ _ _ _ rfl) j u (by simpa using hj))); (focus (intro u hu; simp at hu; subst hu; rfl)); (focus (simp; omega)); intro v' w' hown2 hbel' hsz'; obtain ⟨g2, cap2, rfl⟩ := own_isS hown2 (by omega); (have hb8 := hbel' _ ((Below.refl WC.heap.size W7).alloc (by omega) (.cells #[.string p] 9))); (have I8 := I7.up hb8 (by omega)); (have M8 := M7.up hb8 (Nat.le_refl _)); (have f9' := rowcell I8.rx 10 vP rfl); (have z9' := rowfz I8.rx 10 (by rw [I8.cs]; omega)))
                | fail)
              go_roundw
              case rel => exact ⟨j + 1, _, _, by go_num, by omega, (I8.store 10 _).mono (by omega), own_but hown2 (But.set w' ⟨w.heap.size + 1 + 1, 10, none⟩ _) (by simp; omega), hY.snoc hown.1 p (by omega), by simp at hsz' ⊢; omega, M8.but (But.set w' ⟨w.heap.size + 1 + 1, 10, none⟩ _) (by simp; omega) (by simp at hsz'; omega)⟩
              case measure => simp [intOf]; omega
            · have hj' : j = nP := by omega
              subst hj'
              have I' := I.mono (show 3001 + 32 * j ≤ 4000 by omega)
              have OS := own_mid OC hM (Nat.le_refl _)
              clear I OC hM
              obtain ⟨WD0, hWD0⟩ : ∃ W, W = wr := ⟨_, rfl⟩
              subst hWD0
              go_wp2_with (first
                | (go_at_call 46; (have M := cnt8 (w.heap.size + 1) s _ (by omega) _ I'.sh; with_reducible refine M.mono ?_; clear M); rintro e WD ⟨nD, rfl, hnD, hsD, hbD⟩; (have ID := I'.cut hsD hbD); (have OS2 := own_but OS hbD (by omega)); (have OP2 := own_but hown hbD (by omega)); have sD := hbD.size; clear hsD hbD hown OS I')
                | fail)
              have sD2 := ID.sz
              go_loopw [16] (fun i wq => ∃ (l : Nat) (vD : Value) (zs : List Value), i = .int .i64 l ∧ l ≤ nD ∧ WI w wq s (4001 + 32 * l) (sideOf x0 x1 ⟨#[]⟩ y0 y1 y2 n0 n1 n2 vS vP vD) ∧ wq.ownsRow WD.heap.size 9 1 vD l zs ∧ StrL zs l ∧ WD.heap.size ≤ wq.heap.size ∧ Mid WA.heap.size WD.heap.size WD wq) (fun i _ => nD - (intOf i).toNat)
              case atStart => exact ⟨0, _, [], rfl, by omega, ID, World.ownsRow_nil _ _ _ _, fun i hi => by omega, Nat.le_refl _, Mid.refl _ _ _⟩
              case round =>
                clear ID
                obtain ⟨l, vD, zs, rfl, hl, I, hown, hZ, hz3, hM⟩ := hrel
                by_cases hlt3 : l < nD
                · have c1 : (l : Int) < nD := by omega
                  go_wp2_with (first
                    | (go_at_call 45; (have M := cut32 (w.heap.size + 1) s _ (by omega) _ I.sh; with_reducible refine M.mono ?_; clear M); rintro e W7 ⟨p, rfl, hp, hs7, hb7⟩; (have I7 := I.cut hs7 hb7); (have O7 := own_but hown hb7 (by omega)); have s7 := hb7.size; (have M7 := hM.but hb7 (by omega) hz3); (have f9 := rowcell I7.rx 11 vD rfl); (have z9 := rowfz I7.rx 11 (by rw [I7.cs]; omega)); clear hs7 hb7)
                    | (at_builtin; refine wpl_appendG Try.underlying31 iStr (by omega) (by omega) rfl _ _ rfl WD.heap.size vD l zs rfl ?_ W7.heap.size [.string p] rfl rfl ?_ ?_ (by omega) ?_ ?_; (focus (exact O7.alloc _)); (focus (intro j u hj; exact rowcell (rowOf_new _ _ _ _ rfl) j u (by simpa using hj))); (focus (intro u hu; simp at hu; subst hu; rfl)); (focus (simp; omega)); intro v' w' hown2 hbel' hsz'; obtain ⟨g2, cap2, rfl⟩ := own_isS hown2 (by omega); (have hb8 := hbel' _ ((Below.refl WD.heap.size W7).alloc (by omega) (.cells #[.string p] 9))); (have I8 := I7.up hb8 (by omega)); (have M8 := M7.up hb8 (Nat.le_refl _)); (have f9' := rowcell I8.rx 11 vD rfl); (have z9' := rowfz I8.rx 11 (by rw [I8.cs]; omega)))
                    | fail)
                  go_roundw
                  case rel => exact ⟨l + 1, _, _, by go_num, by omega, (I8.store 11 _).mono (by omega), own_but hown2 (But.set w' ⟨w.heap.size + 1 + 1, 11, none⟩ _) (by simp; omega), hZ.snoc hown.1 p (by omega), by simp at hsz' ⊢; omega, M8.but (But.set w' ⟨w.heap.size + 1 + 1, 11, none⟩ _) (by simp; omega) (by simp at hsz'; omega)⟩
                  case measure => simp [intOf]; omega
                · have hl' : l = nD := by omega
                  subst hl'
                  have OS3 := own_mid OS2 hM (Nat.le_refl _)
                  have OP3 := own_mid OP2 (hM.sub (by omega)) (Nat.le_refl _)
                  have aS := hS.at OS3
                  have aP := hY.at OP3
                  have aD := hZ.at hown
                  clear OS2 OP2 OS3 OP3 hown hM hS hY hZ
                  go_upto_region 40 with (first
                      | (refine wpl_load rtSide rfl _ rfl (w.heap.size + 1 + 1) rfl _ I.rx I.cs ?_)
                      | (go_at_call 40; refine (kept_any x0 x1 ⟨#[]⟩ y0 y1 y2 n0 n1 n2 vS vP vD k j l _ (by omega) (by omega) h0 h1 h2 aS aP aD (by omega) (by omega) (by omega)).mono ?_; rintro e WE ⟨t, rfl, hbE⟩; (have IE := I.below hbE); clear hbE I))
                  obtain ⟨kk, ok, hkk, hks, q0, q1, q2, r0, r1, r2⟩ := IE.sh
                  have rrE := IE.rr
                  have BE := IE.bl
                  have f1 := rowcell IE.rx 1 (.string x1) rfl
                  have f2 := rowcell IE.rx 2 (.string ⟨#[]⟩) rfl
                  have f3 := rowcell IE.rx 3 (.string y0) rfl
                  have f5 := rowcell IE.rx 5 (.string y2) rfl
                  have g2 := rowfz IE.rx 2 (by rw [IE.cs]; omega)
                  clear hkk hks q0 q1 r0 r1 r2
                  have oS : vS.oneCell' = true := by obtain ⟨_, _, _, rfl, _⟩ := aS; rfl
                  have oP : vP.oneCell' = true := by obtain ⟨_, _, _, rfl, _⟩ := aP; rfl
                  have oD : vD.oneCell' = true := by obtain ⟨_, _, _, rfl, _⟩ := aD; rfl
                  clear aS aP aD
                  cases ok with
                  | false =>
                    go_upto_region 41 with fail
                    go_wp2_with (refine wpl_store rtSide rfl _ _ rfl w.heap.size rfl _ rfl ?_ ?_ ?_ _ rfl ?_; (focus (rw [rrE]; rfl)); (focus rfl); (focus (simp [Value.oneCell']; done)))
                    refine bodyPost_ret (results_row_tmp rtSide Try.results34 _ _ w.heap.size rfl ?_) rfl ?_
                    · rw [rowOf_setRow_same (by rw [rrE]; decide)]; rfl
                    · rw [rowOf_setRow_same (by rw [rrE]; decide)]; exact ⟨_, _, rfl, rfl, by simp [Value.oneCell'], below_setRow BE (Nat.le_refl _) _⟩
                  | true =>
                    by_cases hts : t.toList = s.toList
                    · by_cases hy2 : y2.toList = []
                      · have hy2' : y2.toList.isEmpty = true := by rw [hy2]; rfl
                        go_upto_region 42 with fail
                        go_wp2_with (first
                          | (go_at_call 32; refine (rpublic_any x1 hx1 _).mono ?_; rintro e WF ⟨pk, rfl, hpk, hbF⟩; (have IF := IE.below hbF); (have f2F := rowcell IF.rx 2 (.string ⟨#[]⟩) rfl); (have g2F := rowfz IF.rx 2 (by rw [IF.cs]; omega)); (have IG : WI w _ s _ (sideOf x0 x1 pk y0 y1 y2 n0 n1 n2 vS vP vD) := IF.store 2 (.string pk)))
                          | (refine wpl_load rtSide rfl _ rfl (w.heap.size + 1 + 1) rfl _ IG.rx IG.cs ?_)
                          | (refine wpl_store rtSide rfl _ _ rfl w.heap.size rfl _ rfl ?_ ?_ ?_ _ rfl ?_; (focus (rw [IG.rr]; rfl)); (focus (exact IG.cs)); (focus (exact side_all _ _ _ _ _ _ _ _ _ oS oP oD)))
                          | fail)
                        refine bodyPost_ret (results_row_tmp rtSide Try.results34 _ _ w.heap.size rfl ?_) rfl ?_
                        · rw [rowOf_setRow_same (by rw [IG.rr]; decide)]; exact IG.cs
                        · rw [rowOf_setRow_same (by rw [IG.rr]; decide)]; exact ⟨_, _, rfl, IG.cs, side_all _ _ _ _ _ _ _ _ _ oS oP oD, below_setRow IG.bl (Nat.le_refl _) _⟩
                      · have hy2' : y2.toList.isEmpty = false := by cases hq : y2.toList with | nil => exact absurd hq hy2 | cons _ _ => rfl
                        cases hy0 : y0.toList.isEmpty with
                        | true =>
                          go_upto_region 41 with fail
                          go_wp2_with (refine wpl_store rtSide rfl _ _ rfl w.heap.size rfl _ rfl ?_ ?_ ?_ _ rfl ?_; (focus (rw [rrE]; rfl)); (focus rfl); (focus (simp [Value.oneCell']; done)))
                          refine bodyPost_ret (results_row_tmp rtSide Try.results34 _ _ w.heap.size rfl ?_) rfl ?_
                          · rw [rowOf_setRow_same (by rw [rrE]; decide)]; rfl
                          · rw [rowOf_setRow_same (by rw [rrE]; decide)]; exact ⟨_, _, rfl, rfl, by simp [Value.oneCell'], below_setRow BE (Nat.le_refl _) _⟩
                        | false =>
                          go_upto_region 42 with fail
                          go_wp2_with (first
                            | (go_at_call 32; refine (rpublic_any x1 hx1 _).mono ?_; rintro e WF ⟨pk, rfl, hpk, hbF⟩; (have IF := IE.below hbF); (have f2F := rowcell IF.rx 2 (.string ⟨#[]⟩) rfl); (have g2F := rowfz IF.rx 2 (by rw [IF.cs]; omega)); (have IG : WI w _ s _ (sideOf x0 x1 pk y0 y1 y2 n0 n1 n2 vS vP vD) := IF.store 2 (.string pk)))
                            | (refine wpl_load rtSide rfl _ rfl (w.heap.size + 1 + 1) rfl _ IG.rx IG.cs ?_)
                            | (refine wpl_store rtSide rfl _ _ rfl w.heap.size rfl _ rfl ?_ ?_ ?_ _ rfl ?_; (focus (rw [IG.rr]; rfl)); (focus (exact IG.cs)); (focus (exact side_all _ _ _ _ _ _ _ _ _ oS oP oD)))
                            | fail)
                          refine bodyPost_ret (results_row_tmp rtSide Try.results34 _ _ w.heap.size rfl ?_) rfl ?_
                          · rw [rowOf_setRow_same (by rw [IG.rr]; decide)]; exact IG.cs
                          · rw [rowOf_setRow_same (by rw [IG.rr]; decide)]; exact ⟨_, _, rfl, IG.cs, side_all _ _ _ _ _ _ _ _ _ oS oP oD, below_setRow IG.bl (Nat.le_refl _) _⟩
                    · skip
                      go_upto_region 41 with fail
                      go_wp2_with (refine wpl_store rtSide rfl _ _ rfl w.heap.size rfl _ rfl ?_ ?_ ?_ _ rfl ?_; (focus (rw [rrE]; rfl)); (focus rfl); (focus (simp [Value.oneCell']; done)))
                      refine bodyPost_ret (results_row_tmp rtSide Try.results34 _ _ w.heap.size rfl ?_) rfl ?_
                      · rw [rowOf_setRow_same (by rw [rrE]; decide)]; rfl
                      · rw [rowOf_setRow_same (by rw [rrE]; decide)]; exact ⟨_, _, rfl, rfl, by simp [Value.oneCell'], below_setRow BE (Nat.le_refl _) _⟩
end Go.Proofs.Ytogkchcclcbobaa
