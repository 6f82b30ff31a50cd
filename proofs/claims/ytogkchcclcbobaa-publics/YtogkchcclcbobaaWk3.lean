/- The walks of the document's own answer: a side as bytes. -/
import Derived.Test.YtogkchcclcbobaaWk2
namespace Go.Proofs.Ytogkchcclcbobaa
open Go.RowKit Go.Msg
/-- Texts of 32 bytes at most. -/
def StrsAt (w : World) (v : Value) (n : Nat) : Prop :=
  ∃ ao cap g, v = .slice ao n cap ∧ n ≤ cap ∧ (0 < n → ao = some ⟨g, 0, none⟩) ∧ ∀ i, i < n → ∃ p : ByteArray, w.cell? ⟨g, i, none⟩ = some (.string p) ∧ p.size ≤ 32
theorem StrsAt.below {w w' : World} {v : Value} {n : Nat} (h : StrsAt w v n) (hb : Below w.heap.size w w') : StrsAt w' v n := by
  obtain ⟨ao, cap, g, h1, h2, h3, h4⟩ := h
  refine ⟨ao, cap, g, h1, h2, h3, fun i hi => ?_⟩
  obtain ⟨p, hp, hs⟩ := h4 i hi
  exact ⟨p, by rw [hb.cell (World.block_lt_of_cell? w _ hp)]; exact hp, hs⟩
/-- Keys that are kept. -/
def SavedAt (w : World) (v : Value) (n : Nat) : Prop :=
  ∃ ao cap g, v = .slice ao n cap ∧ n ≤ cap ∧ (0 < n → ao = some ⟨g, 0, none⟩) ∧ ∀ i, i < n → ∃ (p k : ByteArray) (x : Int), w.cell? ⟨g, i * 3, none⟩ = some (.string p) ∧ w.cell? ⟨g, i * 3 + 1, none⟩ = some (.int .i64 x) ∧ w.cell? ⟨g, i * 3 + 2, none⟩ = some (.string k) ∧ p.size ≤ 32 ∧ k.size ≤ 32
theorem SavedAt.below {w w' : World} {v : Value} {n : Nat} (h : SavedAt w v n) (hb : Below w.heap.size w w') : SavedAt w' v n := by
  obtain ⟨ao, cap, g, h1, h2, h3, h4⟩ := h
  refine ⟨ao, cap, g, h1, h2, h3, fun i hi => ?_⟩
  obtain ⟨p, k, x, hp, hx, hk, hs⟩ := h4 i hi
  exact ⟨p, k, x, by rw [hb.cell (World.block_lt_of_cell? w _ hp)]; exact hp, by rw [hb.cell (World.block_lt_of_cell? w _ hx)]; exact hx, by rw [hb.cell (World.block_lt_of_cell? w _ hk)]; exact hk, hs⟩
theorem rowcell {W : World} {g : Nat} {c : Array Value} (h : W.rowOf g = c) (j : Nat) (v : Value) (hj : c[j]? = some v) : W.cell? ⟨g, j, none⟩ = some v := by
  have hlt : j < c.size := (Array.getElem?_eq_some_iff.1 hj).1
  rw [(cell_of_rowOf h j hlt).1, hj]
set_option maxRecDepth 20000 in
set_option maxHeartbeats 8000000 in
theorem kept_any (a0 a1 a2 a3 a4 a5 : ByteArray) (n0 n1 n2 : Int) (vS vP vD : Value) (nS nP nD : Nat) (w : World) (h0 : a0.size ≤ 32) (h1 : a1.size ≤ 32) (h3 : a3.size ≤ 32) (h4 : a4.size ≤ 32) (h5 : a5.size ≤ 32)
    (hS : SavedAt w vS nS) (hP : StrsAt w vP nP) (hD : StrsAt w vD nD) (bS : nS ≤ 1000) (bP : nP ≤ 1000) (bD : nD ≤ 1000) :
    Calls Try.prog 40 #[.agg #[.string a0, .string a1, .string a2, .string a3, .string a4, .string a5, .int .i64 n0, .int .i64 n1, .int .i64 n2, vS, vP, vD]] w fun e w' => ∃ t, e = .returned (.string t) ∧ Below w.heap.size w w' := by
  have qA := cvA
  have z0 : a0.size ≤ 100 := by omega
  have c1 : a1.size ≤ 100 := by omega
  go_enter Try.func40, Try.ntmps40
  go_wp2
  generalize hb0 : ByteArray.mk #[82, 83] ++ a0 ++ a1 = b0
  have hz0 : b0.size ≤ 100 := by rw [← hb0, ByteArray.size_append, ByteArray.size_append]; show 2 + a0.size + a1.size ≤ 100; omega
  clear hb0
  go_loop [3, 5] (fun v i => ∃ (b : ByteArray) (k : Nat), v = .string b ∧ i = .int .i64 k ∧ k ≤ 3 ∧ b.size ≤ 100 + 50 * k) (fun _ i => 3 - (intOf i).toNat)
  case atStart => exact ⟨b0, 0, rfl, rfl, by omega, by omega⟩
  case round =>
    obtain ⟨b, k, rfl, rfl, hk, hb⟩ := hrel
    have hb2 : b.size ≤ 1000 := by omega
    by_cases hlt : k < 3
    · have c5 : (k : Int) < 3 := by omega
      obtain rfl | rfl | rfl : k = 0 ∨ k = 1 ∨ k = 2 := by omega
      all_goals
        go_wp2
        all_goals go_round
      all_goals first
        | decide
        | exact ⟨_, 1, rfl, rfl, by omega, by simp [ByteArray.size_append]; omega⟩
        | exact ⟨_, 2, rfl, rfl, by omega, by simp [ByteArray.size_append]; omega⟩
        | exact ⟨_, 3, rfl, rfl, by omega, by simp [ByteArray.size_append]; omega⟩
    · have hk' : k = 3 := by omega
      subst hk'
      rw [show ((3 : Nat) : Int) = 3 from rfl]
      obtain ⟨c, hc⟩ : ∃ c, c = #[Value.string a0, .string a1, .string a2, .string a3, .string a4, .string a5, .int .i64 n0, .int .i64 n1, .int .i64 n2, vS, vP, vD] := ⟨_, rfl⟩
      obtain ⟨W0, hW0⟩ : ∃ W, W = (w.alloc (.cells c 50)).alloc (.cells #[.string a3, .string a4, .string a5] 9) := ⟨_, rfl⟩
      rw [← hc, ← hW0]
      have R0 : W0.rowOf w.heap.size = c := by rw [hW0]; simp [go_sem]
      have B0 : Below w.heap.size w W0 := by rw [hW0]; exact by_alloc2 _ _ _
      have y0 := B0.size
      have g6 : c[6]? = some (.int .i64 n0) := by rw [hc]; rfl
      have g7 : c[7]? = some (.int .i64 n1) := by rw [hc]; rfl
      have g8 : c[8]? = some (.int .i64 n2) := by rw [hc]; rfl
      have g9 : c[9]? = some vS := by rw [hc]; rfl
      have g10 : c[10]? = some vP := by rw [hc]; rfl
      have g11 : c[11]? = some vD := by rw [hc]; rfl
      have cs : 0 < c.size := by rw [hc]; show 0 < 12; omega
      have f6 := rowcell R0 6 _ g6
      have G6 : Hid _ := g6
      have G7 : Hid _ := g7
      have G8 : Hid _ := g8
      have G9 : Hid _ := g9
      have G10 : Hid _ := g10
      have G11 : Hid _ := g11
      have CS : Hid _ := cs
      clear hW0 hc g6 g7 g8 g9 g10 g11 cs
      obtain ⟨aoS, capS, gS, rfl, hcS, haS, hxS⟩ := hS
      obtain ⟨aoP, capP, gP, rfl, hcP, haP, hxP⟩ := hP
      obtain ⟨aoD, capD, gD, rfl, hcD, haD, hxD⟩ := hD
      have XS : Hid _ := hxS
      have XP : Hid _ := hxP
      have XD : Hid _ := hxD
      clear hxS hxP hxD
      go_wp2_with (first
        | (go_at_call 49; have M := pair_any n0 W0; with_reducible refine M.mono ?_; clear M; rintro e w1 ⟨t1, rfl, ht1, b1⟩; have R1 : w1.rowOf w.heap.size = c := (by rw [below_row b1 (by rw [R0]; exact CS.out), R0]); have f7 := rowcell R1 7 _ G7.out; have B1 := below_lift B0 y0 b1; have y1 := B1.size; have x1 : t1.size ≤ 2 := (by omega); clear ht1 b1)
        | (go_at_call 49; have M := pair_any n1 w1; with_reducible refine M.mono ?_; clear M; rintro e w2 ⟨t2, rfl, ht2, b2⟩; have R2 : w2.rowOf w.heap.size = c := (by rw [below_row b2 (by rw [R1]; exact CS.out), R1]); have f8 := rowcell R2 8 _ G8.out; have B2 := below_lift B1 y1 b2; have y2 := B2.size; have x2 : t2.size ≤ 2 := (by omega); clear ht2 b2)
        | (go_at_call 49; have M := pair_any n2 w2; with_reducible refine M.mono ?_; clear M; rintro e w3 ⟨t3, rfl, ht3, b3⟩; have R3 : w3.rowOf w.heap.size = c := (by rw [below_row b3 (by rw [R2]; exact CS.out), R2]); have f9 := rowcell R3 9 _ G9.out; have B3 := below_lift B2 y2 b3; have y3 := B3.size; have x3 : t3.size ≤ 2 := (by omega); clear ht3 b3))
      have hz4 : (b ++ t1 ++ t2 ++ t3 ++ Proofs.Ytogkchcclcbobaa.b1 ((nS : Int) % 256)).size ≤ 1000 := by simp [ByteArray.size_append]; omega
      have B4 := B3.alloc y3 (.cells #[.int .u8 ((nS : Int) % 256)] 5)
      have R4 : (w3.alloc (.cells #[.int .u8 ((nS : Int) % 256)] 5)).rowOf w.heap.size = c := by rw [below_row (by_alloc w3 _) (by rw [R3]; exact CS.out), R3]
      generalize b ++ t1 ++ t2 ++ t3 ++ Proofs.Ytogkchcclcbobaa.b1 ((nS : Int) % 256) = s4 at *
      generalize w3.alloc (.cells #[.int .u8 ((nS : Int) % 256)] 5) = W4 at *
      clear R0 R1 R2 R3 B0 B1 B2 B3 f6 f7 f8 f9 y0 y1 y2 y3 x1 x2 x3 hb hb2
      go_loopw [3, 9] (fun v i wq => ∃ (x : ByteArray) (k : Nat), v = .string x ∧ i = .int .i64 k ∧ k ≤ nS ∧ x.size ≤ 1000 + 100 * k ∧ wq.rowOf w.heap.size = c ∧ Below w.heap.size w wq) (fun _ i _ => nS - (intOf i).toNat)
      case atStart => exact ⟨s4, 0, rfl, rfl, by omega, by omega, R4, B4⟩
      case round =>
        clear R4 B4 hz4
        obtain ⟨x, k, rfl, rfl, hk, hx, Rq, Bq⟩ := hrel
        have yq := Bq.size
        have f9 := rowcell Rq 9 _ G9.out
        by_cases hlt : k < nS
        · have c5 : (k : Int) < nS := by omega
          have c6 : x.size ≤ 200000 := by omega
          have hao := haS (by omega)
          subst hao
          obtain ⟨p, ky, xi, hp, hxi, hky, hps, hks⟩ := XS.out k hlt
          have e1 : wr.cell? ⟨gS, k * 3 + 1, none⟩ = some (.int .i64 xi) := by rw [Bq.cell (World.block_lt_of_cell? w _ hxi)]; exact hxi
          go_wp2_with (first
            | (go_at_call 49; have M := pair_any xi wr; with_reducible refine M.mono ?_; clear M; rintro e w5 ⟨t5, rfl, ht5, b5⟩; have R5 : w5.rowOf w.heap.size = c := (by rw [below_row b5 (by rw [Rq]; exact CS.out), Rq]); have f9' := rowcell R5 9 _ G9.out; have B5 := below_lift Bq yq b5; have x5 : t5.size ≤ 2 := (by omega); have e0 : w5.cell? ⟨gS, k * 3, none⟩ = some (.string p) := (by rw [B5.cell (World.block_lt_of_cell? w _ hp)]; exact hp); have e2 : w5.cell? ⟨gS, k * 3 + 2, none⟩ = some (.string ky) := (by rw [B5.cell (World.block_lt_of_cell? w _ hky)]; exact hky); clear ht5)
            | fail)
          go_quiet (fail)
          go_wp2
          go_roundw
          case rel => exact ⟨_, k + 1, rfl, by go_num, by omega, by simp [ByteArray.size_append]; omega, by rw [rowOf_drewN]; exact R5, below_drewN B5 _⟩
          case measure => simp [intOf]; omega
        · have hk' : k = nS := by omega
          have c5 : ¬ (k : Int) < nS := by omega
          have c6 : x.size ≤ 200000 := by omega
          have f10 := rowcell Rq 10 _ G10.out
          clear hx
          go_wp2
          have hz5 : (x ++ Proofs.Ytogkchcclcbobaa.b1 ((nP : Int) % 256)).size ≤ 300000 := by simp [ByteArray.size_append]; omega
          have B5 := Bq.alloc yq (.cells #[.int .u8 ((nP : Int) % 256)] 5)
          have R5 : (wr.alloc (.cells #[.int .u8 ((nP : Int) % 256)] 5)).rowOf w.heap.size = c := by rw [below_row (by_alloc wr _) (by rw [Rq]; exact CS.out), Rq]
          generalize x ++ Proofs.Ytogkchcclcbobaa.b1 ((nP : Int) % 256) = s5 at *
          generalize wr.alloc (.cells #[.int .u8 ((nP : Int) % 256)] 5) = W5 at *
          clear Rq Bq f9 f10 yq c6
          go_loopw [3, 11] (fun v i wq => ∃ (x : ByteArray) (k : Nat), v = .string x ∧ i = .int .i64 k ∧ k ≤ nP ∧ x.size ≤ 300000 + 100 * k ∧ wq.rowOf w.heap.size = c ∧ Below w.heap.size w wq) (fun _ i _ => nP - (intOf i).toNat)
          case atStart => exact ⟨s5, 0, rfl, rfl, by omega, by omega, R5, B5⟩
          case round =>
            clear R5 B5 hz5
            obtain ⟨x, j, rfl, rfl, hj, hx, Rq, Bq⟩ := hrel
            have yq := Bq.size
            have f10 := rowcell Rq 10 _ G10.out
            by_cases hlt2 : j < nP
            · have c7 : (j : Int) < nP := by omega
              have c8 : x.size ≤ 500000 := by omega
              have hao := haP (by omega)
              subst hao
              obtain ⟨p, hp, hps⟩ := XP.out j hlt2
              have e1 : wr.cell? ⟨gP, j, none⟩ = some (.string p) := by rw [Bq.cell (World.block_lt_of_cell? w _ hp)]; exact hp
              go_wp2
              go_roundw
              case rel => exact ⟨_, j + 1, rfl, by go_num, by omega, by simp [ByteArray.size_append]; omega, Rq, Bq⟩
              case measure => simp [intOf]; omega
            · have c7 : ¬ (j : Int) < nP := by omega
              have c8 : x.size ≤ 500000 := by omega
              have f11 := rowcell Rq 11 _ G11.out
              clear hx
              go_wp2
              have hz6 : (x ++ Proofs.Ytogkchcclcbobaa.b1 ((nD : Int) % 256)).size ≤ 600000 := by simp [ByteArray.size_append]; omega
              have B6 := Bq.alloc yq (.cells #[.int .u8 ((nD : Int) % 256)] 5)
              have R6 : (wr.alloc (.cells #[.int .u8 ((nD : Int) % 256)] 5)).rowOf w.heap.size = c := by rw [below_row (by_alloc wr _) (by rw [Rq]; exact CS.out), Rq]
              generalize x ++ Proofs.Ytogkchcclcbobaa.b1 ((nD : Int) % 256) = s6 at *
              generalize wr.alloc (.cells #[.int .u8 ((nD : Int) % 256)] 5) = W6 at *
              clear Rq Bq f10 f11 yq c8
              go_loopw [3, 12] (fun v i wq => ∃ (x : ByteArray) (k : Nat), v = .string x ∧ i = .int .i64 k ∧ k ≤ nD ∧ x.size ≤ 600000 + 100 * k ∧ wq.rowOf w.heap.size = c ∧ Below w.heap.size w wq) (fun _ i _ => nD - (intOf i).toNat)
              case atStart => exact ⟨s6, 0, rfl, rfl, by omega, by omega, R6, B6⟩
              case round =>
                clear R6 B6 hz6
                obtain ⟨x, i, rfl, rfl, hi, hx, Rq, Bq⟩ := hrel
                have f11 := rowcell Rq 11 _ G11.out
                by_cases hlt3 : i < nD
                · have c9 : (i : Int) < nD := by omega
                  have c8 : x.size ≤ 800000 := by omega
                  have hao := haD (by omega)
                  subst hao
                  obtain ⟨p, hp, hps⟩ := XD.out i hlt3
                  have e1 : wr.cell? ⟨gD, i, none⟩ = some (.string p) := by rw [Bq.cell (World.block_lt_of_cell? w _ hp)]; exact hp
                  go_wp2
                  go_roundw
                  case rel => exact ⟨_, i + 1, rfl, by go_num, by omega, by simp [ByteArray.size_append]; omega, Rq, Bq⟩
                  case measure => simp [intOf]; omega
                · have c9 : ¬ (i : Int) < nD := by omega
                  go_wp2
                  go_ret
                  exact ⟨⟨_, rfl⟩, Bq⟩
end Go.Proofs.Ytogkchcclcbobaa
