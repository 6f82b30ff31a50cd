import Derived.Test.YteghoooelgcpkabGreatDoorM19
namespace Go.Msg
open Go.RowKit Go.Proofs.YteghoooelgcpkabGreatDoor
def bent (M : ByteArray) (ix : Nat) (z : Int) : ByteArray := bstr M.size (fun i => if i = ix then z else sb M i)
theorem bent_size (M : ByteArray) (ix : Nat) (z : Int) : (bent M ix z).size = M.size := bstr_size _ _
theorem bent_at {M : ByteArray} {ix : Nat} {z : Int} (h0 : 0 ≤ z) (h1 : z ≤ 255) (i : Nat) (hi : i < M.size) : sb (bent M ix z) i = if i = ix then z else sb M i := by
  unfold bent
  rw [sb_bstr _ _ _ hi]
  split
  · exact ⟨h0, h1⟩
  · exact sb_bd _ _
theorem bent_same {M : ByteArray} {ix : Nat} {z : Int} (h0 : 0 ≤ z) (h1 : z ≤ 255) {i j : Nat} (hj : j ≤ M.size) (hx : ix < i ∨ j ≤ ix) : (bent M ix z).extract i j = M.extract i j := by
  have hs := bent_size M ix z
  refine ba_ext (by rw [ext_size (by omega), ext_size hj]) (fun p hp => ?_)
  rw [ext_size (by omega)] at hp
  rw [sb_extract _ _ _ _ (by omega) (by omega), sb_extract _ _ _ _ (by omega) hj, bent_at h0 h1 _ (by omega), if_neg (by omega)]
theorem bent_diff {M : ByteArray} {ix : Nat} {z : Int} (h0 : 0 ≤ z) (h1 : z ≤ 255) (hz : z ≠ sb M ix) {i j : Nat} (hj : j ≤ M.size) (hi : i ≤ ix) (hx : ix < j) : (bent M ix z).extract i j ≠ M.extract i j := fun e => by
  have hs := bent_size M ix z
  have q : sb ((bent M ix z).extract i j) (ix - i) = sb (M.extract i j) (ix - i) := by rw [e]
  rw [sb_extract _ _ _ _ (by omega) (by omega), sb_extract _ _ _ _ (by omega) hj, bent_at h0 h1 _ (by omega), show i + (ix - i) = ix by omega, if_pos rfl] at q
  exact hz q
theorem pw256 (N : Nat) : 0 < (2 : Int) ^ (N % 8) % 256 ∧ (2 : Int) ^ (N % 8) % 256 ≤ 255 := by
  have h : N % 8 < 8 := Nat.mod_lt _ (by omega)
  generalize N % 8 = r at *
  rcases (show r = 0 ∨ r = 1 ∨ r = 2 ∨ r = 3 ∨ r = 4 ∨ r = 5 ∨ r = 6 ∨ r = 7 by omega) with rfl | rfl | rfl | rfl | rfl | rfl | rfl | rfl <;> decide
theorem flip_ne {x y : Int} (hx : 0 ≤ x ∧ x ≤ 255) (hy : 0 < y ∧ y ≤ 255) : bits .xor .u8 x y ≠ x ∧ 0 ≤ bits .xor .u8 x y ∧ bits .xor .u8 x y ≤ 255 := by
  obtain ⟨q1, q2, q3⟩ := xor8 hx ⟨by omega, hy.2⟩
  refine ⟨fun e => ?_, q2, q3⟩
  rw [e] at q1
  obtain ⟨a, rfl⟩ : ∃ a : Nat, x = a := ⟨x.toNat, by omega⟩
  obtain ⟨b, rfl⟩ : ∃ b : Nat, y = b := ⟨y.toNat, by omega⟩
  have e2 := bits_xor_nat .u8 8 (by decide) wraps_u8 a b (by omega) (by omega)
  rw [e2] at e
  have e3 : a ^^^ b = a := by omega
  have e4 : a ^^^ (a ^^^ b) = a ^^^ a := by rw [e3]
  rw [← Nat.xor_assoc, Nat.xor_self, Nat.zero_xor] at e4
  omega
end Go.Msg
namespace Go.Proofs.YteghoooelgcpkabGreatDoor
open Go.RowKit Go.Msg
theorem bytes_set {W : World} {gB n ix : Nat} {f : Nat → Int} (h : ∀ i, i < n → W.cell? ⟨gB, i, none⟩ = some (.int .u8 (f i))) (hix : ix < n) (z : Int) : ∀ i, i < n → (W.setCell ⟨gB, ix, none⟩ (.int .u8 z)).cell? ⟨gB, i, none⟩ = some (.int .u8 (if i = ix then z else f i)) := fun i hi => by
  by_cases e : i = ix
  · rw [e, World.cell?_setCell_same _ _ _ (h ix hix), if_pos rfl]
  · rw [World.cell?_setCell_other _ _ _ _ (fun q => e (by have := congrArg Addr.off q; simpa using this.symm)), h i hi, if_neg e]
theorem LmAt.below {w w' : World} {g k : Nat} {c : Lm} (h : LmAt w g k c) (b : Below w.heap.size w w') : LmAt w' g k c := ⟨cell_below b h.c0, cell_below b h.c1, cell_below b h.c2, cell_below b h.c3, cell_below b h.c4, cell_below b h.c5⟩
def BytesAt (W : World) (gB : Nat) (M : ByteArray) (ix : Nat) (z : Int) : Prop := ∀ i, i < M.size → W.cell? ⟨gB, i, none⟩ = some (.int .u8 (if i = ix then z else sb M i))
theorem BytesAt.conv {W : World} {gB : Nat} {M : ByteArray} {ix : Nat} {z : Int} (h : BytesAt W gB M ix z) (cap : Nat) : (convert 87 9 (.slice (some ⟨gB, 0, none⟩) M.size cap)).run Tryz.prog W = .ok (.string (bent M ix z)) W := by
  have q := run_convert_bytes_arg W 87 5 Tryz.underlying87 Tryz.underlying5 gB 0 M.size cap ((List.range M.size).map (fun i => if i = ix then z else sb M i)) (by simp) (fun i hi => by rw [Nat.zero_add, h i hi]; simp [hi]) 9 Tryz.underlying9
  exact q
theorem BytesAt.below {W W' : World} {gB : Nat} {M : ByteArray} {ix : Nat} {z : Int} (h : BytesAt W gB M ix z) (b : Below W.heap.size W W') : BytesAt W' gB M ix z := fun i hi => cell_below b (h i hi)
section
variable {w0 w w' : World} {gd n : Nat} {ρ : Nat → Nat} {S : Bool → SR} {vl vp : Value} {ls : List Lm} {ps : List ByteArray} {tw lo : Bool} {ld sd : Int}
theorem DW.askedT (h : DW w0 gd ρ w S vl vp ls ps tw lo ld sd) (b : Bool) (m data : ByteArray) :
    ∀ ω, Below w.heap.size w ω → Calls Tryz.prog 44 #[.pointer (some ⟨(S b).g, 0, none⟩), .string m, .string data] ω fun e w' => e = .returned (.tuple #[.string (heardS (S b).x m data).2.1, .int .i64 (heardS (S b).x m data).2.2, .bool true]) ∧ Hid ((∃ r : SR, r.g = (S b).g ∧ r.x = (heardS (S b).x m data).1 ∧ DW w0 gd ρ w' (updS S b r) vl vp ls ps tw lo ld sd) ∧ Tch (S b).g w w') := fun ω hω =>
  (asked_f (S b).x (h.wf b) (S b).g (S b).vK (S b).vP (S b).vD m data ω ((h.se b).below hω) (h.off b) (h.tbl.below hω)).mono (fun _ _ q => ⟨q.1, Hid.mk ⟨h.ses b (heardS_wf (h.wf b) m data) (q.2.pre hω), (q.2.pre hω).1⟩⟩)
set_option maxRecDepth 4000 in
set_option maxHeartbeats 4000000 in
theorem flip_f (h : DW w0 gd ρ w S vl vp ls ps tw false ld sd) (hi : DI S ls ps tw false n) (hN : n ≤ 1500000) {k : Nat} {c : Lm} (hc : ls[k]? = some c) (cc : Int) (hc1 : -9223372036854775808 ≤ cc) (hc2 : cc ≤ 9223372036854775807) :
    Calls Tryz.prog 20 #[.pointer (some ⟨gd, 0, none⟩), .int .i64 (k : Int), .int .i64 cc] w fun e w' => e = .returned (.bool true) ∧ Live w0 gd (n + 1) w' := by
  obtain ⟨ao, cap, gL, rfl, hao, _⟩ := own_lms h.ol
  have hkl := (List.getElem?_eq_some_iff.1 hc).1
  obtain ⟨rfl, hob⟩ := hao (Nat.lt_of_le_of_lt (Nat.zero_le _) hkl)
  have hnl := hi.nl
  have hnp := hi.np
  obtain ⟨xs, ss, sz⟩ := hi.sn c (List.mem_of_getElem? hc)
  have s1 := (Own.of ss sz).sz
  have s2 := (Own.of ss sz).sz2
  have HDT := Hid.mk (Own.of ss sz).dt
  have H := Hid.mk h
  have HI := Hid.mk hi
  have HC := Hid.mk hc
  have HS := Hid.mk (side_f h (!c.odd))
  have HLY := Hid.mk (h.lays (by omega) (!c.odd))
  have L := h.lm hc hob
  have y0 := L.c0
  have k2 := dp_c2 h.row
  have hlt := h.lt
  obtain ⟨M, hM⟩ : ∃ M, c.bytes = M := ⟨_, rfl⟩
  rw [hM] at s1 s2
  clear h hi hc L hao ss sz
  generalize hnL : ls.length = nL at *
  have ck : (k : Int) < nL := by omega
  obtain ⟨m0, hm0⟩ : ∃ m0 : Nat, M.size = m0 + 40 := ⟨M.size - 40, by omega⟩
  obtain ⟨nA, hnA⟩ : ∃ nA : Nat, nA = 8 * m0 := ⟨_, rfl⟩
  have eM : (M.size : Int) - 40 = (m0 : Int) := by omega
  have eA : 8 * (m0 : Int) = (nA : Int) := by omega
  have mz : (M.size : Int) ≤ 272 := by omega
  have HM0 := Hid.mk hm0
  have HNA := Hid.mk hnA
  clear hm0 hnA
  have HPK := Hid.mk (fun W => spick_any cc nA (by have := HM0.out; have := HNA.out; omega) hc1 hc2 (by have := HM0.out; have := HNA.out; omega) W)
  go_enter Tryz.func20, Tryz.ntmps20
  go_upto_region 4 with (first
    | (go_at_call 41; with_reducible refine HS.out.mono ?_; rintro e w1 ⟨rfl, rfl⟩)
    | (go_at_call 47; with_reducible refine HLY.out.mono ?_; rintro e w2 ⟨rfl, HQ⟩)
    | fail)
  obtain ⟨ρ2, r, vp2, ps2, tw2, ld2, r1, D2, l2, alt⟩ := H.out.laid (!c.odd) HQ.out
  obtain ⟨I2, dr⟩ := HI.out.laid l2 alt
  have HDR : Hid ((updS S (!c.odd) r (!c.odd)).x.draws ≠ []) := Hid.mk (by rw [updS_same]; exact dr)
  have y1 := (D2.lm HC.out hob).c1
  rw [hM] at y1
  have HI2 := Hid.mk I2
  have HD2 := Hid.mk D2
  have hlt2 := D2.lt
  clear I2 D2 alt dr k2 y0 HLY HS HQ
  go_upto_region 7 with (first
    | (go_at_call 18; with_reducible refine (HPK.out _).mono ?_; rintro e w4 ⟨j, rfl, hj, rfl⟩)
    | fail)
  go_upto_if 45 with fail
  go_cut [11] from 17 (fun v wx => ∃ N : Nat, v = .int .i64 (N : Int) ∧ N < nA ∧ wx = w4)
  case first =>
    by_cases hneg : cc < 0
    · obtain ⟨N, hN⟩ : ∃ N : Nat, N = nA - 1 - j := ⟨_, rfl⟩
      have eN : (nA : Int) - 1 - (j : Int) = (N : Int) := by omega
      have jn : (j : Int) < nA := by omega
      have Nn : N < nA := by omega
      clear hN
      have nn : (nA : Int) ≤ 2000 := by have := HM0.out; have := HNA.out; omega
      go_wp2_with fail
      go_meet
      exact ⟨N, rfl, Nn, rfl⟩
    · go_wp2_with fail
      go_meet
      exact ⟨j, rfl, hj, rfl⟩
  case rest =>
  obtain ⟨N, rfl, hN, rfl⟩ := hcut
  obtain ⟨W4, hW4⟩ : ∃ W, W = wc := ⟨_, rfl⟩
  subst hW4
  clear hj
  obtain ⟨ix, hix⟩ : ∃ ix : Nat, ix = 40 + N / 8 := ⟨_, rfl⟩
  have eI : 40 + (N : Int) / 8 = (ix : Int) := by omega
  have hm0 := HM0.out
  have hnA := HNA.out
  have nn : (N : Int) ≤ 2000 := by omega
  have i1 : ix < M.size := by omega
  clear hm0 hnA
  have i2 : 40 ≤ ix := by omega
  have i3 : (ix : Int) < M.size := by omega
  clear hix eM eA
  go_upto_region 10 with (first
    | (refine wpl_bytes rfl 9 87 5 _ rfl Tryz.underlying9 Tryz.underlying87 Tryz.underlying5 M rfl ?_; intro cap2 W5 hcap hcell hfz hb hsz)
    | fail)
  have yx := hcell ix i1
  have zx := hfz ix i1
  have HCE := Hid.mk hcell
  clear hcell hfz
  go_cut [11] from 17 (fun v wx => v = .int .i64 (N : Int) ∧ ∃ z : Int, (z ≠ sb M ix ∧ 0 ≤ z ∧ z ≤ 255) ∧ Hid (BytesAt wx W4.heap.size M ix z ∧ Below W4.heap.size W4 wx))
  case first =>
    go_region
    all_goals go_wp2_with fail
    all_goals go_meet
    have hby : BytesAt (W5.setCell ⟨W4.heap.size, ix, none⟩ (.int .u8 (bits .xor .u8 (sb M ix) (2 ^ (N % 8) % 256)))) W4.heap.size M ix (bits .xor .u8 (sb M ix) (2 ^ (N % 8) % 256)) := bytes_set HCE.out i1 _
    exact ⟨rfl, _, flip_ne (sb_bd M ix) (pw256 N), Hid.mk ⟨hby.below (Below.refl _ _).drew, (hb.setCell (Nat.le_refl _) _).drew⟩⟩
  case rest =>
  obtain ⟨rfl, z, ⟨z1, z2, z3⟩, HB⟩ := hcut
  obtain ⟨W6, hW6⟩ : ∃ W, W = wc := ⟨_, rfl⟩
  subst hW6
  have D6 := HD2.out.below HB.out.2
  have HBT : Hid (tw2 = false → _) := Hid.mk (fun q => HI2.out.bent q rfl HC.out HDR.out (b := bent M ix z) (data := c.data) (by rw [bent_size, hM]) (by rw [hM]; exact bent_same z2 z3 (by omega) (Or.inr i2)) HDT.out)
  have HOU := Hid.mk (heardS_out (x := r.x) (bent M ix z) c.data)
  have HAS := Hid.mk (D6.askedT (!c.odd) (bent M ix z) c.data)
  rw [updS_same] at HBT HAS
  rw [r1] at HAS
  have y3 := (D6.lm HC.out hob).c3
  have hgL : gL < W6.heap.size := World.block_lt_of_cell? _ _ y3
  have q1 := (HB.out.1.below (Below.refl _ _).drew).conv cap2
  have hgS : (S (!c.odd)).g < W4.heap.size := by have := (HD2.out.se (!c.odd)).lt; rw [updS_same, r1] at this; exact this
  have hgB : W4.heap.size < W6.heap.size := World.block_lt_of_cell? _ _ (HB.out.1 ix i1)
  have HZS : Hid ((bent M ix z).size = M.size) := Hid.mk (bent_size _ _ _)
  have HSA : Hid (¬ ix < M.size - 32 → (bent M ix z).extract 40 (M.size - 32) = M.extract 40 (M.size - 32) ∧ (bent M ix z).extract (M.size - 32) M.size ≠ M.extract (M.size - 32) M.size) := Hid.mk (fun q => ⟨bent_same z2 z3 (by omega) (Or.inr (by omega)), bent_diff z2 z3 z1 (by omega) (by omega) i1⟩)
  have HSB : Hid (ix < M.size - 32 → (bent M ix z).extract (M.size - 32) M.size = M.extract (M.size - 32) M.size ∧ (bent M ix z).extract 40 (M.size - 32) ≠ M.extract 40 (M.size - 32)) := Hid.mk (fun q => ⟨bent_same z2 z3 (by omega) (Or.inl (by omega)), bent_diff z2 z3 z1 (by omega) i2 q⟩)
  clear D6 HD2 y1 z1 z2 z3
  generalize hb2 : bent M ix z = b2 at *
  generalize heardS r.x b2 c.data = R at *
  obtain ⟨y, t, e⟩ := R
  simp only at HBT HAS HOU
  go_upto_region 11 with fail
  go_cut [13, 14, 15] from 17 (fun v13 v14 v15 wx => v13 = .string t ∧ v14 = .int .i64 e ∧ v15 = .bool true ∧ Hid ((∃ r4 : SR, r4.g = (S (!c.odd)).g ∧ r4.x = y ∧ DW w0 gd ρ2 wx (updS (updS S (!c.odd) r) (!c.odd) r4) (.slice (some ⟨gL, 0, none⟩) nL cap) vp2 ls ps2 tw2 false ld2 sd) ∧ Tch (S (!c.odd)).g W6 wx))
  case first =>
    go_region_with (go_at_call 44; with_reducible refine (HAS.out _ (Below.refl _ _).drew).mono ?_; rintro e w3 ⟨rfl, HZ⟩)
    all_goals go_wp2_with fail
    all_goals go_meet
    all_goals exact ⟨rfl, rfl, rfl, HZ⟩
  case rest =>
  obtain ⟨rfl, rfl, rfl, HZ⟩ := hcut
  obtain ⟨W7, hW7⟩ : ∃ W, W = wc := ⟨_, rfl⟩
  subst hW7
  obtain ⟨⟨r4, s1', s2', D7⟩, T7⟩ := HZ.out
  have k4 := dp_c4 D7.row
  have k5 := dp_c5 D7.row
  have hlt7 := D7.lt
  have HD7 := Hid.mk D7
  clear D7 HZ q1 HAS
  cases tw2
  · obtain ⟨x0, ow, alt⟩ := HBT.out rfl
    have HOW := Hid.mk ow
    clear ow HBT
    rcases alt with ce | ⟨rfl, hT⟩
    · have hy : y = r.x := by
        rcases HOU.out with q | q
        · exact q.2.1
        · exact absurd q.1 ce
      have ce : ¬ e = 0 := ce
      go_wp2_with fail
      go_ret
      exact ⟨rfl, _, _, _, _, _, _, _, _, _, _, HD7.out, HI2.out.upd (by rw [s2']; exact hy)⟩
    · have htag := HOW.out.tag
      rw [hM] at htag hT
      rw [HZS.out] at hT
      by_cases hx : ix < M.size - 32
      · obtain ⟨t1, t2⟩ := HSB.out hx
        have HW := Hid.mk (fun W L => witness_f (w := W) (k := k) (g := gL) L HOW.out (.pointer (some ⟨gd, 0, none⟩)) b2 c.data (by rw [HZS.out, hM]) HDT.out (by rw [hM, HZS.out, htag, hT, t1]) (by rw [hM, HZS.out]; exact fun q => t2 (tagd_turned q).symm))
        have L7 := HD7.out.lm HC.out hob
        have HL7 := Hid.mk (L7.below (Below.refl _ _).drew)
        have HMW := Hid.mk (HW.out _ HL7.out)
        have y3 := L7.c3
        have hgL7 : gL < W7.heap.size := World.block_lt_of_cell? _ _ y3
        have B7 : BytesAt W7 W4.heap.size M ix z := fun i hi => by rw [T7.cell hgB (by show W4.heap.size ≠ _; omega)]; exact HB.out.1 i hi
        have q2 := (B7.below (Below.refl _ _).drew).conv cap2
        rw [hb2] at q2
        go_upto_region 14 with fail
        go_cut [16] from 17 (fun v wx => v = .bool true ∧ Hid (Below W7.heap.size W7 wx))
        case first =>
          go_region_with (go_at_call 48; with_reducible refine HMW.out.mono ?_; rintro e w8 ⟨rfl, hb8⟩)
          all_goals go_wp2_with fail
          all_goals go_meet
          all_goals exact ⟨rfl, Hid.mk (below_lift (Below.refl _ _).drew (Nat.le_refl _) hb8)⟩
        case rest =>
        obtain ⟨rfl, hb8⟩ := hcut
        have D8 := HD7.out.below hb8.out
        have k5' := dp_c5 D8.row
        have z5' := dp_z D8.row 5 (by omega)
        have hlt8 := D8.lt
        have HD8 := Hid.mk (D8.lost true)
        obtain ⟨q0, hq0⟩ : ∃ q0 : Nat, M.size = q0 + 32 := ⟨M.size - 32, by omega⟩
        have eL : (M.size : Int) - 32 = (q0 : Int) := by omega
        have cx : (ix : Int) < q0 := by omega
        clear D8 HMW HW hq0 q2 hx t1 t2 hT htag
        go_wp2_with fail
        go_ret
        exact ⟨rfl, _, _, _, _, _, _, _, _, _, _, HD8.out, HI2.out.lost _⟩
      · obtain ⟨t1, t2⟩ := HSA.out hx
        rw [t1, htag] at hT
        exact absurd hT.symm t2
  · by_cases ce : e = 0
    · subst ce
      go_wp2_with fail
      go_ret
      exact ⟨rfl, _, _, _, _, _, _, _, _, _, _, HD7.out, HI2.out.twice _⟩
    · go_wp2_with fail
      go_ret
      exact ⟨rfl, _, _, _, _, _, _, _, _, _, _, HD7.out, HI2.out.twice _⟩
end
end Go.Proofs.YteghoooelgcpkabGreatDoor
