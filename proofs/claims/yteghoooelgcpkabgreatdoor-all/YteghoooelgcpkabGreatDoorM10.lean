import Derived.Test.YteghoooelgcpkabGreatDoorM09
namespace Go.Msg
open Go.RowKit Go.Proofs.YteghoooelgcpkabGreatDoor
theorem sOpen_size : sOpen.size = 16 := rfl
theorem lword_congr {b c : Nat → Int} (i : Nat) (h : ∀ j, j < 4 → b (4 * i + j) = c (4 * i + j)) : lword b i = lword c i := by
  unfold lword
  have h0 := h 0 (by omega); have h1 := h 1 (by omega); have h2 := h 2 (by omega); have h3 := h 3 (by omega)
  simp only [Nat.add_zero] at h0
  rw [h0, h1, h2, h3]
theorem words_at (key nonce : ByteArray) (hk : key.size = 32) (n : Nat) (hn : n < 4294967296) (i : Nat) (hi : i < 16) : lword (fun i => sb (sOpen ++ key ++ le4 (n : Int) ++ nonce) i) i = swords key nonce n i := by
  unfold swords fstn
  rw [if_pos hi]
  have hz : (sOpen ++ key).size = 48 := by rw [ByteArray.size_append, hk]; rfl
  have z1 : (sOpen ++ key ++ le4 (n : Int)).size = 52 := by rw [ByteArray.size_append, hz, le4_size]
  have z2 : (sOpen ++ key ++ bstr 4 (fun _ => 0)).size = 52 := by rw [ByteArray.size_append, hz, bstr_size]
  by_cases h : i = 12
  · subst h
    simp only [upd, if_true]
    unfold lword
    have e : ∀ j, j < 4 → sb (sOpen ++ key ++ le4 (n : Int) ++ nonce) (4 * 12 + j) = (n : Int) / 256 ^ j % 256 := fun j hj => by
      rw [sb_append, z1, if_pos (by omega), sb_append, hz, if_neg (by omega), sb_le4 _ _ (by omega), show 4 * 12 + j - 48 = j by omega]
    have e0 := e 0 (by omega); have e1 := e 1 (by omega); have e2 := e 2 (by omega); have e3 := e 3 (by omega)
    simp only [Nat.add_zero] at e0
    show sb (sOpen ++ key ++ le4 (n : Int) ++ nonce) (4 * 12) + 256 * sb (sOpen ++ key ++ le4 (n : Int) ++ nonce) (4 * 12 + 1) + 65536 * sb (sOpen ++ key ++ le4 (n : Int) ++ nonce) (4 * 12 + 2) + 16777216 * sb (sOpen ++ key ++ le4 (n : Int) ++ nonce) (4 * 12 + 3) = (n : Int)
    rw [e0, e1, e2, e3]
    simp
    omega
  · simp only [upd, h, if_false]
    refine lword_congr i fun j hj => ?_
    show sb (sOpen ++ key ++ le4 (n : Int) ++ nonce) (4 * i + j) = sb (words0 key nonce) (4 * i + j)
    unfold words0
    rw [sb_append, sb_append (sOpen ++ key ++ bstr 4 (fun _ => 0)), z1, z2]
    by_cases h2 : 4 * i + j < 52
    · rw [if_pos h2, if_pos h2, sb_append, sb_append (sOpen ++ key), hz]
      rw [if_pos (by omega), if_pos (by omega)]
    · rw [if_neg h2, if_neg h2]
theorem lword_ext (t : ByteArray) (k : Nat) (h : 4 * k + 4 ≤ t.size) : lword (sb (t.extract (4 * k) (4 * k + 4))) 0 = lword (fun i => sb t i) k := by
  have e : ∀ i, i < 4 → sb (t.extract (4 * k) (4 * k + 4)) i = sb t (4 * k + i) := fun i hi => sb_extract t _ _ i (by omega) h
  unfold lword
  have e0 := e 0 (by omega); have e1 := e 1 (by omega); have e2 := e 2 (by omega); have e3 := e 3 (by omega)
  simp only [Nat.add_zero] at e0
  simp only [Nat.mul_zero, Nat.zero_add, e0, e1, e2, e3]
theorem b4_congr {a b c d a' b' c' d' : Int} (h1 : a = a') (h2 : b = b') (h3 : c = c') (h4 : d = d') : b4 a b c d = b4 a' b' c' d' := by rw [h1, h2, h3, h4]
end Go.Msg
namespace Go.Proofs.YteghoooelgcpkabGreatDoor
open Go.RowKit Go.Msg
set_option maxRecDepth 8000 in
set_option maxHeartbeats 8000000 in
theorem streamed_any (key nonce : ByteArray) (hk : key.size = 32) (hn : nonce.size = 12) (n : Nat) (hn3 : n ≤ 3) (w : World) :
    Calls Tryz.prog 148 #[.string key, .string nonce, .int .i64 (n : Int)] w fun e w' => e = .returned (.string (sblk key nonce n)) ∧ Below w.heap.size w w' := by
  have qD := cvD
  have cn : (n : Int) ≤ 3 := by omega
  have cm : (n : Int) % 4294967296 = n := by omega
  have HL : Hid (b4 (n : Int) ((n : Int) / 256) ((n : Int) / 65536) ((n : Int) / 16777216) = le4 (n : Int)) := Hid.mk (b4_congr (by omega) (by omega) (by omega) (by omega))
  go_enter Tryz.func148, Tryz.ntmps148
  go_wp2
  rw [cm, HL.out, show (⟨#[101, 120, 112, 97, 110, 100, 32, 51, 50, 45, 98, 121, 116, 101, 32, 107]⟩ : ByteArray) = sOpen from rfl]
  have zT : (sOpen ++ key ++ le4 (n : Int) ++ nonce).size = 64 := by simp only [ByteArray.size_append, hk, hn, le4_size, sOpen_size]
  have HTW := words_at key nonce hk n (by omega)
  obtain ⟨f, hf⟩ : ∃ f, f = swords key nonce n := ⟨_, rfl⟩
  rw [← hf] at HTW
  have hfb : ∀ i, B32 (f i) := by rw [hf]; exact swords_bd key nonce n (by omega)
  have HSB : Hid (ldig (fun i => (rds f 20 i + f i) % 4294967296) 16 = sblk key nonce n) := Hid.mk (by rw [hf]; rfl)
  generalize sOpen ++ key ++ le4 (n : Int) ++ nonce = T at *
  have HT : Hid (∀ i, i < 16 → lword (fun j => sb T j) i = f i) := HTW
  have HFB : Hid _ := hfb
  have hw0 := by_alloc w (.cells #[.int .u8 (n : Int), .int .u8 ((n : Int) / 256), .int .u8 ((n : Int) / 65536), .int .u8 ((n : Int) / 16777216)] 5)
  clear HTW hf hfb cm
  go_loopw [9, 10, 11] (fun v i _ wr => ∃ (k : Nat), k ≤ 16 ∧ i = .int .i64 k ∧ wr.ownsRow w.heap.size 3 1 v k (ints .i64 k f) ∧ Below w.heap.size w wr) (fun _ i _ _ => 16 - (intOf i).toNat)
  case atStart => exact ⟨0, by omega, rfl, World.ownsRow_nil _ _ _ _, hw0⟩
  case round =>
    clear hw0
    obtain ⟨k, hk, rfl, hown, hbel⟩ := hrel
    have hbs := hbel.size
    by_cases hlt : k < 16
    · have c1 : (k : Int) < 16 := by omega
      have c2 : 4 * (k : Int) + 4 ≤ T.size := by omega
      have c3 : 4 * k + 4 ≤ T.size := by omega
      have c4 : (4 * (k : Int)).toNat = 4 * k := by omega
      have c5 : (4 * (k : Int) + 4).toNat = 4 * k + 4 := by omega
      have hz : (T.extract (4 * k) (4 * k + 4)).size = 4 := by rw [ByteArray.size_extract]; omega
      have HV : Hid (lword (sb (T.extract (4 * k) (4 * k + 4))) 0 = f k) := Hid.mk (by rw [lword_ext T k c3, HT.out k hlt])
      have HU : Hid (upd f k (f k) = f) := Hid.mk (by funext i; unfold upd; split <;> simp [*])
      go_wp2_with (first
        | (go_at_call 169; have M := little_any (T.extract (4 * k) (4 * k + 4)) hz wr; with_reducible refine M.mono ?_; clear M; rintro e w1 ⟨rfl, q, rfl⟩; rw [HV.out])
        | (refine wpl_append1 intS rfl _ _ rfl w.heap.size _ k f rfl ?_ (wr.heap.size) (f k) rfl ?_ (by omega) ?_ ?_; (focus (exact owns_alloc (show World.ownsRow _ _ _ _ _ _ _ from hown) _)); (focus (simp [go_sem]; done)); (focus (simp; omega)); intro v' w' hown2 hbel' hsz'))
      go_roundw
      case rel =>
        refine ⟨k + 1, by omega, by go_num, ?_, hbel' _ (below_same hbel hbs rfl rfl rfl rfl)⟩
        rw [HU.out] at hown2; exact hown2
      case measure => simp [intOf]; omega
    · have hk' : k = 16 := by omega
      subst hk'
      rw [show ((16 : Nat) : Int) = 16 from rfl]
      obtain ⟨g, cap, rfl⟩ := own_some hown (by omega)
      have hnum := NumAt.of_owns hown
      obtain ⟨ao, cap', g', hv, hcap, hao, hcell⟩ := hnum
      obtain rfl := hao (by omega)
      obtain ⟨rfl, rfl⟩ : g = g' ∧ cap = cap' := by simp at hv; exact hv
      obtain ⟨W1, hW1⟩ : ∃ W, W = wr := ⟨_, rfl⟩
      subst hW1
      go_wp2_with (refine wpl_appendN intS rfl _ _ rfl W1.heap.size _ 0 (fun _ => 0) rfl ?_ g 16 cap f rfl ?_ (by omega) ?_ ?_; (focus (exact World.ownsRow_nil _ _ _ _)); (focus (exact hcell)); (focus (exact Nat.le_refl _)); intro v' w1 hown1 hbel1 hsz1)
      have n1 : NumAt w1 v' 16 f := num_congr (NumAt.of_owns hown1) (fun i _ => by simp [joinf])
      have B1 := hbel1 W1 (Below.refl _ _)
      have nw : NumAt w1 (.slice (some ⟨g, 0, none⟩) 16 cap) 16 f := NumAt.below ⟨_, cap, g, rfl, hcap, fun _ => rfl, hcell⟩ B1
      have B2 : Below w.heap.size w w1 := below_lift hbel hbs B1
      clear hown hcell hown1 hbel1 hsz1 B1 hbel hbs
      go_loopw [12, 13, 14, 15] (fun v r _ _ wq => ∃ (R : Nat), R ≤ 20 ∧ r = .int .i64 R ∧ Hid (NumAt wq v 16 (rds f R)) ∧ Hid (NumAt wq (.slice (some ⟨g, 0, none⟩) 16 cap) 16 f) ∧ Below w.heap.size w wq) (fun _ r _ _ _ => 20 - (intOf r).toNat)
      case atStart => exact ⟨0, by omega, rfl, n1, nw, B2⟩
      case round =>
        clear n1 nw B2
        obtain ⟨R, hR, rfl, HN, HNW, hB⟩ := hrel
        by_cases hlt : R < 20
        · have c1 : (R : Int) < 20 := by omega
          obtain ⟨o, ho⟩ : ∃ o, o = R % 2 := ⟨_, rfl⟩
          obtain ⟨F, hF⟩ : ∃ F, F = rds f R := ⟨_, rfl⟩
          have HFF : Hid (∀ i, B32 (F i)) := Hid.mk (by rw [hF]; exact rds_bd HFB.out R)
          have HR : Hid (rdq F o 4 = rds f (R + 1)) := Hid.mk (by rw [hF, ho]; rfl)
          rw [← hF] at HN
          clear hF
          go_wp2
          go_loopw [12, 14, 15] (fun v i _ wq => ∃ (k : Nat), k ≤ 4 ∧ i = .int .i64 k ∧ Hid (NumAt wq v 16 (rdq F o k)) ∧ Hid (NumAt wq (.slice (some ⟨g, 0, none⟩) 16 cap) 16 f) ∧ Below w.heap.size w wq) (fun _ i _ _ => 4 - (intOf i).toNat)
          case atStart => exact ⟨0, by omega, rfl, HN, HNW, hB⟩
          case round =>
            clear HN HNW hB
            obtain ⟨k, hk, rfl, HN, HNW, hB⟩ := hrel
            have hBs := hB.size
            by_cases hlt4 : k < 4
            · have c2 : (k : Int) < 4 := by omega
              have HQ : Hid (qr (rdq F o k) k (4 + (k + o) % 4) (8 + (k + 2 * o) % 4) (12 + (k + 3 * o) % 4) = rdq F o (k + 1)) := Hid.mk rfl
              obtain ⟨pb, hpb⟩ : ∃ p, p = (k + o) % 4 := ⟨_, rfl⟩
              obtain ⟨pc, hpc⟩ : ∃ p, p = (k + 2 * o) % 4 := ⟨_, rfl⟩
              obtain ⟨pd, hpd⟩ : ∃ p, p = (k + 3 * o) % 4 := ⟨_, rfl⟩
              rw [← hpb, ← hpc, ← hpd] at HQ
              have lb : pb < 4 := by omega
              have lc : pc < 4 := by omega
              have ld : pd < 4 := by omega
              obtain ⟨v', hv'⟩ : ∃ v, v = u12 := ⟨_, rfl⟩
              subst hv'
              by_cases hpar : R % 2 = 1
              · have c3 : ((R : Int) % 2 == 1) = true := by simp; omega
                have e1 : ((k : Int) + 1) % 4 = (pb : Int) := by omega
                have e2 : ((k : Int) + 2) % 4 = (pc : Int) := by omega
                have e3 : ((k : Int) + 3) % 4 = (pd : Int) := by omega
                skip
                clear hpb hpc hpd ho hpar
                go_wp2_with (go_at_call 170; have M := mixed_f v' (rdq F o k) (rdq_bd HFF.out o k) k (4 + pb) (8 + pc) (12 + pd) (by omega) (by omega) (by omega) (by omega) wr HN.out; rw [Int.natCast_add, Int.natCast_add, Int.natCast_add, show ((4 : Nat) : Int) = 4 from rfl, show ((8 : Nat) : Int) = 8 from rfl, show ((12 : Nat) : Int) = 12 from rfl] at M; with_reducible refine M.mono ?_; clear M; rintro e w2 ⟨v2, rfl, n2, hb2⟩)
                go_roundw
                case rel => exact ⟨k + 1, by omega, by go_num, Hid.mk (by rw [← HQ.out]; exact n2), HNW.out.below hb2, below_lift hB hBs hb2⟩
                case measure => simp [intOf]; omega
              · have c3 : ((R : Int) % 2 == 1) = false := by simp; omega
                have e1 : (k : Int) % 4 = (pb : Int) := by omega
                obtain rfl : pb = pc := by omega
                obtain rfl : pb = pd := by omega
                clear hpb hpc hpd ho hpar
                go_wp2_with (go_at_call 170; have M := mixed_f v' (rdq F o k) (rdq_bd HFF.out o k) k (4 + pb) (8 + pb) (12 + pb) (by omega) (by omega) (by omega) (by omega) wr HN.out; rw [Int.natCast_add, Int.natCast_add, Int.natCast_add, show ((4 : Nat) : Int) = 4 from rfl, show ((8 : Nat) : Int) = 8 from rfl, show ((12 : Nat) : Int) = 12 from rfl] at M; with_reducible refine M.mono ?_; clear M; rintro e w2 ⟨v2, rfl, n2, hb2⟩)
                go_roundw
                case rel => exact ⟨k + 1, by omega, by go_num, Hid.mk (by rw [← HQ.out]; exact n2), HNW.out.below hb2, below_lift hB hBs hb2⟩
                case measure => simp [intOf]; omega
            · have hk' : k = 4 := by omega
              subst hk'
              go_wp2
              go_roundw
              case rel => exact ⟨R + 1, by omega, by go_num, Hid.mk (by rw [← HR.out]; exact HN.out), HNW, hB⟩
              case measure => simp [intOf]; omega
        · have hR' : R = 20 := by omega
          subst hR'
          rw [show ((20 : Nat) : Int) = 20 from rfl]
          obtain ⟨V, hV⟩ : ∃ V, V = rds f 20 := ⟨_, rfl⟩
          have HVB : Hid (∀ i, B32 (V i)) := Hid.mk (by rw [hV]; exact rds_bd HFB.out 20)
          rw [← hV] at HN
          have HSB2 : Hid (ldig (fun i => (V i + f i) % 4294967296) 16 = sblk key nonce n) := Hid.mk (by rw [hV]; exact HSB.out)
          clear hV
          obtain ⟨ao2, cap2, g2, rfl, hc2, ha2, hx2⟩ := HN.out
          obtain rfl := ha2 (by omega)
          obtain ⟨ao3, cap3, g3, hv3, hc3, ha3, hx3⟩ := HNW.out
          obtain rfl := ha3 (by omega)
          obtain ⟨rfl, rfl⟩ : g = g3 ∧ cap = cap3 := by simp at hv3; exact hv3
          obtain ⟨W2, hW2⟩ : ∃ W, W = wr := ⟨_, rfl⟩
          subst hW2
          have HX2 : Hid _ := hx2
          have HX3 : Hid _ := hx3
          have hBs := hB.size
          clear hx2 hx3 ha2 HN HNW
          go_wp2
          go_loopw [16, 17, 18] (fun o i _ wq => ∃ (b : ByteArray) (k : Nat), o = .string b ∧ i = .int .i64 k ∧ k ≤ 16 ∧ b.size = 4 * k ∧ Hid (b = ldig (fun i => (V i + f i) % 4294967296) k) ∧ Below W2.heap.size W2 wq) (fun _ i _ _ => 16 - (intOf i).toNat)
          case atStart => exact ⟨_, 0, rfl, rfl, by omega, rfl, Hid.mk rfl, Below.refl _ _⟩
          case round =>
            obtain ⟨b, j, rfl, rfl, hj, hb, HDG, hbel⟩ := hrel
            have hbs2 := hbel.size
            by_cases hlt2 : j < 16
            · have c5 : (j : Int) < 16 := by omega
              have y0 := HX2.out j hlt2
              have y1 : wr.cell? ⟨g2, j, none⟩ = some (.int .i64 (V j)) := by rw [hbel.cell (World.block_lt_of_cell? W2 _ y0)]; exact y0
              have x0 := HX3.out j hlt2
              have x1 : wr.cell? ⟨g, j, none⟩ = some (.int .i64 (f j)) := by rw [hbel.cell (World.block_lt_of_cell? W2 _ x0)]; exact x0
              have c6 : b.size ≤ 64 := by omega
              have HBS : Hid (b.size = 4 * j) := hb
              obtain ⟨Vl, Vh⟩ := HVB.out j
              obtain ⟨fl, fh⟩ := HFB.out j
              have hw : IntKind.i64.wrap (V j + f j) = V j + f j := by rw [IntKind.wrap_i64]; omega
              clear hb y0 x0
              go_wp2_with fail
              go_quiet (fail)
              have hb3 : Below W2.heap.size W2 (wr.drewN nq) := ⟨hbel.os, hbel.tape, hbel.output, hbel.size, hbel.block⟩
              have hs3 : W2.heap.size ≤ (wr.drewN nq).heap.size := hbs2
              generalize wr.drewN nq = W3 at hb3 hs3 ⊢
              go_wp2
              go_roundw
              case rel => exact ⟨_, j + 1, rfl, by go_num, by omega, by rw [ByteArray.size_append, b4_size, HBS.out]; omega, Hid.mk (by rw [HDG.out, ldig]; congr 1; exact b4_congr (by omega) (by omega) (by omega) (by omega)), hb3.alloc hs3 _⟩
              case measure => simp [intOf]; omega
            · have hj' : j = 16 := by omega
              subst hj'
              go_wp2
              go_ret
              exact ⟨congrArg (fun z => Ending.returned (Value.string z)) (by rw [HDG.out, HSB2.out]), below_lift hB hBs hbel⟩
end Go.Proofs.YteghoooelgcpkabGreatDoor
namespace Go.Proofs.YteghoooelgcpkabGreatDoor
open Go.RowKit Go.Msg
theorem cl_set {w W : World} {g N : Nat} {F : Nat → Int} {x : Nat} {z : Int} (h1 : ∀ j, j < N → W.cell? ⟨g, j, none⟩ = some (.int .u8 (F j))) (h2 : ∀ j, j < N → W.frozen? ⟨g, j, none⟩ = false) (hB : Below w.heap.size w W) (hx : x < N) (hg : w.heap.size ≤ g) :
    (∀ j, j < N → (W.setCell ⟨g, x, none⟩ (.int .u8 z)).cell? ⟨g, j, none⟩ = some (.int .u8 (upd F x z j))) ∧ (∀ j, j < N → (W.setCell ⟨g, x, none⟩ (.int .u8 z)).frozen? ⟨g, j, none⟩ = false) ∧ Below w.heap.size w (W.setCell ⟨g, x, none⟩ (.int .u8 z)) := by
  refine ⟨fun j hj => ?_, fun j hj => ?_, hB.setCell hg _⟩
  · by_cases e : j = x
    · rw [e, World.cell?_setCell_same _ _ _ (h1 x hx)]; simp only [upd, if_true]
    · rw [World.cell?_setCell_other _ _ _ _ (fun h => e (by have := congrArg Addr.off h; simpa using this.symm)), h1 j hj]; simp only [upd, e, if_false]
  · simp [h2 j hj]
set_option maxHeartbeats 4000000 in
theorem rstream_any (key nonce t : ByteArray) (hk : key.size = 32) (hn : nonce.size = 12) (ht : t.size ≤ 200) (w : World) :
    Calls Tryz.prog 121 #[.string key, .string nonce, .int .i64 0, .string t] w fun e w' => e = .returned (.string (streamF key nonce t)) ∧ Below w.heap.size w w' := by
  obtain ⟨G, hG⟩ : ∃ G : Nat → Int, G = fun i => bits .xor .u8 (sb t i) (sb (sblk key nonce (i / 64)) (i % 64)) := ⟨_, rfl⟩
  have HR : Hid (bstr t.size G = streamF key nonce t) := Hid.mk (by rw [hG]; rfl)
  have HG : Hid (∀ k i, i < 64 → bits .xor .u8 (sb t (64 * k + i)) (sb (sblk key nonce k) i) = G (64 * k + i)) := Hid.mk (fun k i hi => by rw [hG]; show _ = bits .xor .u8 (sb t (64 * k + i)) (sb (sblk key nonce ((64 * k + i) / 64)) ((64 * k + i) % 64)); rw [show (64 * k + i) / 64 = k by omega, show (64 * k + i) % 64 = i by omega])
  have c0 : (t.size : Int) ≤ 200 := by omega
  clear hG
  go_enter Tryz.func121, Tryz.ntmps121
  go_wp2_with (refine wpl_make u8s rfl _ _ rfl t.size (t.size : Int) (t.size : Int) rfl rfl rfl rfl (by omega) ?_)
  have A1 : Hid (∀ j, j < t.size → (w.alloc (.cells (tab .u8 t.size (fun _ => 0)) 5)).cell? ⟨w.heap.size, j, none⟩ = some (.int .u8 (thro (min (64 * 0) t.size) G (fun _ => 0) j))) := Hid.mk (fun j hj => by simp [go_sem, hj, thro])
  have A2 : Hid (∀ j, j < t.size → (w.alloc (.cells (tab .u8 t.size (fun _ => 0)) 5)).frozen? ⟨w.heap.size, j, none⟩ = false) := Hid.mk (fun j hj => by simp [go_sem])
  have A3 := by_alloc w (.cells (tab .u8 t.size (fun _ => 0)) 5)
  go_loopw [10, 11, 12] (fun a _ _ wq => ∃ k : Nat, a = .int .i64 (64 * (k : Int)) ∧ 64 * k < t.size + 64 ∧ Hid (∀ j, j < t.size → wq.cell? ⟨w.heap.size, j, none⟩ = some (.int .u8 (thro (min (64 * k) t.size) G (fun _ => 0) j))) ∧ Hid (∀ j, j < t.size → wq.frozen? ⟨w.heap.size, j, none⟩ = false) ∧ Below w.heap.size w wq ∧ w.heap.size < wq.heap.size) (fun a _ _ _ => t.size + 64 - (intOf a).toNat)
  case atStart => exact ⟨0, rfl, by omega, A1, A2, A3, by simp⟩
  case round =>
    clear A1 A2 A3
    obtain ⟨k, rfl, hk64, H1, H2, hB, hsz⟩ := hrel
    by_cases hlt : 64 * k < t.size
    · have c1 : 64 * (k : Int) < t.size := by omega
      have ck : (k : Int) ≤ 3 := by omega
      have zb := sblk_size key nonce k
      have HG2 : Hid (∀ i, i < 64 → bits .xor .u8 (sb t (64 * k + i)) (sb (sblk key nonce k) i) = G (64 * k + i)) := HG.out k
      have emin : min (64 * k) t.size = 64 * k + 0 := by omega
      rw [emin] at H1
      go_wp2_with (go_at_call 148; have M := streamed_any key nonce hk hn k (by omega) wr; with_reducible refine M.mono ?_; clear M; rintro e w2 ⟨rfl, hb2⟩)
      generalize sblk key nonce k = S at *
      have K1 : Hid (∀ j, j < t.size → w2.cell? ⟨w.heap.size, j, none⟩ = some (.int .u8 (thro (64 * k + 0) G (fun _ => 0) j))) := Hid.mk (fun j hj => by rw [hb2.cell hsz]; exact H1.out j hj)
      have K2 : Hid (∀ j, j < t.size → w2.frozen? ⟨w.heap.size, j, none⟩ = false) := Hid.mk (fun j hj => by rw [hb2.frozen hsz]; exact H2.out j hj)
      have KB := below_lift hB (by omega) hb2
      have Ks : w.heap.size < w2.heap.size := by have := hb2.size; omega
      clear H1 H2 hB hsz hb2 emin
      go_loopw [12] (fun a wq => ∃ i : Nat, a = .int .i64 i ∧ i ≤ 64 ∧ 64 * k + i ≤ t.size ∧ Hid (∀ j, j < t.size → wq.cell? ⟨w.heap.size, j, none⟩ = some (.int .u8 (thro (64 * k + i) G (fun _ => 0) j))) ∧ Hid (∀ j, j < t.size → wq.frozen? ⟨w.heap.size, j, none⟩ = false) ∧ Below w.heap.size w wq ∧ w.heap.size < wq.heap.size) (fun a _ => 64 - (intOf a).toNat)
      case atStart => exact ⟨0, rfl, by omega, by omega, K1, K2, KB, Ks⟩
      case round =>
        clear K1 K2 KB Ks
        obtain ⟨i, rfl, hi, hin, H1, H2, hB, hsz⟩ := hrel
        by_cases hl : i < 64 ∧ 64 * k + i < t.size
        · obtain ⟨hl1, hl2⟩ := hl
          have d1 : (i : Int) < 64 := by omega
          have d2 : 64 * (k : Int) + i < t.size := by omega
          have d3 : (64 * (k : Int) + i).toNat = 64 * k + i := by omega
          have d4 : (0 : Int) ≤ 64 * (k : Int) + i := by omega
          have d5 : (i : Int) < S.size := by omega
          have d6 : i < S.size := by omega
          have d7 : IntKind.i64.wrap (64 * (k : Int) + i) = 64 * (k : Int) + i := by rw [IntKind.wrap_i64]; omega
          have y1 := H1.out (64 * k + i) hl2
          have y2 := H2.out (64 * k + i) hl2
          have hx : bits .xor .u8 (t[64 * k + i].toNat : Int) (S[i].toNat : Int) = G (64 * k + i) := by rw [← sb_at t _ hl2, ← sb_at S _ d6]; exact HG2.out i hl1
          go_wp2
          go_region
          go_wp2
          go_roundw
          case rel =>
            obtain ⟨L1, L2, LB⟩ := cl_set (x := 64 * k + i) (z := G (64 * k + i)) H1.out H2.out hB hl2 (Nat.le_refl _)
            rw [thro_step] at L1
            exact ⟨i + 1, by go_num, by omega, by omega, L1, L2, LB.drew, by simpa using hsz⟩
          case measure => simp [intOf]; omega
        · by_cases h64 : i < 64
          · have d1 : (i : Int) < 64 := by omega
            have d2 : ¬ 64 * (k : Int) + i < t.size := by omega
            have e1 : min (64 * (k + 1)) t.size = 64 * k + i := by omega
            go_wp2
            go_roundw
            case rel => exact ⟨k + 1, by go_num, by omega, by rw [e1]; exact H1, H2, hB, hsz⟩
            case measure => simp [intOf]; omega
          · have d1 : (i : Int) = 64 := by omega
            have e1 : min (64 * (k + 1)) t.size = 64 * k + i := by omega
            go_wp2
            go_roundw
            case rel => exact ⟨k + 1, by go_num, by omega, by rw [e1]; exact H1, H2, hB, hsz⟩
            case measure => simp [intOf]; omega
    · have c1 : ¬ 64 * (k : Int) < t.size := by omega
      have e1 : min (64 * k) t.size = t.size := by omega
      rw [e1] at H1
      go_wp2_with (refine wpl_string rfl 87 9 5 _ rfl Tryz.underlying87 Tryz.underlying5 Tryz.underlying9 w.heap.size t.size t.size rfl _ H1.out ?_)
      go_ret
      exact ⟨congrArg (fun z => Ending.returned (Value.string z)) (by rw [← HR.out]; exact bstr_congr fun i hi => by simp [thro, hi]), hB⟩
end Go.Proofs.YteghoooelgcpkabGreatDoor
