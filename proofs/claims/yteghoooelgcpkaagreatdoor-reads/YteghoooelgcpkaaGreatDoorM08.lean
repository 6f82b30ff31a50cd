import Derived.BigQuiet
import Derived.Test.YteghoooelgcpkaaGreatDoorM07
namespace Go.Proofs.YteghoooelgcpkaaGreatDoor
open Go.RowKit Go.Msg
def slen : Value → Nat
  | .string s => s.size
  | _ => 0
theorem cvA (w : World) (x : Int) : (convert 112 9 (.slice (some ⟨w.heap.size, 0, none⟩) 1 1)).run Tryz.prog (w.alloc (.cells #[.int .u8 x] 5)) = .ok (.string (b1 x)) (w.alloc (.cells #[.int .u8 x] 5)) := cv_row _ _ _ (by simp [go_sem])
@[simp, go_sem] theorem lit1_size (x : UInt8) : (ByteArray.mk #[x]).size = 1 := rfl
def b2 (x y : Int) : ByteArray := bstr 2 (fun i => [x, y].getD i 0)
def b4 (x y z u : Int) : ByteArray := bstr 4 (fun i => [x, y, z, u].getD i 0)
@[simp, go_sem] theorem b2_size (x y : Int) : (b2 x y).size = 2 := bstr_size _ _
@[simp, go_sem] theorem b4_size (x y z u : Int) : (b4 x y z u).size = 4 := bstr_size _ _
theorem cvB (w : World) (x y : Int) : (convert 112 9 (.slice (some ⟨w.heap.size, 0, none⟩) 2 2)).run Tryz.prog (w.alloc (.cells #[.int .u8 x, .int .u8 y] 5)) = .ok (.string (b2 x y)) (w.alloc (.cells #[.int .u8 x, .int .u8 y] 5)) := by
  rw [run_convert_row _ 112 9 5 Tryz.underlying112 Tryz.underlying5 Tryz.underlying9 w.heap.size 0 2 2 2 (fun i => [x, y].getD i 0) (by rw [tab_eq]; simp [go_sem]) (by omega)]
  simp only [Nat.zero_add]; rfl
theorem cvD (w : World) (x y z u : Int) : (convert 112 9 (.slice (some ⟨w.heap.size, 0, none⟩) 4 4)).run Tryz.prog (w.alloc (.cells #[.int .u8 x, .int .u8 y, .int .u8 z, .int .u8 u] 5)) = .ok (.string (b4 x y z u)) (w.alloc (.cells #[.int .u8 x, .int .u8 y, .int .u8 z, .int .u8 u] 5)) := by
  rw [run_convert_row _ 112 9 5 Tryz.underlying112 Tryz.underlying5 Tryz.underlying9 w.heap.size 0 4 4 4 (fun i => [x, y, z, u].getD i 0) (by rw [tab_eq]; simp [go_sem]) (by omega)]
  simp only [Nat.zero_add]; rfl
theorem ba_ext {a b : ByteArray} (h : a.size = b.size) (he : ∀ i, i < a.size → sb a i = sb b i) : a = b := by
  apply ByteArray.ext
  apply Array.ext (by simpa using h)
  intro i h1 h2
  have hi : i < a.size := by simpa using h1
  have hj : i < b.size := by simpa using h2
  have := he i hi
  rw [sb_at a i hi, sb_at b i hj] at this
  have h3 : (a[i]).toNat = (b[i]).toNat := by omega
  exact UInt8.toNat_inj.1 h3
theorem ba_empty (a : ByteArray) : a ++ (⟨#[]⟩ : ByteArray) = a := by
  apply ByteArray.ext; simp
theorem zeros_zero : zeros 0 = ⟨#[]⟩ := rfl
theorem sb_past (a : ByteArray) (i : Nat) (h : a.size ≤ i) : sb a i = 0 := by unfold sb; rw [dif_neg (by omega)]
theorem zeros_succ (z : Nat) : zeros (z + 1) = zeros z ++ (⟨#[0]⟩ : ByteArray) := by
  apply ba_ext
  · rw [ByteArray.size_append]; simp only [zeros, bstr_size]; rfl
  · intro i hi
    have hi : i < z + 1 := by simpa [zeros, bstr_size] using hi
    rw [sb_append]
    have h1 : (zeros z).size = z := bstr_size _ _
    rw [h1]
    unfold zeros
    rw [sb_bstr _ _ _ hi (by simp)]
    by_cases h : i < z
    · rw [if_pos h, sb_bstr _ _ _ h (by simp)]
    · rw [if_neg h, show i - z = 0 by omega]; rfl
theorem b4_be (v : Int) (h : B32 v) : b4 (v / 16777216) (v / 65536 % 256) (v / 256 % 256) (v % 256) = be 4 v := by
  have e : v / 16777216 = v / 16777216 % 256 := by unfold B32 at h; omega
  rw [e]
  apply ByteArray.ext
  simp only [be, ByteArray.data_append]
  simp [b4, b1, bstr, strOfNums]
  rfl
set_option maxRecDepth 4000 in
set_option maxHeartbeats 8000000 in
theorem sha_any (p : Value) (t : ByteArray) (ht : t.size ≤ 100000) (w : World) (hp : PrimAt w p) :
    Calls Tryz.prog 97 #[p, .string t] w fun e w' => e = .returned (.string (shaF t)) ∧ Below w.heap.size w w' := by
  have qA := cvA
  have qD := cvD
  obtain ⟨gp, vk, vh, rfl, kp0, kp1, nk, nh⟩ := hp
  have hp : PrimAt w (.pointer (some ⟨gp, 0, none⟩)) := ⟨gp, vk, vh, rfl, kp0, kp1, nk, nh⟩
  obtain ⟨N, hN⟩ : ∃ N, N = t.size + 1 + padZ t.size := ⟨_, rfl⟩
  have HN : Hid (N = t.size + 1 + padZ t.size) := hN
  unfold padZ at hN
  have hN1 : N % 64 = 56 := by omega
  have hN2 : N ≤ t.size + 64 := by omega
  have hN3 : ∀ x, t.size + 1 ≤ x → x ≤ N → x % 64 = 56 → x = N := fun x h1 h2 h3 => by omega
  have hN4 : t.size + 1 ≤ N := by omega
  clear hN
  go_enter Tryz.func97, Tryz.ntmps97
  go_wp2
  go_loop [1] (fun v => ∃ (s : ByteArray) (z : Nat), v = .string s ∧ Hid (s = t ++ b1 128 ++ zeros z) ∧ s.size = t.size + 1 + z ∧ s.size ≤ N) (fun v => N - slen v)
  case atStart => exact ⟨_, 0, rfl, Hid.mk (by rw [zeros_zero, ba_empty]; rfl), by simp [ByteArray.size_append], by simp [ByteArray.size_append]; exact hN4⟩
  case round =>
    obtain ⟨s, z, rfl, HSV, hsz, hs2⟩ := hrel
    have hs1 : t.size + 1 ≤ s.size := by omega
    by_cases hs : s.size = N
    · have c1 : ((s.size : Int) % 64 != 56) = false := by simp; omega
      have HS : Hid (s.size = N) := hs
      have HZ : Hid (z = padZ t.size) := Hid.mk (by have := HN.out; omega)
      have c2 : s.size ≤ 200000 := by omega
      have ct : 8 * (t.size : Int) ≤ 800000 := by omega
      clear hs1 hs2 hs hN3 hsz
      go_wp2
      go_loopw [5, 6, 7] (fun x z i wr => ∃ (y : Int) (b : ByteArray) (k : Nat), x = .int .i64 y ∧ z = .string b ∧ i = .int .i64 k ∧ k ≤ 8 ∧ b.size = k ∧ 0 ≤ y ∧ y ≤ 800000 ∧ Hid (y = 8 * (t.size : Int) / 256 ^ k) ∧ Hid (b = be k (8 * (t.size : Int))) ∧ Below w.heap.size w wr) (fun _ _ i _ => 8 - (intOf i).toNat)
      case atStart => exact ⟨_, _, 0, rfl, rfl, rfl, by omega, rfl, by omega, ct, Hid.mk (by simp), Hid.mk rfl, Below.refl _ _⟩
      case round =>
        obtain ⟨y, b, k, rfl, rfl, rfl, hk, hb, hy0, hy1, HY, HBE, hbel⟩ := hrel
        have hbs := hbel.size
        by_cases hlt : k < 8
        · have c3 : (k : Int) < 8 := by omega
          have c4 : b.size ≤ 8 := by omega
          have HB : Hid (b.size = k) := hb
          clear hb
          go_wp2
          go_roundw
          case rel => exact ⟨_, _, k + 1, rfl, rfl, by go_num, by omega, by rw [ByteArray.size_append, b1_size, HB.out]; omega, by omega, by omega, Hid.mk (by rw [HY.out, Int.pow_succ, Int.ediv_ediv_of_nonneg (Int.le_of_lt (Int.pow_pos (by decide)))]), Hid.mk (by rw [HBE.out, HY.out]; rfl), hbel.alloc hbs _⟩
          case measure => simp [intOf]; omega
        · have hk' : k = 8 := by omega
          subst hk'
          rw [show ((8 : Nat) : Int) = 8 from rfl]
          obtain ⟨W1, hW1⟩ : ∃ W, W = wr := ⟨_, rfl⟩
          subst hW1
          have q1 : W1.cell? ⟨gp, 1, none⟩ = some vh := by rw [hbel.cell (World.block_lt_of_cell? w _ kp1)]; exact kp1
          obtain ⟨m, hm⟩ : ∃ m, (s ++ b).size = 64 * m := ⟨(N + 8) / 64, by rw [ByteArray.size_append, HS.out, hb]; omega⟩
          have hm2 : (s ++ b).size ≤ 300000 := by rw [ByteArray.size_append, hb]; omega
          have HM : Hid ((s ++ b).size = 64 * m) := hm
          have HM2 : Hid ((s ++ b).size ≤ 300000) := hm2
          have c4 : b.size ≤ 8 := by omega
          have HPD : Hid (s ++ b = pad t) := Hid.mk (by rw [HSV.out, HBE.out, HZ.out]; rfl)
          clear hm hm2 hb qA
          go_wp2
          have hm := HM.out
          have hm2 := HM2.out
          clear HM HM2 HS c2 c4 HSV HBE
          generalize s ++ b = T at *
          have HMV : Hid (m = (pad t).size / 64) := Hid.mk (by rw [← HPD.out]; omega)
          have nh1 : NumAt W1 vh 8 Hc := nh.below hbel
          have hp1 := hp.below hbel
          obtain ⟨vl, hvl⟩ : ∃ v, v = vh := ⟨_, rfl⟩
          go_loopw [8, 9] (fun v i wr => ∃ (f : Nat → Int) (k : Nat), Hid (f = hs T k) ∧ i = .int .i64 (64 * (k : Int)) ∧ k ≤ m ∧ NumAt wr v 8 f ∧ PrimAt wr (.pointer (some ⟨gp, 0, none⟩)) ∧ Below w.heap.size w wr) (fun _ i _ => 64 * m - (intOf i).toNat)
          case atStart => exact ⟨Hc, 0, Hid.mk rfl, rfl, by omega, nh1, hp1, hbel⟩
          case round =>
            clear nh1 hp1 hbel hbs q1
            obtain ⟨f, k, HFV, rfl, hk, nv, hp1, hbel⟩ := hrel
            have hbs := hbel.size
            by_cases hlt : k < m
            · have c3 : 64 * (k : Int) < T.size := by omega
              have c5 : 64 * (k : Int) + 64 ≤ T.size := by omega
              have c6 : (T.size : Int) ≤ 300000 := by omega
              have c7 : (64 * (k : Int)).toNat = 64 * k := by omega
              have c8 : (64 * (k : Int) + 64).toNat = 64 * k + 64 := by omega
              go_wp2_with (go_at_call 133; refine (block_any _ _ f ?_ _ ?_ _ hp1 nv).mono ?_; (focus (intro i _; rw [HFV.out]; exact hs_bd T k i)); (focus (simp [ByteArray.size_extract]; omega)); rintro e w2 ⟨v2, rfl, n2, hb2⟩)
              go_roundw
              case rel => exact ⟨_, k + 1, Hid.mk (by rw [HFV.out]; rfl), by go_num, by omega, n2, hp1.below hb2, below_lift hbel hbs hb2⟩
              case measure => simp [intOf]; omega
            · have hk' : k = m := by omega
              subst hk'
              have c3 : ¬ 64 * (k : Int) < T.size := by omega
              obtain ⟨ao, cap, g, rfl, hc1, ha1, hx1⟩ := nv
              obtain rfl := ha1 (by omega)
              have HX : Hid _ := hx1
              clear hx1 ha1 hp1
              obtain ⟨W2, hW2⟩ : ∃ W, W = wr := ⟨_, rfl⟩
              subst hW2
              have HB : Hid _ := hbel
              clear hbel
              go_wp2
              go_loopw [10, 11] (fun o i wq => ∃ (b : ByteArray) (k : Nat), o = .string b ∧ i = .int .i64 k ∧ k ≤ 8 ∧ b.size = 4 * k ∧ Hid (b = dig f k) ∧ Below W2.heap.size W2 wq) (fun _ i _ => 8 - (intOf i).toNat)
              case atStart => exact ⟨_, 0, rfl, rfl, by omega, rfl, Hid.mk rfl, Below.refl _ _⟩
              case round =>
                obtain ⟨b, j, rfl, rfl, hj, hb, HDG, hbel⟩ := hrel
                have hbs2 := hbel.size
                by_cases hlt2 : j < 8
                · have c5 : (j : Int) < 8 := by omega
                  have y0 := HX.out j hlt2
                  have y1 : wr.cell? ⟨g, j, none⟩ = some (.int .i64 (f j)) := by rw [hbel.cell (World.block_lt_of_cell? W2 _ y0)]; exact y0
                  have c6 : b.size ≤ 32 := by omega
                  have HBS : Hid (b.size = 4 * j) := hb
                  have hfb : B32 (f j) := (by rw [HFV.out]; exact hs_bd T k j)
                  obtain ⟨fjl, fjh⟩ := hfb
                  clear hb y0
                  go_wp2
                  go_roundw
                  case rel => exact ⟨_, j + 1, rfl, by go_num, by omega, by rw [ByteArray.size_append, b4_size, HBS.out]; omega, Hid.mk (by rw [HDG.out, dig, b4_be _ ⟨fjl, fjh⟩]), hbel.alloc hbs2 _⟩
                  case measure => simp [intOf]; omega
                · have hj' : j = 8 := by omega
                  subst hj'
                  go_wp2
                  go_ret
                  exact ⟨congrArg (fun z => Ending.returned (Value.string z)) (by rw [HDG.out, HFV.out, HMV.out, HPD.out]; rfl), below_lift HB.out hbs hbel⟩
    · have c1 : ((s.size : Int) % 64 != 56) = true := by
        have := hN3 s.size hs1 hs2
        simp; omega
      have c2 : s.size ≤ 200000 := by omega
      have HN3 : Hid _ := hN3
      clear hN3
      go_wp2
      go_round
      case rel => exact ⟨_, z + 1, rfl, Hid.mk (by rw [HSV.out, zeros_succ, ByteArray.append_assoc (a := t ++ b1 128)]), by simp [ByteArray.size_append]; omega, by simp [ByteArray.size_append]; omega⟩
      case measure => simp [slen, ByteArray.size_append]; omega
end Go.Proofs.YteghoooelgcpkaaGreatDoor
namespace Go
open Go.RowKit Go.Msg Go.Proofs.YteghoooelgcpkaaGreatDoor
theorem wpl_bytes {P : Program} {ops : Array Oper} {rest : List Oper} {o : Oper} {a : Act} {w : World} {Q : Exit → Act → World → Prop} (hgd : o.guard = none) (src dst e : TypeId) (x : Operand) (hop : o.op = .convert src dst x)
    (hs : P.underlying src = some .string) (hd : P.underlying dst = some (.slice e)) (he : P.underlying e = some (.int .u8)) (s : ByteArray) (hx : a.eval x = .string s)
    (h : ∀ cap w', s.size ≤ cap → (∀ i, i < s.size → w'.cell? ⟨w.heap.size, i, none⟩ = some (.int .u8 (sb s i))) → (∀ i, i < s.size → w'.frozen? ⟨w.heap.size, i, none⟩ = false) → Below w.heap.size w w' → w'.heap.size = w.heap.size + 1 →
      wpList P ops Q rest (a.put o.dst (.slice (some ⟨w.heap.size, 0, none⟩) s.size cap)) w') : wpList P ops Q (o :: rest) a w := by
  refine wpList_plain hgd fun _ hK => ?_
  unfold Oper.wp execOp
  simp only [hop, hx]
  rw [Sem.run_bind, run_bytes_of_string w src dst e s hs hd he]
  have hsz : (bytesRow s (grownCap w s.size 0 e)).size = s.size + (grownCap w s.size 0 e - s.size) := by simp [bytesRow]
  have hh : (w.drew.alloc (.cells (bytesRow s (grownCap w s.size 0 e)) e ((bytesRow s (grownCap w s.size 0 e)).size, (bytesRow s (grownCap w s.size 0 e)).size + 1))).heap[w.heap.size]? = some (.cells (bytesRow s (grownCap w s.size 0 e)) e ((bytesRow s (grownCap w s.size 0 e)).size, (bytesRow s (grownCap w s.size 0 e)).size + 1)) := by
    show (w.heap.push _)[w.heap.size]? = _
    simp
  refine hK _ _ (h _ _ (grownCap_ge w s.size 0 e) (fun i hi => ?_) (fun i hi => ?_) ?_ ?_)
  · unfold World.cell?
    simp only [hh]
    have := bytesRow_at s (grownCap w s.size 0 e) i hi
    simp only [this, sb_at s i hi]; rfl
  · unfold World.frozen?
    simp only [hh]
    simp; omega
  · exact (Below.drew (Below.refl _ _)).alloc (Nat.le_refl _) _
  · show (w.heap.push _).size = _; simp
theorem wpl_string {P : Program} {ops : Array Oper} {rest : List Oper} {op : Oper} {a : Act} {w : World} {Q : Exit → Act → World → Prop} (hgd : op.guard = none) (src dst e : TypeId) (x : Operand) (hop : op.op = .convert src dst x)
    (hs : P.underlying src = some (.slice e)) (he : P.underlying e = some (.int .u8)) (hd : P.underlying dst = some .string) (g len cap : Nat) (hx : a.eval x = .slice (some ⟨g, 0, none⟩) len cap) (f : Nat → Int) (hc : ∀ i, i < len → w.cell? ⟨g, i, none⟩ = some (.int .u8 (f i)))
    (h : wpList P ops Q rest (a.put op.dst (.string (bstr len f))) w) : wpList P ops Q (op :: rest) a w := by
  refine wpList_plain hgd fun _ hK => ?_
  unfold Oper.wp execOp
  simp only [hop, hx]
  rw [Sem.run_bind, run_convert_bytes_arg w src e hs he g 0 len cap ((List.range len).map f) (by simp) (fun i hi => by rw [Nat.zero_add, hc i hi]; simp [hi]) dst hd]
  exact hK _ _ h
end Go
namespace Go.Proofs.YteghoooelgcpkaaGreatDoor
open Go.RowKit Go.Msg
set_option maxHeartbeats 2000000 in
theorem added_any (t : ByteArray) (x : Int) (ht : t.size ≤ 1000) (w : World) : Calls Tryz.prog 98 #[.string t, .int .u8 x] w fun e w' => e = .returned (.string (bstr t.size (fun i => bits .xor .u8 (sb t i) x))) ∧ Below w.heap.size w w' := by
  go_enter Tryz.func98, Tryz.ntmps98
  go_wp2_with (refine wpl_bytes rfl 9 112 5 _ rfl Tryz.underlying9 Tryz.underlying112 Tryz.underlying5 t rfl ?_; intro cap W hcap hcell hfz hb hsz)
  have H1 : Hid _ := hcell
  have H2 : Hid _ := hfz
  clear hcell hfz
  go_loopw [6] (fun i wq => ∃ (k : Nat) (F : Nat → Int), Hid (∀ i, F i = if i < k then bits .xor .u8 (sb t i) x else sb t i) ∧ k ≤ t.size ∧ i = .int .i64 k ∧ Hid (∀ j, j < t.size → wq.cell? ⟨w.heap.size, j, none⟩ = some (.int .u8 (F j))) ∧ Hid (∀ j, j < t.size → wq.frozen? ⟨w.heap.size, j, none⟩ = false) ∧ Below w.heap.size w wq) (fun i _ => t.size - (intOf i).toNat)
  case atStart => exact ⟨0, sb t, Hid.mk (by intro i; rw [if_neg (by omega)]), by omega, rfl, H1, H2, hb⟩
  case round =>
    clear H1 H2 hb
    obtain ⟨k, F, HF, hk, rfl, H1, H2, hb⟩ := hrel
    by_cases hlt : k < t.size
    · have c1 : (k : Int) < t.size := by omega
      have y1 := H1.out k hlt
      have y2 := H2.out k hlt
      go_wp2
      go_roundw
      case rel =>
        refine ⟨k + 1, upd F k (bits .xor .u8 (F k) x), ?_, by omega, by go_num, ?_, ?_, ?_⟩
        · intro i
          unfold upd
          by_cases e : i = k
          · subst e; rw [if_pos rfl, if_pos (by omega), HF.out, if_neg (by omega)]
          · rw [if_neg e, HF.out]
            by_cases e2 : i < k
            · rw [if_pos e2, if_pos (by omega)]
            · rw [if_neg e2, if_neg (by omega)]
        · intro j hj
          by_cases e : j = k
          · rw [e, World.cell?_setCell_same _ _ _ y1]; simp only [upd, if_true]
          · rw [World.cell?_setCell_other _ _ _ _ (fun h => e (by have := congrArg Addr.off h; simpa using this.symm)), H1.out j hj]; simp only [upd, e, if_false]
        · intro j hj; simp [H2.out j hj]
        · exact hb.setCell (by simp) _
      case measure => simp [intOf]; omega
    · have hk' : k = t.size := by omega
      subst hk'
      go_wp2_with (refine wpl_string rfl 112 9 5 _ rfl Tryz.underlying112 Tryz.underlying5 Tryz.underlying9 w.heap.size t.size cap rfl F H1.out ?_)
      go_ret
      exact ⟨congrArg (fun z => Ending.returned (Value.string z)) (bstr_congr fun i hi => by rw [HF.out, if_pos hi]), hb⟩
theorem veil_of {s k : ByteArray} (h : s = k ++ zeros (s.size - k.size)) (h64 : s.size = 64) (v : Int) : bstr s.size (fun i => bits .xor .u8 (sb s i) v) = veil k v := by
  unfold veil
  rw [h64]
  refine bstr_congr fun i hi => ?_
  have e : sb s i = sb k i := by
    rw [h, sb_append]
    by_cases hk : i < k.size
    · rw [if_pos hk]
    · rw [if_neg hk, sb_past k i (by omega)]
      unfold zeros
      by_cases h2 : i - k.size < s.size - k.size
      · rw [sb_bstr _ _ _ h2 (by simp)]
      · rw [sb_past _ _ (by rw [bstr_size]; omega)]
  show bits .xor .u8 (sb s i) v = bits .xor .u8 (sb k i) v
  rw [e]
set_option maxHeartbeats 2000000 in
theorem mac_any (p : Value) (k t : ByteArray) (hk : k.size ≤ 64) (ht : t.size ≤ 50000) (w : World) (hp : PrimAt w p) :
    Calls Tryz.prog 62 #[p, .string k, .string t] w fun e w' => e = .returned (.string (macF k t)) ∧ Below w.heap.size w w' := by
  have c0 : ¬ (k.size : Int) > 64 := by omega
  go_enter Tryz.func62, Tryz.ntmps62
  go_wp2
  go_loop [1] (fun v => ∃ (s : ByteArray), v = .string s ∧ Hid (s = k ++ zeros (s.size - k.size)) ∧ k.size ≤ s.size ∧ s.size ≤ 64) (fun v => 64 - slen v)
  case atStart => exact ⟨k, rfl, Hid.mk (by rw [Nat.sub_self, zeros_zero, ba_empty]), Nat.le_refl _, hk⟩
  case round =>
    obtain ⟨s, rfl, HSV, hks, hs⟩ := hrel
    by_cases hlt : s.size < 64
    · have c1 : (s.size : Int) < 64 := by omega
      go_wp2
      go_round
      case rel => exact ⟨_, rfl, Hid.mk (by rw [ByteArray.size_append, lit1_size, show s.size + 1 - k.size = s.size - k.size + 1 by omega, zeros_succ, ← ByteArray.append_assoc, ← HSV.out]), by rw [ByteArray.size_append]; omega, by rw [ByteArray.size_append, lit1_size]; omega⟩
      case measure => simp [slen, ByteArray.size_append]; omega
    · have c1 : ¬ (s.size : Int) < 64 := by omega
      have h64 : s.size = 64 := by omega
      have V54 : bstr s.size (fun i => bits .xor .u8 (sb s i) 54) = veil k 54 := veil_of HSV.out h64 54
      have V92 : bstr s.size (fun i => bits .xor .u8 (sb s i) 92) = veil k 92 := veil_of HSV.out h64 92
      have z1 := veil_size k 54
      have z2 := veil_size k 92
      have z3 := shaF_size (veil k 54 ++ t)
      go_wp2_with (first
        | (go_at_call 98; have M := added_any s 54 (by omega) w; with_reducible refine M.mono ?_; clear M; rintro e w1 ⟨rfl, b1⟩; rw [V54]; have hp1 := hp.below b1; have y1 := b1.size)
        | (go_at_call 98; have M := added_any s 92 (by omega) w1; with_reducible refine M.mono ?_; clear M; rintro e w2 ⟨rfl, b2⟩; rw [V92]; have hp2 := hp1.below b2; have B2 := below_lift b1 y1 b2; have y2 := B2.size)
        | (go_at_call 97; have M := sha_any _ (veil k 54 ++ t) (by rw [ByteArray.size_append]; omega) _ hp2; with_reducible refine M.mono ?_; clear M; rintro e w3 ⟨rfl, b3⟩; have hp3 := hp2.below b3; have B3 := below_lift B2 y2 b3; have y3 := B3.size)
        | (go_at_call 97; have M := sha_any _ (veil k 92 ++ shaF (veil k 54 ++ t)) (by rw [ByteArray.size_append]; omega) _ hp3; with_reducible refine M.mono ?_; clear M; rintro e w4 ⟨rfl, b4⟩))
      go_ret
      exact ⟨rfl, below_lift B3 y3 b4⟩
set_option maxHeartbeats 2000000 in
theorem expand_any (p : Value) (k t u : ByteArray) (n : Nat) (hk : k.size ≤ 64) (ht : t.size ≤ 1000) (hu : u.size ≤ 100) (hn : n ≤ 1000) (w : World) (hp : PrimAt w p) :
    Calls Tryz.prog 93 #[p, .string k, .string t, .string u, .int .i64 (n : Int)] w fun e w' => e = .returned (.string (hkdfF k t u n)) ∧ Below w.heap.size w w' := by
  have qA := cvA
  go_enter Tryz.func93, Tryz.ntmps93
  go_wp2_with (go_at_call 62; refine (mac_any _ k t hk (by omega) _ hp).mono ?_; rintro e w1 ⟨rfl, b1⟩)
  obtain ⟨s1, hs1⟩ : ∃ s, s = macF k t := ⟨_, rfl⟩
  have z1 : s1.size = 32 := by rw [hs1]; exact macF_size _ _
  have HS1 : Hid (s1 = macF k t) := hs1
  rw [← hs1]
  clear hs1
  have hp1 := hp.below b1
  go_loopw [12, 13, 14] (fun o l i wr => ∃ (a b : ByteArray) (j : Nat), o = .string a ∧ l = .string b ∧ i = .int .i64 ((j : Int) + 1) ∧ a.size = 32 * j ∧ b.size ≤ 32 ∧ a.size < n + 32 ∧ Hid (a = hkA s1 u j) ∧ Hid (b = hkT s1 u j) ∧ PrimAt wr p ∧ Below w.heap.size w wr) (fun o _ _ _ => n + 32 - slen o)
  case atStart => exact ⟨_, _, 0, rfl, rfl, rfl, rfl, by decide, by show 0 < n + 32; omega, Hid.mk rfl, Hid.mk rfl, hp1, b1⟩
  case round =>
    clear b1 hp1
    obtain ⟨a, b, j, rfl, rfl, rfl, ha, hb, han, HAV, HBV, hp1, hbel⟩ := hrel
    have hbs := hbel.size
    by_cases hlt : a.size < n
    · have c1 : (a.size : Int) < n := by omega
      have HA : Hid _ := ha
      have c2 : a.size ≤ 1000 := by omega
      have cj : (j : Int) ≤ 32 := by omega
      clear ha
      go_wp2_with (go_at_call 62; refine (mac_any _ s1 _ ?_ ?_ _ ?_).mono ?_; (focus (omega)); (focus (simp [ByteArray.size_append]; omega)); (focus (exact hp1.below (by_alloc _ _))); rintro e w2 ⟨rfl, b2⟩; obtain ⟨s2, hs2⟩ : ∃ s, s = macF s1 (b ++ u ++ b1 ((j : Int) + 1)) := ⟨_, rfl⟩; have z2 : s2.size = 32 := (by rw [hs2]; exact macF_size _ _); rw [← hs2]; have HS2 : Hid _ := hs2; clear hs2; have x2 : s2.size ≤ 32 := (by omega))
      go_roundw
      case rel =>
        have B2 := below_lift (by_alloc wr (.cells #[.int .u8 ((j : Int) + 1)] 5)) (by simp) b2
        exact ⟨_, _, j + 1, rfl, rfl, by go_num, by rw [ByteArray.size_append, z2, HA.out]; omega, x2, by rw [ByteArray.size_append, z2]; omega, Hid.mk (by rw [hkA, ← HAV.out, hkT, ← HBV.out, HS2.out]), Hid.mk (by rw [hkT, ← HBV.out, HS2.out]), hp1.below B2, below_lift hbel hbs B2⟩
      case measure => simp [slen, ByteArray.size_append]; omega
    · have c1 : ¬ (a.size : Int) < n := by omega
      have c2 : (n : Int) ≤ a.size := by omega
      have c3 : a.size ≤ 2000 := by omega
      have hj : j = (n + 31) / 32 := by omega
      have HE : Hid (a.extract 0 n = hkdfF k t u n) := Hid.mk (by rw [hkdfF, HAV.out, ← HS1.out, ← hj])
      clear hj
      go_wp2
      go_ret
      exact ⟨congrArg (fun z => Ending.returned (Value.string z)) HE.out, hbel⟩
end Go.Proofs.YteghoooelgcpkaaGreatDoor
namespace Go.Msg
open Go.RowKit Go.Proofs.YteghoooelgcpkaaGreatDoor
theorem bval_digits (N : Int) (n : Nat) : bval n (fun i => N / 256 ^ i % 256) = N % 256 ^ n := by
  induction n with
  | zero => simp [bval]
  | succ n ih =>
    rw [bval, ih]
    have h1 := Int.mul_ediv_add_emod N (256 ^ n)
    have h2 := Int.mul_ediv_add_emod (N / 256 ^ n) 256
    have hp : (0 : Int) < 256 ^ n := Int.pow_pos (by omega)
    have h3 : N / 256 ^ n / 256 = N / 256 ^ (n + 1) := by rw [Int.ediv_ediv_of_nonneg (by omega), Int.pow_succ]
    have h4 := Int.mul_ediv_add_emod N (256 ^ (n + 1))
    rw [h3] at h2
    rw [Int.pow_succ] at h4 ⊢
    grind
def dhN (k p : ByteArray) : Int := lout (bitAt (clampF (sb k))) (bsum (sb p) 255 % P25519)
def dhF (k p : ByteArray) : ByteArray := bstr 32 (fun i => dhN k p / 256 ^ i % 256)
theorem dhF_size (k p : ByteArray) : (dhF k p).size = 32 := bstr_size _ _
theorem dhN_bd (k p : ByteArray) : 0 ≤ dhN k p ∧ dhN k p < 256 ^ 32 := by
  unfold dhN lout
  have h1 := Int.emod_nonneg ((lrun (bitAt (clampF (sb k))) (bsum (sb p) 255 % P25519) 256).n * (lrun (bitAt (clampF (sb k))) (bsum (sb p) 255 % P25519) 256).d ^ E2) (show P25519 ≠ 0 by decide)
  have h2 := Int.emod_lt_of_pos ((lrun (bitAt (clampF (sb k))) (bsum (sb p) 255 % P25519) 256).n * (lrun (bitAt (clampF (sb k))) (bsum (sb p) 255 % P25519) 256).d ^ E2) (show 0 < P25519 by decide)
  exact ⟨h1, Int.lt_trans h2 (by decide)⟩
theorem toList_inj {a b : ByteArray} : a.toList = b.toList ↔ a = b := by
  rw [ByteArray.toList_eq, ByteArray.toList_eq]
  exact ⟨fun h => ByteArray.ext (Array.toList_inj.1 h), fun h => by rw [h]⟩
theorem eq_dec (a b : ByteArray) : (a.toList == b.toList) = decide (a = b) := by
  rw [Bool.eq_iff_iff]
  simp only [beq_iff_eq, decide_eq_true_eq]
  exact toList_inj
theorem ne_dec (a b : ByteArray) : (!(a.toList == b.toList)) = decide (a ≠ b) := by rw [eq_dec]; simp
theorem isEmpty_dec (a : ByteArray) : a.toList.isEmpty = decide (a = ⟨#[]⟩) := by
  have : a.toList.isEmpty = (a.toList == (⟨#[]⟩ : ByteArray).toList) := by
    rw [show (⟨#[]⟩ : ByteArray).toList = [] from by rw [ByteArray.toList_eq]]
    cases a.toList <;> rfl
  rw [this, eq_dec]
theorem size_zero {a : ByteArray} : a.size = 0 ↔ a = ⟨#[]⟩ := ⟨fun h => ba_ext (by rw [h]; rfl) (fun i hi => by omega), fun h => by rw [h]; rfl⟩
theorem shared_dh {k p : ByteArray} {b : Nat → Int} (h : sharedF k p b) : bstr 32 b = dhF k p := by
  refine bstr_congr (bval_uniq h.1 (fun i _ => ⟨by omega, by omega⟩) (h.2.trans ?_))
  have hb := dhN_bd k p
  rw [bval_digits, Int.emod_eq_of_lt hb.1 hb.2]; rfl
def nine : ByteArray := ⟨#[9]⟩
def pubF (k : ByteArray) : ByteArray := dhF k nine
theorem pubF_size (k : ByteArray) : (pubF k).size = 32 := bstr_size _ _
end Go.Msg
namespace Go.Proofs.YteghoooelgcpkaaGreatDoor
open Go.RowKit Go.Msg
theorem cshared_f (k p : ByteArray) (hk : k.size ≤ 9223372036854775807) (hp : p.size ≤ 9223372036854775807) (w : World) :
    Calls Tryz.prog 101 #[.string k, .string p] w fun e w' => e = .returned (.string (dhF k p)) ∧ Below w.heap.size w w' :=
  (cshared_any k p hk hp w).mono fun e w' ⟨b, h1, h2, h3⟩ => ⟨by rw [h1, shared_dh h2], h3⟩
set_option maxHeartbeats 400000 in
theorem rshared_f (k p : ByteArray) (hk : k.size = 32) (hp : 32 ≤ p.size) (w : World) :
    Calls Tryz.prog 58 #[.string k, .string p] w fun e w' => e = .returned (.tuple #[.string (dhF k p), .bool (decide (dhF k p ≠ zeros 32))]) ∧ Below w.heap.size w w' := by
  go_enter Tryz.func58, Tryz.ntmps58
  go_wp2_with (first
    | (go_at_call 95; refine (rclamp_any k hk _).mono ?_; rintro e w1 ⟨c, rfl, hc, hs, hb1⟩; have s1 := hb1.size)
    | (go_at_call 96; refine (rladder_any c p hc hp _).mono ?_; rintro e w2 ⟨b, rfl, hbb, hbv, hb2⟩; have b2 := below_lift hb1 s1 hb2; have s2 := b2.size; have HD : bstr 32 b = dhF k p := shared_dh ⟨hbb, (by rw [← hs]; exact hbv)⟩; rw [HD]; clear HD)
    | (refine wpl_make u8s rfl _ _ rfl 32 32 32 rfl rfl rfl rfl (by omega) ?_)
    | (refine wpl_convert rfl 112 9 5 _ rfl Tryz.underlying112 Tryz.underlying5 Tryz.underlying9 w2.heap.size 0 32 32 rfl 32 (fun _ => 0) ?_ (by decide) ?_; (focus (simp [go_sem]; done))))
  go_ret2
  exact ⟨congrArg (fun z => Ending.returned (.tuple #[.string (dhF k p), .bool z])) (ne_dec _ _), b2.alloc s2 _⟩
theorem dh_nine (k : ByteArray) : dhF k (⟨#[9]⟩ ++ bstr 31 (fun _ => 0)) = pubF k := by unfold pubF dhF dhN; rw [sb_nine]; rfl
theorem rpublic_f (k : ByteArray) (hk : k.size = 32) (w : World) :
    Calls Tryz.prog 52 #[.string k] w fun e w' => e = .returned (.string (pubF k)) ∧ Below w.heap.size w w' :=
  (rpublic_any k hk w).mono fun e w' ⟨s, h1, ⟨b, h4, h5, h6⟩, h3⟩ => ⟨by rw [h1, h4, shared_dh (k := k) (p := nine) ⟨h5, h6⟩]; rfl, h3⟩
theorem cpoint_f (k : ByteArray) (hk : k.size = 32) (w : World) :
    Calls Tryz.prog 68 #[.string k] w fun e w' => e = .returned (.string (pubF k)) ∧ Below w.heap.size w w' :=
  (point_any k (by omega) w).mono fun e w' ⟨b, h1, h2, h3⟩ => ⟨by rw [h1, shared_dh h2]; rfl, h3⟩
theorem spublic_f (k : ByteArray) (hk : k.size = 32) (w : World) :
    Calls Tryz.prog 77 #[.string k] w fun e w' => e = .returned (.tuple #[.string (pubF k), .int .i64 0]) ∧ Below w.heap.size w w' :=
  (spublic_any k hk w).mono fun e w' ⟨b, h1, h2, h3⟩ => ⟨by rw [h1, shared_dh h2]; rfl, h3⟩
end Go.Proofs.YteghoooelgcpkaaGreatDoor
namespace Go.Msg
open Go.RowKit
def numF (b : Nat → Int) : Nat → Int
  | 0 => 0
  | k + 1 => numF b k * 256 + b k
theorem numF_bd {b : Nat → Int} (h : B8 b) (k : Nat) : 0 ≤ numF b k ∧ numF b k < 256 ^ k := by
  induction k with
  | zero => simp [numF]
  | succ k ih => have := h k; rw [numF, Int.pow_succ]; omega
theorem numF_lt {b : Nat → Int} (h : B8 b) {k : Nat} (hk : k < 4) : 0 ≤ numF b k ∧ numF b k < 16777216 := by
  have := numF_bd h k
  match k, hk with
  | 0, _ => simp [numF]
  | 1, _ => simp at this ⊢; omega
  | 2, _ => simp at this ⊢; omega
  | 3, _ => simp at this ⊢; omega
theorem numF_congr {b c : Nat → Int} {k : Nat} (h : ∀ i, i < k → b i = c i) : numF b k = numF c k := by
  induction k with
  | zero => rfl
  | succ k ih => rw [numF, numF, ih (fun i hi => h i (by omega)), h k (by omega)]
theorem or_byte {x y : Int} (hx : 0 ≤ x ∧ x < 16777216) (hy : 0 ≤ y ∧ y < 256) : bits .or .u32 (x * 256) y = x * 256 + y :=
  bits_join .u32 32 (by decide) wraps_u32 8 _ _ (by omega) (by omega) (by omega) hy.1 (by omega) (by omega)
end Go.Msg
namespace Go.Proofs.YteghoooelgcpkaaGreatDoor
open Go.RowKit Go.Msg
set_option maxHeartbeats 1000000 in
theorem otext_any (x : Int) (hx : B32 x) (s : Nat) (hs : s ≤ 8) (w : World) :
    Calls Tryz.prog 100 #[.int .u32 x, .int .i64 (s : Int)] w fun e w' => e = .returned (.string (be s x)) ∧ Below w.heap.size w w' := by
  have qA := cvA
  obtain ⟨hx0, hx1⟩ := hx
  go_enter Tryz.func100, Tryz.ntmps100
  go_wp2
  go_loopw [0, 5, 6] (fun x' z i wr => ∃ (y : Int) (b : ByteArray) (k : Nat), x' = .int .u32 y ∧ z = .string b ∧ i = .int .i64 k ∧ k ≤ s ∧ b.size = k ∧ 0 ≤ y ∧ y < 4294967296 ∧ Hid (y = x / 256 ^ k) ∧ Hid (b = be k x) ∧ Below w.heap.size w wr) (fun _ _ i _ => s - (intOf i).toNat)
  case atStart => exact ⟨x, _, 0, rfl, rfl, rfl, by omega, rfl, hx0, hx1, Hid.mk (by simp), Hid.mk rfl, Below.refl _ _⟩
  case round =>
    obtain ⟨y, b, k, rfl, rfl, rfl, hk, hb, hy0, hy1, HY, HBE, hbel⟩ := hrel
    have hbs := hbel.size
    by_cases hlt : k < s
    · have c3 : (k : Int) < s := by omega
      have c4 : b.size ≤ 8 := by omega
      have HB : Hid (b.size = k) := hb
      clear hb
      go_wp2
      go_roundw
      case rel => exact ⟨_, _, k + 1, rfl, rfl, by go_num, by omega, by rw [ByteArray.size_append, b1_size, HB.out]; omega, by omega, by omega, Hid.mk (by rw [HY.out, Int.pow_succ, Int.ediv_ediv_of_nonneg (Int.le_of_lt (Int.pow_pos (by decide)))]), Hid.mk (by rw [HBE.out, HY.out]; rfl), hbel.alloc hbs _⟩
      case measure => simp [intOf]; omega
    · have c3 : ¬ (k : Int) < s := by omega
      have hk' : k = s := by omega
      subst hk'
      go_wp2
      go_ret
      exact ⟨congrArg (fun z => Ending.returned (Value.string z)) HBE.out, hbel⟩
theorem otext1 (x : Int) (hx : B32 x) (w : World) : Calls Tryz.prog 100 #[.int .u32 x, .int .i64 1] w fun e w' => e = .returned (.string (be 1 x)) ∧ Below w.heap.size w w' := otext_any x hx 1 (by omega) w
theorem otext2 (x : Int) (hx : B32 x) (w : World) : Calls Tryz.prog 100 #[.int .u32 x, .int .i64 2] w fun e w' => e = .returned (.string (be 2 x)) ∧ Below w.heap.size w w' := otext_any x hx 2 (by omega) w
theorem otext4 (x : Int) (hx : B32 x) (w : World) : Calls Tryz.prog 100 #[.int .u32 x, .int .i64 4] w fun e w' => e = .returned (.string (be 4 x)) ∧ Below w.heap.size w w' := otext_any x hx 4 (by omega) w
set_option maxHeartbeats 1000000 in
theorem onumber_any (t : ByteArray) (ht : t.size ≤ 4) (w : World) :
    Calls Tryz.prog 150 #[.string t] w fun e w' => e = .returned (.int .u32 (numF (sb t) t.size)) ∧ w' = w := by
  have hb8 : B8 (sb t) := sb_B8 t
  go_enter Tryz.func150, Tryz.ntmps150
  go_wp2
  go_loop [3, 4] (fun x i => ∃ (y : Int) (k : Nat), x = .int .u32 y ∧ i = .int .i64 k ∧ k ≤ t.size ∧ Hid (y = numF (sb t) k)) (fun _ i => t.size - (intOf i).toNat)
  case atStart => exact ⟨0, 0, rfl, rfl, by omega, Hid.mk rfl⟩
  case round =>
    obtain ⟨y, k, rfl, rfl, hk, HY⟩ := hrel
    by_cases hlt : k < t.size
    · have c3 : (k : Int) < t.size := by omega
      have hy := numF_lt hb8 (show k < 4 by omega)
      rw [← HY.out] at hy
      have HV : Hid (sb t k = (t[k].toNat : Int)) := Hid.mk (sb_at t k hlt)
      have hby := hb8 k
      have ho := or_byte hy hby
      rw [HV.out] at ho hby
      obtain ⟨hy0, hy1⟩ := hy
      obtain ⟨by0, by1⟩ := hby
      go_wp2
      go_round
      case rel => exact ⟨_, k + 1, rfl, by go_num, by omega, Hid.mk (by rw [numF, ← HY.out, HV.out])⟩
      case measure => simp [intOf]; omega
    · have c3 : ¬ (k : Int) < t.size := by omega
      have hk' : k = t.size := by omega
      subst hk'
      go_wp2
      go_ret
      exact ⟨congrArg (fun z => Ending.returned (Value.int .u32 z)) HY.out, rfl⟩
set_option maxHeartbeats 1000000 in
theorem right_any (x n : Int) (hx : B32 x) (h0 : 1 ≤ n) (h1 : n ≤ 31) (w : World) : Calls Tryz.prog 185 #[.int .u32 x, .int .u64 n] w fun e w' => e = .returned (.int .u32 (rr x n.toNat)) ∧ w' = w := by
  obtain ⟨m, rfl⟩ : ∃ m : Nat, n = m := ⟨n.toNat, by omega⟩
  have t1 : (32 - (m : Int)).toNat = 32 - m := by omega
  have ho := rr_or hx m (by omega)
  obtain ⟨hx0, hx1⟩ := hx
  go_enter Tryz.func185, Tryz.ntmps185
  go_wp2
  go_ret
  exact ⟨rfl, rfl⟩
end Go.Proofs.YteghoooelgcpkaaGreatDoor
namespace Go.Proofs.YteghoooelgcpkaaGreatDoor
open Go.RowKit Go.Msg
theorem rtW : RowTy Tryz.prog 202 64 := ⟨by decide, by kernel_rfl, _, Tryz.underlying202, rfl⟩
theorem rtS : RowTy Tryz.prog 201 8 := ⟨by decide, by kernel_rfl, _, Tryz.underlying201, rfl⟩
@[go_sem] theorem zero64 : #[Value.int IntKind.u32 0, Value.int IntKind.u32 0, Value.int IntKind.u32 0, Value.int IntKind.u32 0, Value.int IntKind.u32 0, Value.int IntKind.u32 0, Value.int IntKind.u32 0, Value.int IntKind.u32 0, Value.int IntKind.u32 0, Value.int IntKind.u32 0, Value.int IntKind.u32 0, Value.int IntKind.u32 0, Value.int IntKind.u32 0, Value.int IntKind.u32 0, Value.int IntKind.u32 0, Value.int IntKind.u32 0, Value.int IntKind.u32 0, Value.int IntKind.u32 0, Value.int IntKind.u32 0, Value.int IntKind.u32 0, Value.int IntKind.u32 0, Value.int IntKind.u32 0, Value.int IntKind.u32 0, Value.int IntKind.u32 0, Value.int IntKind.u32 0, Value.int IntKind.u32 0, Value.int IntKind.u32 0, Value.int IntKind.u32 0, Value.int IntKind.u32 0, Value.int IntKind.u32 0, Value.int IntKind.u32 0, Value.int IntKind.u32 0, Value.int IntKind.u32 0, Value.int IntKind.u32 0, Value.int IntKind.u32 0, Value.int IntKind.u32 0, Value.int IntKind.u32 0, Value.int IntKind.u32 0, Value.int IntKind.u32 0, Value.int IntKind.u32 0, Value.int IntKind.u32 0, Value.int IntKind.u32 0, Value.int IntKind.u32 0, Value.int IntKind.u32 0, Value.int IntKind.u32 0, Value.int IntKind.u32 0, Value.int IntKind.u32 0, Value.int IntKind.u32 0, Value.int IntKind.u32 0, Value.int IntKind.u32 0, Value.int IntKind.u32 0, Value.int IntKind.u32 0, Value.int IntKind.u32 0, Value.int IntKind.u32 0, Value.int IntKind.u32 0, Value.int IntKind.u32 0, Value.int IntKind.u32 0, Value.int IntKind.u32 0, Value.int IntKind.u32 0, Value.int IntKind.u32 0, Value.int IntKind.u32 0, Value.int IntKind.u32 0, Value.int IntKind.u32 0, Value.int IntKind.u32 0] = tab .u32 64 (fun _ => 0) := by rw [tab_eq]; rfl
@[go_sem] theorem zero8 : #[Value.int IntKind.u32 0, Value.int IntKind.u32 0, Value.int IntKind.u32 0, Value.int IntKind.u32 0, Value.int IntKind.u32 0, Value.int IntKind.u32 0, Value.int IntKind.u32 0, Value.int IntKind.u32 0] = tab .u32 8 (fun _ => 0) := by rw [tab_eq]; rfl
abbrev c64 (f : Nat → Int) : Obj := .cells (tab .u32 64 f) 202
abbrev c8 (f : Nat → Int) : Obj := .cells (tab .u32 8 f) 201
theorem num_word (t : ByteArray) (k : Nat) (h : 4 * k + 4 ≤ t.size) : numF (sb (t.extract (4 * k) (4 * k + 4))) 4 = word (fun i => sb t i) k := by
  have e : ∀ i, i < 4 → sb (t.extract (4 * k) (4 * k + 4)) i = sb t (4 * k + i) := fun i hi => sb_extract t _ _ i (by omega) h
  simp only [numF, word, e 0 (by omega), e 1 (by omega), e 2 (by omega), e 3 (by omega), Nat.add_zero]
  omega
set_option maxRecDepth 4000 in
set_option maxHeartbeats 4000000 in
theorem schedule_any (t : ByteArray) (ht : t.size = 64) (w : World) :
    Calls Tryz.prog 170 #[.string t] w fun e w' => e = .returned (.agg (tab .u32 64 (wl (fun i => sb t i) 64))) ∧ Below w.heap.size w w' := by
  obtain ⟨bt, hbt⟩ : ∃ b : Nat → Int, b = fun i => sb t i := ⟨_, rfl⟩
  have hb8 : B8 bt := by rw [hbt]; exact sb_B8 t
  have HBT : Hid (bt = fun i => sb t i) := hbt
  rw [← hbt]
  clear hbt
  go_enter Tryz.func170, Tryz.ntmps170
  go_wp2
  go_loopw [4] (fun i wr => ∃ k n : Nat, k ≤ 16 ∧ i = .int .i64 k ∧ wr = ((w.alloc (c64 (fun _ => 0))).alloc (c64 (wl bt k))).dr n) (fun i _ => 16 - (intOf i).toNat)
  case atStart => exact ⟨0, _, by omega, rfl, (World.dr_self _).symm⟩
  case round =>
    obtain ⟨k, n, hk, rfl, rfl⟩ := hrel
    by_cases hlt : k < 16
    · have c1 : (k : Int) < 16 := by omega
      have c2 : 4 * ((k : Int) + 1) ≤ t.size := by omega
      have c3 : 4 * k + 4 ≤ t.size := by omega
      have c4 : (4 * (k : Int)).toNat = 4 * k := by omega
      have c5 : (4 * ((k : Int) + 1)).toNat = 4 * k + 4 := by omega
      have c6 : k < 64 := by omega
      have HW : Hid (numF (sb (t.extract (4 * k) (4 * k + 4))) 4 = word bt k) := Hid.mk (by rw [HBT.out]; exact num_word t k c3)
      have hz : (t.extract (4 * k) (4 * k + 4)).size = 4 := by rw [ByteArray.size_extract]; omega
      obtain ⟨f, hf⟩ : ∃ f, f = wl bt k := ⟨_, rfl⟩
      rw [← hf]
      have HF : Hid (upd f k (word bt k) = wl bt (k + 1)) := Hid.mk (by rw [hf, wl_lo _ _ hlt])
      clear hf
      go_wp2_with (go_at_call 150; have M := onumber_any (t.extract (4 * k) (4 * k + 4)) (by omega) (((w.alloc (c64 (fun _ => 0))).alloc (c64 f)).dr n); with_reducible refine M.mono ?_; clear M; rintro e w1 ⟨rfl, rfl⟩; rw [hz, HW.out])
      go_roundw
      case rel => exact ⟨k + 1, _, by omega, by go_num, by rw [← HF.out]⟩
      case measure => simp [intOf]; omega
    · have hk' : k = 16 := by omega
      subst hk'
      rw [show ((16 : Nat) : Int) = 16 from rfl]
      go_wp2
      go_loopw [5, 6, 7] (fun i _ _ wr => ∃ k n : Nat, k ≤ 48 ∧ i = .int .i64 ((k : Int) + 16) ∧ wr = ((w.alloc (c64 (fun _ => 0))).alloc (c64 (wl bt (k + 16)))).dr n) (fun i _ _ _ => 64 - (intOf i).toNat)
      case atStart => exact ⟨0, _, by omega, rfl, rfl⟩
      case round =>
        obtain ⟨m, n, hm, rfl, rfl⟩ := hrel
        by_cases hlt : m < 48
        · have c1 : (m : Int) + 16 < 64 := by omega
          have c2 : m + 16 < 64 := by omega
          have i1 : (m : Int) + 1 < 64 := by omega
          have j1 : (0 : Int) ≤ (m : Int) + 1 := by omega
          have t1 : ((m : Int) + 1).toNat = m + 1 := by omega
          have l1 : m + 1 < 64 := by omega
          have i9 : (m : Int) + 9 < 64 := by omega
          have j9 : (0 : Int) ≤ (m : Int) + 9 := by omega
          have t9 : ((m : Int) + 9).toNat = m + 9 := by omega
          have l9 : m + 9 < 64 := by omega
          have i14 : (m : Int) + 14 < 64 := by omega
          have j14 : (0 : Int) ≤ (m : Int) + 14 := by omega
          have t14 : ((m : Int) + 14).toNat = m + 14 := by omega
          have l14 : m + 14 < 64 := by omega
          have l0 : m < 64 := by omega
          have w15 : IntKind.i64.wrap ((m : Int) + 16 - 15) = (m : Int) + 1 := by rw [IntKind.wrap_i64]; omega
          have w2 : IntKind.i64.wrap ((m : Int) + 16 - 2) = (m : Int) + 14 := by rw [IntKind.wrap_i64]; omega
          have w16 : IntKind.i64.wrap ((m : Int) + 16 - 16) = (m : Int) := by rw [IntKind.wrap_i64]; omega
          have w7 : IntKind.i64.wrap ((m : Int) + 16 - 7) = (m : Int) + 9 := by rw [IntKind.wrap_i64]; omega
          obtain ⟨f, hf⟩ : ∃ f, f = wl bt (m + 16) := ⟨_, rfl⟩
          have hfb : ∀ i, B32 (f i) := by rw [hf]; exact wl_bd hb8 _
          have HFB : Hid _ := hfb
          have HF : Hid (upd f (m + 16) (wnext f m) = wl bt (m + 16 + 1)) := Hid.mk (by rw [hf, wl_hi])
          rw [← hf]
          clear hf
          obtain ⟨b0l, b0h⟩ := hfb m
          obtain ⟨b1l, b1h⟩ := hfb (m + 1)
          obtain ⟨b9l, b9h⟩ := hfb (m + 9)
          obtain ⟨b14l, b14h⟩ := hfb (m + 14)
          obtain ⟨s0, hs0⟩ : ∃ s, s = sg0 (f (m + 1)) := ⟨_, rfl⟩
          obtain ⟨s1, hs1⟩ : ∃ s, s = sg1 (f (m + 14)) := ⟨_, rfl⟩
          have bs0 : B32 s0 := by rw [hs0]; exact xr_bd _ _
          have bs1 : B32 s1 := by rw [hs1]; exact xr_bd _ _
          obtain ⟨bs0l, bs0h⟩ := bs0
          obtain ⟨bs1l, bs1h⟩ := bs1
          have E0 : bits .xor .u32 (bits .xor .u32 (rr (f (m + 1)) 7) (rr (f (m + 1)) 18)) (f (m + 1) / 8) = s0 := hs0.symm
          have E1 : bits .xor .u32 (bits .xor .u32 (rr (f (m + 14)) 17) (rr (f (m + 14)) 19)) (f (m + 14) / 1024) = s1 := hs1.symm
          have HW : Hid ((f m + s0 + f (m + 9) + s1) % 4294967296 = wnext f m) := Hid.mk (by rw [hs0, hs1]; rfl)
          clear hs0 hs1 hfb
          go_wp2_with fail
          go_quiet (first | (go_at_call 185; exact (right_any _ _ (HFB.out _) (by decide) (by decide) _).mono fun _ _ h => ⟨h.1, _, h.2⟩))
          go_wp2_with fail
          go_quiet (first | (go_at_call 185; exact (right_any _ _ (HFB.out _) (by decide) (by decide) _).mono fun _ _ h => ⟨h.1, _, h.2⟩))
          go_wp2_with fail
          go_region
          go_wp2
          go_roundw
          case rel => exact ⟨m + 1, _, by omega, by go_num, by rw [show m + 1 + 16 = m + 16 + 1 by omega, ← HF.out, ← HW.out]⟩
          case measure => simp [intOf]; omega
        · have hm' : m = 48 := by omega
          subst hm'
          rw [show ((48 : Nat) : Int) + 16 = 64 from rfl]
          go_wp2_with (first | (refine wpl_load rtW rfl _ rfl _ rfl (tab .u32 64 (wl bt 64)) ?_ (tab_size _ _ _) ?_; (focus (first | (simp [go_sem]; done) | (simp (disch := first | (simp [go_sem]; done) | (simp [go_sem]; omega)) [go_sem]; done)))) | (refine wpl_store rtW rfl _ _ rfl _ rfl (tab .u32 64 (wl bt 64)) rfl ?_ (tab_size _ _ _) (tab_all _ _ _) (((w.alloc (c64 (wl bt 64))).alloc (c64 (wl bt 64))).dr n) ?_ ?_; (focus (first | (simp [go_sem]; done) | (simp (disch := first | (simp [go_sem]; done) | (simp [go_sem]; omega)) [go_sem]; done))); (focus (first | (simp [go_sem]; done) | (simp (disch := first | (simp [go_sem]; done) | (simp [go_sem]; omega)) [go_sem]; done)))))
          exact bodyPost_ret (v := .agg (tab .u32 64 (wl bt 64))) (by rw [results_row rtW Tryz.results170 _ _ (w.heap.size) rfl (by first | (simp [go_sem]; done) | (simp (disch := first | (simp [go_sem]; done) | (simp [go_sem]; omega)) [go_sem]; done))]; first | (simp [go_sem]; done) | (simp (disch := first | (simp [go_sem]; done) | (simp [go_sem]; omega)) [go_sem]; done)) rfl ⟨rfl, below2 _ _ _ _⟩
end Go.Proofs.YteghoooelgcpkaaGreatDoor
namespace Go.Msg
open Go.RowKit
theorem not32 {x : Int} (h : B32 x) : bits .xor .u32 4294967295 x = 4294967295 - x := by
  obtain ⟨a, rfl, ha⟩ := h.nat
  have e : BitVec.ofInt 32 4294967295 = BitVec.allOnes 32 := by decide
  show IntKind.u32.wrap ((BitVec.ofInt 32 4294967295 ^^^ BitVec.ofInt 32 (a : Int)).toNat : Int) = _
  rw [e, BitVec.allOnes_xor, BitVec.toNat_not, BitVec.ofInt_natCast, BitVec.toNat_ofNat, Nat.mod_eq_of_lt ha, IntKind.wrap_u32]
  omega
def shf (s : Nat → Int) (k i : Nat) : Int := if k < i then s (i - 1) else s i
theorem shf_at (s : Nat → Int) (k : Nat) : shf s (k + 1) k = s k := by unfold shf; rw [if_neg (by omega)]
theorem shf_step (s : Nat → Int) (k : Nat) : upd (shf s (k + 1)) (k + 1) (s k) = shf s k := by
  funext i
  unfold upd shf
  by_cases e : i = k + 1
  · subst e; simp
  · rw [if_neg e]
    by_cases h : k + 1 < i
    · rw [if_pos h, if_pos (by omega)]
    · rw [if_neg h, if_neg (by omega)]
theorem shf_start (s : Nat → Int) (i : Nat) (h : i < 8) : shf s 7 i = s i := by unfold shf; rw [if_neg (by omega)]
end Go.Msg
namespace Go.Proofs.YteghoooelgcpkaaGreatDoor
open Go.RowKit Go.Msg
theorem rstep_tab (x : Int) (s f : Nat → Int) (hf : f = shf s 0) : tab .u32 8 (upd (upd f 4 ((s 3 + rT 0 x s) % 4294967296)) 0 ((rT 0 x s + rU s) % 4294967296)) = tab .u32 8 (rstep 0 x s) := by
  subst hf
  refine tab_congr fun i hi => ?_
  match i, hi with
  | 0, _ => rfl
  | 1, _ => rfl
  | 2, _ => rfl
  | 3, _ => rfl
  | 4, _ => rfl
  | 5, _ => rfl
  | 6, _ => rfl
  | 7, _ => rfl
set_option maxRecDepth 4000 in
set_option maxHeartbeats 4000000 in
theorem sround_any (s : Nat → Int) (hs : ∀ i, i < 8 → B32 (s i)) (x : Int) (hx : B32 x) (w : World) :
    Calls Tryz.prog 186 #[.agg (tab .u32 8 s), .int .u32 x] w fun e w' => e = .returned (.agg (tab .u32 8 (rstep 0 x s))) ∧ Below w.heap.size w w' := by
  obtain ⟨xl, xh⟩ := hx
  have HS : Hid _ := hs
  have E1 : bits .xor .u32 (bits .xor .u32 (rr (s 4) 6) (rr (s 4) 11)) (rr (s 4) 25) = xr (xr (rr (s 4) 6) (rr (s 4) 11)) (rr (s 4) 25) := rfl
  have E2 : bits .xor .u32 (bits .and .u32 (s 4) (s 5)) (bits .and .u32 (bits .xor .u32 IntKind.u32.max (s 4)) (s 6)) = xr (an (s 4) (s 5)) (an (4294967295 - s 4) (s 6)) := by rw [show IntKind.u32.max = 4294967295 from rfl, not32 (hs 4 (by omega))]; rfl
  have E3 : bits .xor .u32 (bits .xor .u32 (rr (s 0) 2) (rr (s 0) 13)) (rr (s 0) 22) = xr (xr (rr (s 0) 2) (rr (s 0) 13)) (rr (s 0) 22) := rfl
  have E4 : bits .xor .u32 (bits .xor .u32 (bits .and .u32 (s 0) (s 1)) (bits .and .u32 (s 0) (s 2))) (bits .and .u32 (s 1) (s 2)) = xr (xr (an (s 0) (s 1)) (an (s 0) (s 2))) (an (s 1) (s 2)) := rfl
  obtain ⟨X1, hX1⟩ : ∃ X, X = xr (xr (rr (s 4) 6) (rr (s 4) 11)) (rr (s 4) 25) := ⟨_, rfl⟩
  obtain ⟨X2, hX2⟩ : ∃ X, X = xr (an (s 4) (s 5)) (an (4294967295 - s 4) (s 6)) := ⟨_, rfl⟩
  obtain ⟨X3, hX3⟩ : ∃ X, X = xr (xr (rr (s 0) 2) (rr (s 0) 13)) (rr (s 0) 22) := ⟨_, rfl⟩
  obtain ⟨X4, hX4⟩ : ∃ X, X = xr (xr (an (s 0) (s 1)) (an (s 0) (s 2))) (an (s 1) (s 2)) := ⟨_, rfl⟩
  rw [← hX1] at E1
  rw [← hX2] at E2
  rw [← hX3] at E3
  rw [← hX4] at E4
  have HT : Hid ((s 7 + X1 + X2 + x) % 4294967296 = rT 0 x s) := Hid.mk (by unfold rT; rw [hX1, hX2, Int.add_zero])
  have HU : Hid ((X3 + X4) % 4294967296 = rU s) := Hid.mk (by rw [hX3, hX4]; rfl)
  have b1 : B32 X1 := by rw [hX1]; exact xr_bd _ _
  have b2 : B32 X2 := by rw [hX2]; exact xr_bd _ _
  have b3 : B32 X3 := by rw [hX3]; exact xr_bd _ _
  have b4 : B32 X4 := by rw [hX4]; exact xr_bd _ _
  obtain ⟨X1l, X1h⟩ := b1
  obtain ⟨X2l, X2h⟩ := b2
  obtain ⟨X3l, X3h⟩ := b3
  obtain ⟨X4l, X4h⟩ := b4
  have b3 := hs 3 (by omega)
  have b7 := hs 7 (by omega)
  obtain ⟨s3l, s3h⟩ := b3
  obtain ⟨s7l, s7h⟩ := b7
  clear hX1 hX2 hX3 hX4 hs
  go_enter Tryz.func186, Tryz.ntmps186
  go_wp2_with fail
  go_quiet (fail)
  go_wp2_with fail
  go_quiet (fail)
  go_wp2_with fail
  go_quiet (first | (go_at_call 185; exact (right_any _ _ (HS.out _ (by decide)) (by decide) (by decide) _).mono fun _ _ h => ⟨h.1, _, h.2⟩))
  go_wp2_with (go_at_call 185; refine (right_any _ _ (HS.out _ (by decide)) (by decide) (by decide) _).mono ?_; rintro e w1 ⟨rfl, rfl⟩)
  rw [HT.out, HU.out]
  obtain ⟨T, hT⟩ : ∃ T, T = rT 0 x s := ⟨_, rfl⟩
  obtain ⟨U, hU⟩ : ∃ U, U = rU s := ⟨_, rfl⟩
  rw [← hT, ← hU]
  have bT : B32 T := by rw [hT]; exact mod32 _
  have bU : B32 U := by rw [hU]; exact mod32 _
  obtain ⟨Tl, Th⟩ := bT
  obtain ⟨Ul, Uh⟩ := bU
  have HTT : Hid (T = rT 0 x s) := hT
  have HUU : Hid (U = rU s) := hU
  clear hT hU E1 E2 E3 E4 HT HU
  go_loopw [13] (fun i wr => ∃ k n : Nat, k ≤ 7 ∧ i = .int .i64 k ∧ wr = ((w.alloc (c8 (shf s k))).alloc (c8 (fun _ => 0))).dr n) (fun i _ => (intOf i).toNat)
  case atStart => exact ⟨7, _, by omega, rfl, by rw [c8, c8, tab_congr (shf_start s)]; rfl⟩
  case round =>
    obtain ⟨k, n, hk, rfl, rfl⟩ := hrel
    by_cases hlt : 0 < k
    · obtain ⟨m, rfl⟩ : ∃ m, k = m + 1 := ⟨k - 1, by omega⟩
      have cm : ((m + 1 : Nat) : Int) = (m : Int) + 1 := by omega
      rw [cm]
      have c1 : (m : Int) < 8 := by omega
      have c2 : (m : Int) + 1 < 8 := by omega
      have c3 : m < 8 := by omega
      have c4 : m + 1 < 8 := by omega
      have c5 : 0 < (m : Int) + 1 := by omega
      have c6 : (0 : Int) ≤ m := by omega
      have hat := shf_at s m
      obtain ⟨f, hf⟩ : ∃ f, f = shf s (m + 1) := ⟨_, rfl⟩
      have HF : Hid (upd f (m + 1) (s m) = shf s m) := Hid.mk (by rw [hf, shf_step])
      rw [← hf] at hat ⊢
      clear hf cm
      go_wp2
      go_roundw
      case rel => exact ⟨m, _, by omega, by go_num, by rw [← HF.out]⟩
      case measure => simp [intOf]
    · have hk' : k = 0 := by omega
      subst hk'
      rw [show ((0 : Nat) : Int) = 0 from rfl]
      obtain ⟨f, hf⟩ : ∃ f, f = shf s 0 := ⟨_, rfl⟩
      have f4 : f 4 = s 3 := by rw [hf]; rfl
      have HF : Hid (tab .u32 8 (upd (upd f 4 ((s 3 + T) % 4294967296)) 0 ((T + U) % 4294967296)) = tab .u32 8 (rstep 0 x s)) := Hid.mk (by rw [HTT.out, HUU.out]; exact rstep_tab x s f hf)
      rw [← hf]
      clear hf
      go_wp2_with (first | (refine wpl_load rtS rfl _ rfl _ rfl (tab .u32 8 (upd (upd f 4 ((s 3 + T) % 4294967296)) 0 ((T + U) % 4294967296))) ?_ (tab_size _ _ _) ?_; (focus (first | (simp [go_sem]; done) | (simp (disch := first | (simp [go_sem]; done) | (simp [go_sem]; omega)) [go_sem]; done)))) | (refine wpl_store rtS rfl _ _ rfl _ rfl (tab .u32 8 (upd (upd f 4 ((s 3 + T) % 4294967296)) 0 ((T + U) % 4294967296))) rfl ?_ (tab_size _ _ _) (tab_all _ _ _) (((w.alloc (c8 (upd (upd f 4 ((s 3 + T) % 4294967296)) 0 ((T + U) % 4294967296)))).alloc (c8 (upd (upd f 4 ((s 3 + T) % 4294967296)) 0 ((T + U) % 4294967296)))).dr n) ?_ ?_; (focus (first | (simp [go_sem]; done) | (simp (disch := first | (simp [go_sem]; done) | (simp [go_sem]; omega)) [go_sem]; done))); (focus (first | (simp [go_sem]; done) | (simp (disch := first | (simp [go_sem]; done) | (simp [go_sem]; omega)) [go_sem]; done)))))
      exact bodyPost_ret (v := .agg (tab .u32 8 (upd (upd f 4 ((s 3 + T) % 4294967296)) 0 ((T + U) % 4294967296)))) (by rw [results_row rtS Tryz.results186 _ _ (w.heap.size + 1) rfl (by first | (simp [go_sem]; done) | (simp (disch := first | (simp [go_sem]; done) | (simp [go_sem]; omega)) [go_sem]; done))]; first | (simp [go_sem]; done) | (simp (disch := first | (simp [go_sem]; done) | (simp [go_sem]; omega)) [go_sem]; done)) rfl ⟨by rw [HF.out], below2 _ _ _ _⟩
end Go.Proofs.YteghoooelgcpkaaGreatDoor
