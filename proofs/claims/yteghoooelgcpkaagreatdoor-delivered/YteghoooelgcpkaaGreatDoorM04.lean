import Derived.BigQuiet
import Derived.Test.YteghoooelgcpkaaGreatDoorM03
namespace Go.Msg
def pw (b : Nat → Int) (k : Nat) : Nat → Int
  | 0 => 0
  | i + 1 => pw b k i * 256 + b (4 * k + i)
theorem pw_word (b : Nat → Int) (k : Nat) : pw b k 4 = word b k := by simp [pw, word]
theorem pw_bd {b : Nat → Int} (h : B8 b) (k i : Nat) (hi : i ≤ 4) : 0 ≤ pw b k i ∧ pw b k i < 4294967296 ∧ (i < 4 → pw b k i < 16777216) := by
  have h0 := h (4 * k); have h1 := h (4 * k + 1); have h2 := h (4 * k + 2); have h3 := h (4 * k + 3)
  match i, hi with
  | 0, _ => simp [pw]
  | 1, _ => simp [pw]; omega
  | 2, _ => simp [pw]; omega
  | 3, _ => simp [pw]; omega
  | 4, _ => simp [pw]; omega
def fstn (k : Nat) (f : Nat → Int) (i : Nat) : Int := if i < k then f i else 0
theorem fstn_zero (f : Nat → Int) : fstn 0 f = fun _ => 0 := by funext i; simp [fstn]
theorem fstn_succ (k : Nat) (f : Nat → Int) : upd (fstn k f) k (f k) = fstn (k + 1) f := by
  funext i
  unfold upd fstn
  by_cases h : i = k
  · subst h; simp
  · by_cases h2 : i < k
    · simp [h, h2]; omega
    · simp [h, h2]; omega
theorem sb_B8 (t : ByteArray) : B8 (fun i => Go.Proofs.YteghoooelgcpkaaGreatDoor.sb t i) := fun i => by
  show 0 ≤ Go.Proofs.YteghoooelgcpkaaGreatDoor.sb t i ∧ Go.Proofs.YteghoooelgcpkaaGreatDoor.sb t i < 256
  unfold Go.Proofs.YteghoooelgcpkaaGreatDoor.sb; split
  · have := (t[i]).toNat_lt; omega
  · omega
theorem rnds_succ (w h : Nat → Int) (k : Nat) : rnds w h (k + 1) = rstep (Kc k) (w k) (rnds w h k) := rfl
theorem div_bd {x : Int} (h : B32 x) (d : Int) (hd : 0 < d) : B32 (x / d) := by
  refine ⟨Int.ediv_nonneg h.1 (by omega), ?_⟩
  have h1 := h.1; have h2 := h.2
  have := Int.ediv_le_self d h1
  omega
theorem sg0_64 {x : Int} (h : B32 x) : bits .xor .i64 (bits .xor .i64 (rr x 7) (rr x 18)) (x / 8) = sg0 x := by
  rw [xor64 (rr_bd h 7 (by decide)) (rr_bd h 18 (by decide)), xor64 (xr_bd _ _) (div_bd h 8 (by decide))]; rfl
theorem sg1_64 {x : Int} (h : B32 x) : bits .xor .i64 (bits .xor .i64 (rr x 17) (rr x 19)) (x / 1024) = sg1 x := by
  rw [xor64 (rr_bd h 17 (by decide)) (rr_bd h 19 (by decide)), xor64 (xr_bd _ _) (div_bd h 1024 (by decide))]; rfl
theorem not_bd {x : Int} (h : B32 x) : B32 (4294967295 - x) := by unfold B32 at *; omega
theorem hx_1 {e : Int} (h : B32 e) : ∃ X, X = xr (xr (rr e 6) (rr e 11)) (rr e 25) ∧ 0 ≤ X ∧ X < 4294967296 ∧ bits .xor .i64 (bits .xor .i64 (rr e 6) (rr e 11)) (rr e 25) = X :=
  ⟨_, rfl, (xr_bd _ _).1, (xr_bd _ _).2, by rw [xor64 (rr_bd h 6 (by decide)) (rr_bd h 11 (by decide)), xor64 (xr_bd _ _) (rr_bd h 25 (by decide))]⟩
theorem hx_2 {e f g : Int} (h : B32 e) (hf : B32 f) (hg : B32 g) : ∃ X, X = xr (an e f) (an (4294967295 - e) g) ∧ 0 ≤ X ∧ X < 4294967296 ∧ bits .xor .i64 (bits .and .i64 e f) (bits .and .i64 (4294967295 - e) g) = X :=
  ⟨_, rfl, (xr_bd _ _).1, (xr_bd _ _).2, by rw [and64 h hf, and64 (not_bd h) hg, xor64 (an_bd _ _) (an_bd _ _)]⟩
theorem hx_3 {a : Int} (h : B32 a) : ∃ X, X = xr (xr (rr a 2) (rr a 13)) (rr a 22) ∧ 0 ≤ X ∧ X < 4294967296 ∧ bits .xor .i64 (bits .xor .i64 (rr a 2) (rr a 13)) (rr a 22) = X :=
  ⟨_, rfl, (xr_bd _ _).1, (xr_bd _ _).2, by rw [xor64 (rr_bd h 2 (by decide)) (rr_bd h 13 (by decide)), xor64 (xr_bd _ _) (rr_bd h 22 (by decide))]⟩
theorem hx_4 {a b c : Int} (ha : B32 a) (hb : B32 b) (hc : B32 c) : ∃ X, X = xr (xr (an a b) (an a c)) (an b c) ∧ 0 ≤ X ∧ X < 4294967296 ∧ bits .xor .i64 (bits .xor .i64 (bits .and .i64 a b) (bits .and .i64 a c)) (bits .and .i64 b c) = X :=
  ⟨_, rfl, (xr_bd _ _).1, (xr_bd _ _).2, by rw [and64 ha hb, and64 ha hc, and64 hb hc, xor64 (an_bd _ _) (an_bd _ _), xor64 (xr_bd _ _) (an_bd _ _)]⟩
end Go.Msg
namespace Go.Proofs.YteghoooelgcpkaaGreatDoor
open Go.RowKit Go.Msg
theorem shl_bd {x : Int} (hx : B32 x) {m : Nat} (h : 1 ≤ m) : 0 ≤ x * 2 ^ (32 - m) ∧ x * 2 ^ (32 - m) < 9223372036854775808 := by
  have hq : (0 : Int) < 2 ^ (32 - m) := Int.pow_pos (by omega)
  have h31 : (2 : Int) ^ (32 - m) ≤ 2147483648 := by
    have h : 2 ^ (32 - m) ≤ 2147483648 := Nat.le_trans (Nat.pow_le_pow_right (by decide) (show 32 - m ≤ 31 by omega)) (by decide)
    have h2 : (((2 ^ (32 - m) : Nat)) : Int) ≤ 2147483648 := by omega
    rw [Int.natCast_pow] at h2
    exact h2
  have h0 := hx.1; have h1 := hx.2
  refine ⟨Int.mul_nonneg h0 (by omega), ?_⟩
  have : x * 2 ^ (32 - m) ≤ 4294967295 * 2147483648 := Int.mul_le_mul (by omega) h31 (by omega) (by omega)
  omega
set_option maxHeartbeats 1000000 in
theorem round_any (x n : Int) (hx : B32 x) (h0 : 1 ≤ n) (h1 : n ≤ 32) (w : World) : Calls Tryz.prog 160 #[.int .i64 x, .int .i64 n] w fun e w' => ∃ q, e = .returned (.int .i64 (rr x n.toNat)) ∧ w' = w.drewN q := by
  obtain ⟨m, rfl⟩ : ∃ m : Nat, n = m := ⟨n.toNat, by omega⟩
  have hs := shl_bd hx (m := m) (by omega)
  have hx0 := hx.1
  have hx1 := hx.2
  have t1 : (32 - (m : Int)).toNat = 32 - m := by omega
  have hr := rr_bd hx m (by omega)
  have hp := rr_parts hx m (by omega)
  have hr0 := hr.1
  have hr1 := hr.2
  have hd : x / 2 ^ m + x * 2 ^ (32 - m) % 4294967296 = rr x m := rfl
  go_enter Tryz.func160, Tryz.ntmps160
  go_wp2_with fail
  go_quiet (fail)
  go_wp2
  go_ret
  exact ⟨_, ret_int (show _ = rr x m by unfold rr; rw [hp.2.2]), rfl⟩
theorem below_same {B : Nat} {w V V' : World} {o : Obj} (h : Below B w V) (hB : B ≤ V.heap.size) (h1 : V'.os = V.os) (h2 : V'.tape = V.tape) (h3 : V'.output = V.output) (h4 : V'.heap = V.heap.push o) : Below B w V' :=
  h.trans ⟨h1, h2, h3, by rw [h4]; simp, fun k hk => by rw [h4, Array.getElem?_push_lt (by omega)]; simp⟩
theorem arr_8 (a b c d e f g h : Int) : #[Value.int IntKind.i64 a, .int .i64 b, .int .i64 c, .int .i64 d, .int .i64 e, .int .i64 f, .int .i64 g, .int .i64 h] = tab .i64 8 (oct a b c d e f g h) := by rw [tab_eq]; rfl
theorem below_dr {B : Nat} {a w : World} (h : Below B a w) (n : Nat) : Below B a (w.dr n) := h.trans ⟨rfl, rfl, rfl, Nat.le_refl _, fun _ _ => rfl⟩
set_option maxRecDepth 20000 in
set_option maxHeartbeats 8000000 in
theorem block_any (p h : Value) (fh : Nat → Int) (hfh : ∀ i, i < 8 → B32 (fh i)) (t : ByteArray) (ht : t.size = 64) (w : World) (hp : PrimAt w p) (hh : NumAt w h 8 fh) :
    Calls Tryz.prog 133 #[p, h, .string t] w fun e w' => ∃ v, e = .returned v ∧ NumAt w' v 8 (blockF fh (fun i => sb t i)) ∧ Below w.heap.size w w' := by
  obtain ⟨gp, vk, vh, rfl, kp0, kp1, nk, nh⟩ := hp
  obtain ⟨bt, hbt⟩ : ∃ b : Nat → Int, b = fun i => sb t i := ⟨_, rfl⟩
  have hb8 : B8 bt := by rw [hbt]; exact sb_B8 t
  have HBT : Hid (bt = fun i => sb t i) := hbt
  rw [← hbt]
  clear hbt
  go_enter Tryz.func133, Tryz.ntmps133
  go_wp2
  go_loopw [7, 8] (fun v i wr => ∃ (k : Nat), k ≤ 64 ∧ i = .int .i64 k ∧ wr.ownsRow w.heap.size 3 1 v k (ints .i64 k (wl bt k)) ∧ Below w.heap.size w wr) (fun _ i _ => 64 - (intOf i).toNat)
  case atStart => exact ⟨0, by omega, rfl, World.ownsRow_nil _ _ _ _, Below.refl _ _⟩
  case round =>
    obtain ⟨k, hk, rfl, hown, hbel⟩ := hrel
    have hbs := hbel.size
    by_cases hlt : k < 64
    · have c1 : (k : Int) < 64 := by omega
      by_cases h16 : k < 16
      · have c2 : (k : Int) < 16 := by omega
        obtain ⟨f, hf⟩ : ∃ f, f = wl bt k := ⟨_, rfl⟩
        have HF : Hid (f = wl bt k) := hf
        rw [← hf] at hown
        clear hf
        go_wp2
        go_loop [9, 10] (fun v j => ∃ (x : Int) (i : Nat), i ≤ 4 ∧ j = .int .i64 i ∧ v = .int .i64 x ∧ Hid (x = pw bt k i)) (fun _ j => 4 - (intOf j).toNat)
        case atStart => exact ⟨0, 0, by omega, rfl, rfl, Hid.mk rfl⟩
        case round =>
          obtain ⟨x, i, hi, rfl, rfl, HX⟩ := hrel
          have hxb := pw_bd hb8 k i hi
          rw [← HX.out] at hxb
          obtain ⟨hx0, hx1, hx2⟩ := hxb
          by_cases hi4 : i < 4
          · have c3 : (i : Int) < 4 := by omega
            have c4 : 4 * (k : Int) + i < t.size := by omega
            have c5 : 4 * k + i < t.size := by omega
            have hx3 := hx2 hi4
            clear hx2 hx1
            have HV : Hid (bt (4 * k + i) = (t[4 * k + i].toNat : Int)) := Hid.mk (by rw [HBT.out]; exact sb_at t _ c5)
            have hby := hb8 (4 * k + i)
            rw [HV.out] at hby
            obtain ⟨hy0, hy1⟩ := hby
            go_wp2
            go_round
            case rel => exact ⟨_, i + 1, by omega, by go_num, rfl, Hid.mk (by rw [pw, ← HX.out, HV.out])⟩
            case measure => simp [intOf]; omega
          · have hi' : i = 4 := by omega
            subst hi'
            clear hx2
            go_wp2_with (refine wpl_append1 intS rfl _ _ rfl w.heap.size _ k f rfl ?_ (wr.heap.size) x rfl ?_ (by omega) ?_ ?_; (focus (exact owns_alloc hown _)); (focus (simp [go_sem]; done)); (focus (simp; omega)); intro v' w' hown2 hbel' hsz')
            go_roundw
            case rel =>
              refine ⟨k + 1, by omega, by go_num, ?_, hbel' _ (hbel.alloc hbs _)⟩
              rw [wl_lo _ _ h16, ← pw_word, ← HX.out, ← HF.out]; exact hown2
            case measure => simp [intOf]; omega
      · obtain ⟨m, rfl⟩ : ∃ m, k = m + 16 := ⟨k - 16, by omega⟩
        obtain ⟨g, cap, rfl⟩ := own_some hown (by omega)
        have hnum := NumAt.of_owns hown
        obtain ⟨ao, cap', g', hv, hc, ha, hx⟩ := hnum
        have hao := ha (by omega)
        subst hao
        obtain ⟨rfl, rfl⟩ : g = g' ∧ cap = cap' := by simp at hv; exact hv
        obtain ⟨f, hf⟩ : ∃ f, f = wl bt (m + 16) := ⟨_, rfl⟩
        have HF : Hid (f = wl bt (m + 16)) := hf
        have hfb : ∀ i, B32 (f i) := by rw [hf]; exact wl_bd hb8 _
        rw [← hf] at hown hx
        clear hf
        have y0 := hx m (by omega)
        have y1 := hx (m + 1) (by omega)
        have y9 := hx (m + 9) (by omega)
        have y14 := hx (m + 14) (by omega)
        have cm : ((m + 16 : Nat) : Int) = (m : Int) + 16 := by omega
        rw [cm]
        have c2 : ¬ (m : Int) + 16 < 16 := by omega
        have c3 : (m : Int) + 16 < 64 := by omega
        have Hown : Hid _ := hown
        have HFB : Hid _ := hfb
        obtain ⟨b0l, b0h⟩ := hfb m
        obtain ⟨b1l, b1h⟩ := hfb (m + 1)
        obtain ⟨b9l, b9h⟩ := hfb (m + 9)
        obtain ⟨b14l, b14h⟩ := hfb (m + 14)
        have E0 := sg0_64 (hfb (m + 1))
        have E1 := sg1_64 (hfb (m + 14))
        obtain ⟨s0, hs0⟩ : ∃ s, s = sg0 (f (m + 1)) := ⟨_, rfl⟩
        obtain ⟨s1, hs1⟩ : ∃ s, s = sg1 (f (m + 14)) := ⟨_, rfl⟩
        have bs0 : B32 s0 := by rw [hs0]; exact xr_bd _ _
        have bs1 : B32 s1 := by rw [hs1]; exact xr_bd _ _
        rw [← hs0] at E0
        rw [← hs1] at E1
        have HW : Hid ((f m + s0 + f (m + 9) + s1) % 4294967296 = wnext f m) := Hid.mk (by rw [hs0, hs1]; rfl)
        obtain ⟨bs0l, bs0h⟩ := bs0
        obtain ⟨bs1l, bs1h⟩ := bs1
        clear hown hv hx ha c1 cm h16 hc hs0 hs1 hfb
        go_wp2_with (first | (go_at_call 160; refine (round_any _ _ (HFB.out _) (by decide) (by decide) _).mono ?_; rintro e w1 ⟨q, rfl, rfl⟩) | fail)
        go_quiet (fail)
        go_wp2_with (at_builtin; refine wpl_append1 intS rfl _ _ rfl w.heap.size _ (m + 16) f rfl ?_ (wr.heap.size) ?z rfl ?_ (by omega) ?_ ?_; (focus (exact owns_alloc (show World.ownsRow _ _ _ _ _ _ _ from Hown.out) _)); rotate_left 1; (focus (simp [go_sem]; exact rfl)); (focus (simp; omega)); intro v' w' hown2 hbel' hsz')
        go_roundw
        case rel =>
          refine ⟨m + 16 + 1, by omega, by go_num, ?_, hbel' _ (below_same hbel hbs rfl rfl rfl rfl)⟩
          rw [wl_hi, ← HF.out, ← HW.out]; exact hown2
        case measure => simp [intOf]; omega
    · have hk' : k = 64 := by omega
      subst hk'
      rw [show ((64 : Nat) : Int) = 64 from rfl]
      obtain ⟨W1, hW1⟩ : ∃ W, W = wr := ⟨_, rfl⟩
      subst hW1
      obtain ⟨fw, hfw⟩ : ∃ f, f = wl bt 64 := ⟨_, rfl⟩
      have HFW : Hid (fw = wl bt 64) := hfw
      have hwb : ∀ i, B32 (fw i) := by rw [hfw]; exact wl_bd hb8 _
      rw [← hfw] at hown
      clear hfw
      obtain ⟨g, cap, rfl⟩ := own_some hown (by omega)
      obtain ⟨ao, cap', g', hv, hc, ha, hx⟩ := NumAt.of_owns hown
      have hao := ha (by omega)
      subst hao
      obtain ⟨rfl, rfl⟩ : g = g' ∧ cap = cap' := by simp at hv; exact hv
      have q0 : W1.cell? ⟨gp, 0, none⟩ = some vk := by rw [hbel.cell (World.block_lt_of_cell? w _ kp0)]; exact kp0
      obtain ⟨ao2, capk, gk, rfl, hck, hak, hxk⟩ := nk.below hbel
      have hao := hak (by omega)
      subst hao
      obtain ⟨ao3, caph, gh, rfl, hch, hah, hxh⟩ := hh.below hbel
      have hao := hah (by omega)
      subst hao
      have HX : Hid _ := hx
      have HXK : Hid _ := hxk
      have HXH : Hid _ := hxh
      have HWB : Hid _ := hwb
      have HFH : Hid _ := hfh
      have h0 := hxh 0 (by omega)
      have h1 := hxh 1 (by omega)
      have h2 := hxh 2 (by omega)
      have h3 := hxh 3 (by omega)
      have h4 := hxh 4 (by omega)
      have h5 := hxh 5 (by omega)
      have h6 := hxh 6 (by omega)
      have h7 := hxh 7 (by omega)
      have HSB : Hid (∀ k i, B32 (rnds fw fh k i)) := Hid.mk (rnds_bd hfh)
      clear hx hxk hxh hv ha hak hah hown kp0 kp1 nk nh hh hwb hfh
      go_wp2
      clear h0 h1 h2 h3 h4 h5 h6 h7
      go_loopw [17, 18, 19, 20, 21, 22, 23, 24, 25] (fun a b c d e f g h i wq => ∃ (s : Nat → Int) (k n : Nat), Hid (s = rnds fw fh k) ∧ a = .int .i64 (s 0) ∧ b = .int .i64 (s 1) ∧ c = .int .i64 (s 2) ∧ d = .int .i64 (s 3) ∧ e = .int .i64 (s 4) ∧ f = .int .i64 (s 5) ∧ g = .int .i64 (s 6) ∧ h = .int .i64 (s 7) ∧ i = .int .i64 k ∧ k ≤ 64 ∧ wq = W1.dr n) (fun _ _ _ _ _ _ _ _ i _ => 64 - (intOf i).toNat)
      case atStart => exact ⟨rnds fw fh 0, 0, _, Hid.mk rfl, rfl, rfl, rfl, rfl, rfl, rfl, rfl, rfl, rfl, by omega, (World.dr_self _).symm⟩
      case round =>
        obtain ⟨s, k, n, HS, rfl, rfl, rfl, rfl, rfl, rfl, rfl, rfl, rfl, hk, rfl⟩ := hrel
        by_cases hlt : k < 64
        · have c1 : (k : Int) < 64 := by omega
          have y1 := HX.out k hlt
          have y2 := HXK.out k hlt
          have hsb : ∀ i, B32 (s i) := fun i => by rw [HS.out]; exact HSB.out k i
          have HB : Hid _ := hsb
          obtain ⟨X1, hX1, X1l, X1h, E1⟩ := hx_1 (hsb 4)
          obtain ⟨X2, hX2, X2l, X2h, E2⟩ := hx_2 (hsb 4) (hsb 5) (hsb 6)
          obtain ⟨X3, hX3, X3l, X3h, E3⟩ := hx_3 (hsb 0)
          obtain ⟨X4, hX4, X4l, X4h, E4⟩ := hx_4 (hsb 0) (hsb 1) (hsb 2)
          obtain ⟨kl, kh⟩ := Kc_bd k
          obtain ⟨wl, wh⟩ := HWB.out k
          obtain ⟨s0l, s0h⟩ := hsb 0
          obtain ⟨s3l, s3h⟩ := hsb 3
          obtain ⟨s4l, s4h⟩ := hsb 4
          obtain ⟨s7l, s7h⟩ := hsb 7
          have HT : Hid ((s 7 + X1 + X2 + Kc k + fw k) % 4294967296 = rT (Kc k) (fw k) s) := Hid.mk (by rw [hX1, hX2]; rfl)
          have HU : Hid ((X3 + X4) % 4294967296 = rU s) := Hid.mk (by rw [hX3, hX4]; rfl)
          clear hX1 hX2 hX3 hX4 hsb
          go_wp2_with (first | (go_at_call 160; refine (round_any _ _ (HB.out _) (by decide) (by decide) _).mono ?_; rintro e w1 ⟨q, rfl, rfl⟩) | fail)
          go_quiet (fail)
          go_wp2_with (first | (go_at_call 160; refine (round_any _ _ (HB.out _) (by decide) (by decide) _).mono ?_; rintro e w1 ⟨q, rfl, rfl⟩) | fail)
          go_roundw
          case rel =>
            have e0 : rstep (Kc k) (fw k) s 0 = (rT (Kc k) (fw k) s + rU s) % 4294967296 := rfl
            have e4 : rstep (Kc k) (fw k) s 4 = (s 3 + rT (Kc k) (fw k) s) % 4294967296 := rfl
            rw [← HT.out, ← HU.out] at e0
            rw [← HT.out] at e4
            exact ⟨rstep (Kc k) (fw k) s, k + 1, _, Hid.mk (by rw [rnds_succ, ← HS.out]), by rw [e0], rfl, rfl, rfl, by rw [e4], rfl, rfl, rfl, by go_num, by omega, rfl⟩
          case measure => simp [intOf]; omega
        · have hk' : k = 64 := by omega
          subst hk'
          rw [show ((64 : Nat) : Int) = 64 from rfl]
          clear HX HXK q0
          go_wp2_with (refine wpl_make intS rfl _ _ rfl 8 8 8 rfl rfl rfl rfl (by omega) ?_)
          rw [arr_8]
          obtain ⟨fo, hfo⟩ : ∃ f, f = oct (s 0) (s 1) (s 2) (s 3) (s 4) (s 5) (s 6) (s 7) := ⟨_, rfl⟩
          rw [← hfo]
          have HFO : Hid (∀ i, i < 8 → fo i = rnds fw fh 64 i) := Hid.mk (by rw [hfo, ← HS.out]; exact o8_at s)
          clear hfo
          go_loopw [33] (fun i wq => ∃ (k n : Nat), k ≤ 8 ∧ i = .int .i64 k ∧ wq = ((W1.alloc (.cells (tab .i64 8 fo) 3)).alloc (.cells (tab .i64 8 (fstn k (blockF fh bt))) 3)).dr n) (fun i _ => 8 - (intOf i).toNat)
          case atStart => exact ⟨0, _, by omega, rfl, by rw [fstn_zero]⟩
          case round =>
            obtain ⟨k, n, hk, rfl, rfl⟩ := hrel
            by_cases hlt : k < 8
            · have c1 : (k : Int) < 8 := by omega
              have y1 := HXH.out k hlt
              have l1 := World.block_lt_of_cell? W1 _ y1
              obtain ⟨fl, fhh⟩ := HFH.out k hlt
              have hrb := HSB.out 64 k
              rw [← HFO.out k hlt] at hrb
              obtain ⟨ol, oh⟩ := hrb
              have HV : Hid ((fh k + fo k) % 4294967296 = blockF fh bt k) := Hid.mk (by rw [HFO.out k hlt, HFW.out]; rfl)
              obtain ⟨fp, hfp⟩ : ∃ f, f = fstn k (blockF fh bt) := ⟨_, rfl⟩
              have HFP : Hid (upd fp k ((fh k + fo k) % 4294967296) = fstn (k + 1) (blockF fh bt)) := Hid.mk (by rw [HV.out, hfp, fstn_succ])
              rw [← hfp]
              clear hfp
              go_wp2
              go_region
              go_wp2
              go_roundw
              case rel => exact ⟨k + 1, _, by omega, by go_num, by rw [← HFP.out]⟩
              case measure => simp [intOf]; omega
            · have hk' : k = 8 := by omega
              subst hk'
              go_wp2
              go_ret
              exact ⟨_, rfl, NumAt.of_row (N := 8) (F := fstn 8 (blockF fh bt)) (by simp [go_sem]) (by omega) (by omega) (fun i hi => by simp [fstn, hi]), below_dr (hbel.alloc hbs _ |>.alloc (by simp; omega) _) _⟩
end Go.Proofs.YteghoooelgcpkaaGreatDoor
namespace Go.Proofs.YteghoooelgcpkaaGreatDoor
open Go.RowKit Go.Msg
def slen : Value → Nat
  | .string s => s.size
  | _ => 0
theorem cvA (w : World) (x : Int) : (convert 112 9 (.slice (some ⟨w.heap.size, 0, none⟩) 1 1)).run Tryz.prog (w.alloc (.cells #[.int .u8 x] 5)) = .ok (.string (b1 x)) (w.alloc (.cells #[.int .u8 x] 5)) := cv_row _ _ _ (by simp [go_sem])
@[simp, go_sem] theorem lit1_size (x : UInt8) : (ByteArray.mk #[x]).size = 1 := rfl
def b2 (x y : Int) : ByteArray := bstr 2 (fun i => [x, y].getD i 0)
def b4 (x y z u : Int) : ByteArray := bstr 4 (fun i => [x, y, z, u].getD i 0)
@[simp, go_sem] theorem b2_size (x y : Int) : (b2 x y).size = 2 := bstr_size _ _
@[simp, go_sem] theorem b4_size (x y z u : Int) : (b4 x y z u).size = 4 := bstr_size _ _
theorem cvD (w : World) (x y z u : Int) : (convert 112 9 (.slice (some ⟨w.heap.size, 0, none⟩) 4 4)).run Tryz.prog (w.alloc (.cells #[.int .u8 x, .int .u8 y, .int .u8 z, .int .u8 u] 5)) = .ok (.string (b4 x y z u)) (w.alloc (.cells #[.int .u8 x, .int .u8 y, .int .u8 z, .int .u8 u] 5)) := by
  rw [run_convert_row _ 112 9 5 Tryz.underlying112 Tryz.underlying5 Tryz.underlying9 w.heap.size 0 4 4 4 (fun i => [x, y, z, u].getD i 0) (by rw [tab_eq]; simp [go_sem]) (by omega)]
  simp only [Nat.zero_add]; rfl
theorem ba_ext {a b : ByteArray} (h : a.size = b.size) (he : ∀ i, i < a.size → sb a i = sb b i) : a = b := by
  apply ByteArray.ext
  apply Array.ext (by simpa using h)
  intro i h1 h2
  have hi : i < a.size := by simpa using h1
  have hj : i < b.size := by simpa using h2
  have := he i hi
  rw [sb_at a i hi, sb_at b i hj] at this
  have h3 : (a[i]).toNat = (b[i]).toNat := by omega
  exact UInt8.toNat_inj.1 h3
theorem ba_empty (a : ByteArray) : a ++ (⟨#[]⟩ : ByteArray) = a := by
  apply ByteArray.ext; simp
theorem zeros_zero : zeros 0 = ⟨#[]⟩ := rfl
theorem sb_past (a : ByteArray) (i : Nat) (h : a.size ≤ i) : sb a i = 0 := by unfold sb; rw [dif_neg (by omega)]
theorem zeros_succ (z : Nat) : zeros (z + 1) = zeros z ++ (⟨#[0]⟩ : ByteArray) := by
  apply ba_ext
  · rw [ByteArray.size_append]; simp only [zeros, bstr_size]; rfl
  · intro i hi
    have hi : i < z + 1 := by simpa [zeros, bstr_size] using hi
    rw [sb_append]
    have h1 : (zeros z).size = z := bstr_size _ _
    rw [h1]
    unfold zeros
    rw [sb_bstr _ _ _ hi (by simp)]
    by_cases h : i < z
    · rw [if_pos h, sb_bstr _ _ _ h (by simp)]
    · rw [if_neg h, show i - z = 0 by omega]; rfl
theorem b4_be (v : Int) (h : B32 v) : b4 (v / 16777216) (v / 65536 % 256) (v / 256 % 256) (v % 256) = be 4 v := by
  have e : v / 16777216 = v / 16777216 % 256 := by unfold B32 at h; omega
  rw [e]
  apply ByteArray.ext
  simp only [be, ByteArray.data_append]
  simp [b4, b1, bstr, strOfNums]
  rfl
set_option maxRecDepth 4000 in
set_option maxHeartbeats 8000000 in
theorem sha_any (p : Value) (t : ByteArray) (ht : t.size ≤ 100000) (w : World) (hp : PrimAt w p) :
    Calls Tryz.prog 97 #[p, .string t] w fun e w' => e = .returned (.string (shaF t)) ∧ Below w.heap.size w w' := by
  have qA := cvA
  have qD := cvD
  obtain ⟨gp, vk, vh, rfl, kp0, kp1, nk, nh⟩ := hp
  have hp : PrimAt w (.pointer (some ⟨gp, 0, none⟩)) := ⟨gp, vk, vh, rfl, kp0, kp1, nk, nh⟩
  obtain ⟨N, hN⟩ : ∃ N, N = t.size + 1 + padZ t.size := ⟨_, rfl⟩
  have HN : Hid (N = t.size + 1 + padZ t.size) := hN
  unfold padZ at hN
  have hN1 : N % 64 = 56 := by omega
  have hN2 : N ≤ t.size + 64 := by omega
  have hN3 : ∀ x, t.size + 1 ≤ x → x ≤ N → x % 64 = 56 → x = N := fun x h1 h2 h3 => by omega
  have hN4 : t.size + 1 ≤ N := by omega
  clear hN
  go_enter Tryz.func97, Tryz.ntmps97
  go_wp2
  go_loop [1] (fun v => ∃ (s : ByteArray) (z : Nat), v = .string s ∧ Hid (s = t ++ b1 128 ++ zeros z) ∧ s.size = t.size + 1 + z ∧ s.size ≤ N) (fun v => N - slen v)
  case atStart => exact ⟨_, 0, rfl, Hid.mk (by rw [zeros_zero, ba_empty]; rfl), by simp [ByteArray.size_append], by simp [ByteArray.size_append]; exact hN4⟩
  case round =>
    obtain ⟨s, z, rfl, HSV, hsz, hs2⟩ := hrel
    have hs1 : t.size + 1 ≤ s.size := by omega
    by_cases hs : s.size = N
    · have c1 : ((s.size : Int) % 64 != 56) = false := by simp; omega
      have HS : Hid (s.size = N) := hs
      have HZ : Hid (z = padZ t.size) := Hid.mk (by have := HN.out; omega)
      have c2 : s.size ≤ 200000 := by omega
      have ct : 8 * (t.size : Int) ≤ 800000 := by omega
      clear hs1 hs2 hs hN3 hsz
      go_wp2
      go_loopw [5, 6, 7] (fun x z i wr => ∃ (y : Int) (b : ByteArray) (k : Nat), x = .int .i64 y ∧ z = .string b ∧ i = .int .i64 k ∧ k ≤ 8 ∧ b.size = k ∧ 0 ≤ y ∧ y ≤ 800000 ∧ Hid (y = 8 * (t.size : Int) / 256 ^ k) ∧ Hid (b = be k (8 * (t.size : Int))) ∧ Below w.heap.size w wr) (fun _ _ i _ => 8 - (intOf i).toNat)
      case atStart => exact ⟨_, _, 0, rfl, rfl, rfl, by omega, rfl, by omega, ct, Hid.mk (by simp), Hid.mk rfl, Below.refl _ _⟩
      case round =>
        obtain ⟨y, b, k, rfl, rfl, rfl, hk, hb, hy0, hy1, HY, HBE, hbel⟩ := hrel
        have hbs := hbel.size
        by_cases hlt : k < 8
        · have c3 : (k : Int) < 8 := by omega
          have c4 : b.size ≤ 8 := by omega
          have HB : Hid (b.size = k) := hb
          clear hb
          go_wp2
          go_roundw
          case rel => exact ⟨_, _, k + 1, rfl, rfl, by go_num, by omega, by rw [ByteArray.size_append, b1_size, HB.out]; omega, by omega, by omega, Hid.mk (by rw [HY.out, Int.pow_succ, Int.ediv_ediv_of_nonneg (Int.le_of_lt (Int.pow_pos (by decide)))]), Hid.mk (by rw [HBE.out, HY.out]; rfl), hbel.alloc hbs _⟩
          case measure => simp [intOf]; omega
        · have hk' : k = 8 := by omega
          subst hk'
          rw [show ((8 : Nat) : Int) = 8 from rfl]
          obtain ⟨W1, hW1⟩ : ∃ W, W = wr := ⟨_, rfl⟩
          subst hW1
          have q1 : W1.cell? ⟨gp, 1, none⟩ = some vh := by rw [hbel.cell (World.block_lt_of_cell? w _ kp1)]; exact kp1
          obtain ⟨m, hm⟩ : ∃ m, (s ++ b).size = 64 * m := ⟨(N + 8) / 64, by rw [ByteArray.size_append, HS.out, hb]; omega⟩
          have hm2 : (s ++ b).size ≤ 300000 := by rw [ByteArray.size_append, hb]; omega
          have HM : Hid ((s ++ b).size = 64 * m) := hm
          have HM2 : Hid ((s ++ b).size ≤ 300000) := hm2
          have c4 : b.size ≤ 8 := by omega
          have HPD : Hid (s ++ b = pad t) := Hid.mk (by rw [HSV.out, HBE.out, HZ.out]; rfl)
          clear hm hm2 hb qA
          go_wp2
          have hm := HM.out
          have hm2 := HM2.out
          clear HM HM2 HS c2 c4 HSV HBE
          generalize s ++ b = T at *
          have HMV : Hid (m = (pad t).size / 64) := Hid.mk (by rw [← HPD.out]; omega)
          have nh1 : NumAt W1 vh 8 Hc := nh.below hbel
          have hp1 := hp.below hbel
          obtain ⟨vl, hvl⟩ : ∃ v, v = vh := ⟨_, rfl⟩
          go_loopw [8, 9] (fun v i wr => ∃ (f : Nat → Int) (k : Nat), Hid (f = hs T k) ∧ i = .int .i64 (64 * (k : Int)) ∧ k ≤ m ∧ NumAt wr v 8 f ∧ PrimAt wr (.pointer (some ⟨gp, 0, none⟩)) ∧ Below w.heap.size w wr) (fun _ i _ => 64 * m - (intOf i).toNat)
          case atStart => exact ⟨Hc, 0, Hid.mk rfl, rfl, by omega, nh1, hp1, hbel⟩
          case round =>
            clear nh1 hp1 hbel hbs q1
            obtain ⟨f, k, HFV, rfl, hk, nv, hp1, hbel⟩ := hrel
            have hbs := hbel.size
            by_cases hlt : k < m
            · have c3 : 64 * (k : Int) < T.size := by omega
              have c5 : 64 * (k : Int) + 64 ≤ T.size := by omega
              have c6 : (T.size : Int) ≤ 300000 := by omega
              have c7 : (64 * (k : Int)).toNat = 64 * k := by omega
              have c8 : (64 * (k : Int) + 64).toNat = 64 * k + 64 := by omega
              go_wp2_with (go_at_call 133; refine (block_any _ _ f ?_ _ ?_ _ hp1 nv).mono ?_; (focus (intro i _; rw [HFV.out]; exact hs_bd T k i)); (focus (simp [ByteArray.size_extract]; omega)); rintro e w2 ⟨v2, rfl, n2, hb2⟩)
              go_roundw
              case rel => exact ⟨_, k + 1, Hid.mk (by rw [HFV.out]; rfl), by go_num, by omega, n2, hp1.below hb2, below_lift hbel hbs hb2⟩
              case measure => simp [intOf]; omega
            · have hk' : k = m := by omega
              subst hk'
              have c3 : ¬ 64 * (k : Int) < T.size := by omega
              obtain ⟨ao, cap, g, rfl, hc1, ha1, hx1⟩ := nv
              obtain rfl := ha1 (by omega)
              have HX : Hid _ := hx1
              clear hx1 ha1 hp1
              obtain ⟨W2, hW2⟩ : ∃ W, W = wr := ⟨_, rfl⟩
              subst hW2
              have HB : Hid _ := hbel
              clear hbel
              go_wp2
              go_loopw [10, 11] (fun o i wq => ∃ (b : ByteArray) (k : Nat), o = .string b ∧ i = .int .i64 k ∧ k ≤ 8 ∧ b.size = 4 * k ∧ Hid (b = dig f k) ∧ Below W2.heap.size W2 wq) (fun _ i _ => 8 - (intOf i).toNat)
              case atStart => exact ⟨_, 0, rfl, rfl, by omega, rfl, Hid.mk rfl, Below.refl _ _⟩
              case round =>
                obtain ⟨b, j, rfl, rfl, hj, hb, HDG, hbel⟩ := hrel
                have hbs2 := hbel.size
                by_cases hlt2 : j < 8
                · have c5 : (j : Int) < 8 := by omega
                  have y0 := HX.out j hlt2
                  have y1 : wr.cell? ⟨g, j, none⟩ = some (.int .i64 (f j)) := by rw [hbel.cell (World.block_lt_of_cell? W2 _ y0)]; exact y0
                  have c6 : b.size ≤ 32 := by omega
                  have HBS : Hid (b.size = 4 * j) := hb
                  have hfb : B32 (f j) := (by rw [HFV.out]; exact hs_bd T k j)
                  obtain ⟨fjl, fjh⟩ := hfb
                  clear hb y0
                  go_wp2
                  go_roundw
                  case rel => exact ⟨_, j + 1, rfl, by go_num, by omega, by rw [ByteArray.size_append, b4_size, HBS.out]; omega, Hid.mk (by rw [HDG.out, dig, b4_be _ ⟨fjl, fjh⟩]), hbel.alloc hbs2 _⟩
                  case measure => simp [intOf]; omega
                · have hj' : j = 8 := by omega
                  subst hj'
                  go_wp2
                  go_ret
                  exact ⟨congrArg (fun z => Ending.returned (Value.string z)) (by rw [HDG.out, HFV.out, HMV.out, HPD.out]; rfl), below_lift HB.out hbs hbel⟩
    · have c1 : ((s.size : Int) % 64 != 56) = true := by
        have := hN3 s.size hs1 hs2
        simp; omega
      have c2 : s.size ≤ 200000 := by omega
      have HN3 : Hid _ := hN3
      clear hN3
      go_wp2
      go_round
      case rel => exact ⟨_, z + 1, rfl, Hid.mk (by rw [HSV.out, zeros_succ, ByteArray.append_assoc (a := t ++ b1 128)]), by simp [ByteArray.size_append]; omega, by simp [ByteArray.size_append]; omega⟩
      case measure => simp [slen, ByteArray.size_append]; omega
end Go.Proofs.YteghoooelgcpkaaGreatDoor
namespace Go
open Go.RowKit Go.Msg Go.Proofs.YteghoooelgcpkaaGreatDoor
theorem wpl_bytes {P : Program} {ops : Array Oper} {rest : List Oper} {o : Oper} {a : Act} {w : World} {Q : Exit → Act → World → Prop} (hgd : o.guard = none) (src dst e : TypeId) (x : Operand) (hop : o.op = .convert src dst x)
    (hs : P.underlying src = some .string) (hd : P.underlying dst = some (.slice e)) (he : P.underlying e = some (.int .u8)) (s : ByteArray) (hx : a.eval x = .string s)
    (h : ∀ cap w', s.size ≤ cap → (∀ i, i < s.size → w'.cell? ⟨w.heap.size, i, none⟩ = some (.int .u8 (sb s i))) → (∀ i, i < s.size → w'.frozen? ⟨w.heap.size, i, none⟩ = false) → Below w.heap.size w w' → w'.heap.size = w.heap.size + 1 →
      wpList P ops Q rest (a.put o.dst (.slice (some ⟨w.heap.size, 0, none⟩) s.size cap)) w') : wpList P ops Q (o :: rest) a w := by
  refine wpList_plain hgd fun _ hK => ?_
  unfold Oper.wp execOp
  simp only [hop, hx]
  rw [Sem.run_bind, run_bytes_of_string w src dst e s hs hd he]
  have hsz : (bytesRow s (grownCap w s.size 0 e)).size = s.size + (grownCap w s.size 0 e - s.size) := by simp [bytesRow]
  have hh : (w.drew.alloc (.cells (bytesRow s (grownCap w s.size 0 e)) e ((bytesRow s (grownCap w s.size 0 e)).size, (bytesRow s (grownCap w s.size 0 e)).size + 1))).heap[w.heap.size]? = some (.cells (bytesRow s (grownCap w s.size 0 e)) e ((bytesRow s (grownCap w s.size 0 e)).size, (bytesRow s (grownCap w s.size 0 e)).size + 1)) := by
    show (w.heap.push _)[w.heap.size]? = _
    simp
  refine hK _ _ (h _ _ (grownCap_ge w s.size 0 e) (fun i hi => ?_) (fun i hi => ?_) ?_ ?_)
  · unfold World.cell?
    simp only [hh]
    have := bytesRow_at s (grownCap w s.size 0 e) i hi
    simp only [this, sb_at s i hi]; rfl
  · unfold World.frozen?
    simp only [hh]
    simp; omega
  · exact (Below.drew (Below.refl _ _)).alloc (Nat.le_refl _) _
  · show (w.heap.push _).size = _; simp
theorem wpl_string {P : Program} {ops : Array Oper} {rest : List Oper} {op : Oper} {a : Act} {w : World} {Q : Exit → Act → World → Prop} (hgd : op.guard = none) (src dst e : TypeId) (x : Operand) (hop : op.op = .convert src dst x)
    (hs : P.underlying src = some (.slice e)) (he : P.underlying e = some (.int .u8)) (hd : P.underlying dst = some .string) (g len cap : Nat) (hx : a.eval x = .slice (some ⟨g, 0, none⟩) len cap) (f : Nat → Int) (hc : ∀ i, i < len → w.cell? ⟨g, i, none⟩ = some (.int .u8 (f i)))
    (h : wpList P ops Q rest (a.put op.dst (.string (bstr len f))) w) : wpList P ops Q (op :: rest) a w := by
  refine wpList_plain hgd fun _ hK => ?_
  unfold Oper.wp execOp
  simp only [hop, hx]
  rw [Sem.run_bind, run_convert_bytes_arg w src e hs he g 0 len cap ((List.range len).map f) (by simp) (fun i hi => by rw [Nat.zero_add, hc i hi]; simp [hi]) dst hd]
  exact hK _ _ h
end Go
namespace Go.Proofs.YteghoooelgcpkaaGreatDoor
open Go.RowKit Go.Msg
set_option maxHeartbeats 2000000 in
theorem added_any (t : ByteArray) (x : Int) (ht : t.size ≤ 1000) (w : World) : Calls Tryz.prog 98 #[.string t, .int .u8 x] w fun e w' => e = .returned (.string (bstr t.size (fun i => bits .xor .u8 (sb t i) x))) ∧ Below w.heap.size w w' := by
  go_enter Tryz.func98, Tryz.ntmps98
  go_wp2_with (refine wpl_bytes rfl 9 112 5 _ rfl Tryz.underlying9 Tryz.underlying112 Tryz.underlying5 t rfl ?_; intro cap W hcap hcell hfz hb hsz)
  have H1 : Hid _ := hcell
  have H2 : Hid _ := hfz
  clear hcell hfz
  go_loopw [6] (fun i wq => ∃ (k : Nat) (F : Nat → Int), Hid (∀ i, F i = if i < k then bits .xor .u8 (sb t i) x else sb t i) ∧ k ≤ t.size ∧ i = .int .i64 k ∧ Hid (∀ j, j < t.size → wq.cell? ⟨w.heap.size, j, none⟩ = some (.int .u8 (F j))) ∧ Hid (∀ j, j < t.size → wq.frozen? ⟨w.heap.size, j, none⟩ = false) ∧ Below w.heap.size w wq) (fun i _ => t.size - (intOf i).toNat)
  case atStart => exact ⟨0, sb t, Hid.mk (by intro i; rw [if_neg (by omega)]), by omega, rfl, H1, H2, hb⟩
  case round =>
    clear H1 H2 hb
    obtain ⟨k, F, HF, hk, rfl, H1, H2, hb⟩ := hrel
    by_cases hlt : k < t.size
    · have c1 : (k : Int) < t.size := by omega
      have y1 := H1.out k hlt
      have y2 := H2.out k hlt
      go_wp2
      go_roundw
      case rel =>
        refine ⟨k + 1, upd F k (bits .xor .u8 (F k) x), ?_, by omega, by go_num, ?_, ?_, ?_⟩
        · intro i
          unfold upd
          by_cases e : i = k
          · subst e; rw [if_pos rfl, if_pos (by omega), HF.out, if_neg (by omega)]
          · rw [if_neg e, HF.out]
            by_cases e2 : i < k
            · rw [if_pos e2, if_pos (by omega)]
            · rw [if_neg e2, if_neg (by omega)]
        · intro j hj
          by_cases e : j = k
          · rw [e, World.cell?_setCell_same _ _ _ y1]; simp only [upd, if_true]
          · rw [World.cell?_setCell_other _ _ _ _ (fun h => e (by have := congrArg Addr.off h; simpa using this.symm)), H1.out j hj]; simp only [upd, e, if_false]
        · intro j hj; simp [H2.out j hj]
        · exact hb.setCell (by simp) _
      case measure => simp [intOf]; omega
    · have hk' : k = t.size := by omega
      subst hk'
      go_wp2_with (refine wpl_string rfl 112 9 5 _ rfl Tryz.underlying112 Tryz.underlying5 Tryz.underlying9 w.heap.size t.size cap rfl F H1.out ?_)
      go_ret
      exact ⟨congrArg (fun z => Ending.returned (Value.string z)) (bstr_congr fun i hi => by rw [HF.out, if_pos hi]), hb⟩
theorem veil_of {s k : ByteArray} (h : s = k ++ zeros (s.size - k.size)) (h64 : s.size = 64) (v : Int) : bstr s.size (fun i => bits .xor .u8 (sb s i) v) = veil k v := by
  unfold veil
  rw [h64]
  refine bstr_congr fun i hi => ?_
  have e : sb s i = sb k i := by
    rw [h, sb_append]
    by_cases hk : i < k.size
    · rw [if_pos hk]
    · rw [if_neg hk, sb_past k i (by omega)]
      unfold zeros
      by_cases h2 : i - k.size < s.size - k.size
      · rw [sb_bstr _ _ _ h2 (by simp)]
      · rw [sb_past _ _ (by rw [bstr_size]; omega)]
  show bits .xor .u8 (sb s i) v = bits .xor .u8 (sb k i) v
  rw [e]
set_option maxHeartbeats 2000000 in
theorem mac_any (p : Value) (k t : ByteArray) (hk : k.size ≤ 64) (ht : t.size ≤ 50000) (w : World) (hp : PrimAt w p) :
    Calls Tryz.prog 62 #[p, .string k, .string t] w fun e w' => e = .returned (.string (macF k t)) ∧ Below w.heap.size w w' := by
  have c0 : ¬ (k.size : Int) > 64 := by omega
  go_enter Tryz.func62, Tryz.ntmps62
  go_wp2
  go_loop [1] (fun v => ∃ (s : ByteArray), v = .string s ∧ Hid (s = k ++ zeros (s.size - k.size)) ∧ k.size ≤ s.size ∧ s.size ≤ 64) (fun v => 64 - slen v)
  case atStart => exact ⟨k, rfl, Hid.mk (by rw [Nat.sub_self, zeros_zero, ba_empty]), Nat.le_refl _, hk⟩
  case round =>
    obtain ⟨s, rfl, HSV, hks, hs⟩ := hrel
    by_cases hlt : s.size < 64
    · have c1 : (s.size : Int) < 64 := by omega
      go_wp2
      go_round
      case rel => exact ⟨_, rfl, Hid.mk (by rw [ByteArray.size_append, lit1_size, show s.size + 1 - k.size = s.size - k.size + 1 by omega, zeros_succ, ← ByteArray.append_assoc, ← HSV.out]), by rw [ByteArray.size_append]; omega, by rw [ByteArray.size_append, lit1_size]; omega⟩
      case measure => simp [slen, ByteArray.size_append]; omega
    · have c1 : ¬ (s.size : Int) < 64 := by omega
      have h64 : s.size = 64 := by omega
      have V54 : bstr s.size (fun i => bits .xor .u8 (sb s i) 54) = veil k 54 := veil_of HSV.out h64 54
      have V92 : bstr s.size (fun i => bits .xor .u8 (sb s i) 92) = veil k 92 := veil_of HSV.out h64 92
      have z1 := veil_size k 54
      have z2 := veil_size k 92
      have z3 := shaF_size (veil k 54 ++ t)
      go_wp2_with (first
        | (go_at_call 98; have M := added_any s 54 (by omega) w; with_reducible refine M.mono ?_; clear M; rintro e w1 ⟨rfl, b1⟩; rw [V54]; have hp1 := hp.below b1; have y1 := b1.size)
        | (go_at_call 98; have M := added_any s 92 (by omega) w1; with_reducible refine M.mono ?_; clear M; rintro e w2 ⟨rfl, b2⟩; rw [V92]; have hp2 := hp1.below b2; have B2 := below_lift b1 y1 b2; have y2 := B2.size)
        | (go_at_call 97; have M := sha_any _ (veil k 54 ++ t) (by rw [ByteArray.size_append]; omega) _ hp2; with_reducible refine M.mono ?_; clear M; rintro e w3 ⟨rfl, b3⟩; have hp3 := hp2.below b3; have B3 := below_lift B2 y2 b3; have y3 := B3.size)
        | (go_at_call 97; have M := sha_any _ (veil k 92 ++ shaF (veil k 54 ++ t)) (by rw [ByteArray.size_append]; omega) _ hp3; with_reducible refine M.mono ?_; clear M; rintro e w4 ⟨rfl, b4⟩))
      go_ret
      exact ⟨rfl, below_lift B3 y3 b4⟩
set_option maxHeartbeats 2000000 in
theorem expand_any (p : Value) (k t u : ByteArray) (n : Nat) (hk : k.size ≤ 64) (ht : t.size ≤ 1000) (hu : u.size ≤ 100) (hn : n ≤ 1000) (w : World) (hp : PrimAt w p) :
    Calls Tryz.prog 93 #[p, .string k, .string t, .string u, .int .i64 (n : Int)] w fun e w' => e = .returned (.string (hkdfF k t u n)) ∧ Below w.heap.size w w' := by
  have qA := cvA
  go_enter Tryz.func93, Tryz.ntmps93
  go_wp2_with (go_at_call 62; refine (mac_any _ k t hk (by omega) _ hp).mono ?_; rintro e w1 ⟨rfl, b1⟩)
  obtain ⟨s1, hs1⟩ : ∃ s, s = macF k t := ⟨_, rfl⟩
  have z1 : s1.size = 32 := by rw [hs1]; exact macF_size _ _
  have HS1 : Hid (s1 = macF k t) := hs1
  rw [← hs1]
  clear hs1
  have hp1 := hp.below b1
  go_loopw [12, 13, 14] (fun o l i wr => ∃ (a b : ByteArray) (j : Nat), o = .string a ∧ l = .string b ∧ i = .int .i64 ((j : Int) + 1) ∧ a.size = 32 * j ∧ b.size ≤ 32 ∧ a.size < n + 32 ∧ Hid (a = hkA s1 u j) ∧ Hid (b = hkT s1 u j) ∧ PrimAt wr p ∧ Below w.heap.size w wr) (fun o _ _ _ => n + 32 - slen o)
  case atStart => exact ⟨_, _, 0, rfl, rfl, rfl, rfl, by decide, by show 0 < n + 32; omega, Hid.mk rfl, Hid.mk rfl, hp1, b1⟩
  case round =>
    clear b1 hp1
    obtain ⟨a, b, j, rfl, rfl, rfl, ha, hb, han, HAV, HBV, hp1, hbel⟩ := hrel
    have hbs := hbel.size
    by_cases hlt : a.size < n
    · have c1 : (a.size : Int) < n := by omega
      have HA : Hid _ := ha
      have c2 : a.size ≤ 1000 := by omega
      have cj : (j : Int) ≤ 32 := by omega
      clear ha
      go_wp2_with (go_at_call 62; refine (mac_any _ s1 _ ?_ ?_ _ ?_).mono ?_; (focus (omega)); (focus (simp [ByteArray.size_append]; omega)); (focus (exact hp1.below (by_alloc _ _))); rintro e w2 ⟨rfl, b2⟩; obtain ⟨s2, hs2⟩ : ∃ s, s = macF s1 (b ++ u ++ b1 ((j : Int) + 1)) := ⟨_, rfl⟩; have z2 : s2.size = 32 := (by rw [hs2]; exact macF_size _ _); rw [← hs2]; have HS2 : Hid _ := hs2; clear hs2; have x2 : s2.size ≤ 32 := (by omega))
      go_roundw
      case rel =>
        have B2 := below_lift (by_alloc wr (.cells #[.int .u8 ((j : Int) + 1)] 5)) (by simp) b2
        exact ⟨_, _, j + 1, rfl, rfl, by go_num, by rw [ByteArray.size_append, z2, HA.out]; omega, x2, by rw [ByteArray.size_append, z2]; omega, Hid.mk (by rw [hkA, ← HAV.out, hkT, ← HBV.out, HS2.out]), Hid.mk (by rw [hkT, ← HBV.out, HS2.out]), hp1.below B2, below_lift hbel hbs B2⟩
      case measure => simp [slen, ByteArray.size_append]; omega
    · have c1 : ¬ (a.size : Int) < n := by omega
      have c2 : (n : Int) ≤ a.size := by omega
      have c3 : a.size ≤ 2000 := by omega
      have hj : j = (n + 31) / 32 := by omega
      have HE : Hid (a.extract 0 n = hkdfF k t u n) := Hid.mk (by rw [hkdfF, HAV.out, ← HS1.out, ← hj])
      clear hj
      go_wp2
      go_ret
      exact ⟨congrArg (fun z => Ending.returned (Value.string z)) HE.out, hbel⟩
end Go.Proofs.YteghoooelgcpkaaGreatDoor
namespace Go.Msg
open Go.RowKit Go.Proofs.YteghoooelgcpkaaGreatDoor
theorem bval_digits (N : Int) (n : Nat) : bval n (fun i => N / 256 ^ i % 256) = N % 256 ^ n := by
  induction n with
  | zero => simp [bval]
  | succ n ih =>
    rw [bval, ih]
    have h1 := Int.mul_ediv_add_emod N (256 ^ n)
    have h2 := Int.mul_ediv_add_emod (N / 256 ^ n) 256
    have hp : (0 : Int) < 256 ^ n := Int.pow_pos (by omega)
    have h3 : N / 256 ^ n / 256 = N / 256 ^ (n + 1) := by rw [Int.ediv_ediv_of_nonneg (by omega), Int.pow_succ]
    have h4 := Int.mul_ediv_add_emod N (256 ^ (n + 1))
    rw [h3] at h2
    rw [Int.pow_succ] at h4 ⊢
    grind
def dhN (k p : ByteArray) : Int := lout (bitAt (clampF (sb k))) (bsum (sb p) 255 % P25519)
def dhF (k p : ByteArray) : ByteArray := bstr 32 (fun i => dhN k p / 256 ^ i % 256)
theorem dhF_size (k p : ByteArray) : (dhF k p).size = 32 := bstr_size _ _
theorem dhN_bd (k p : ByteArray) : 0 ≤ dhN k p ∧ dhN k p < 256 ^ 32 := by
  unfold dhN lout
  have h1 := Int.emod_nonneg ((lrun (bitAt (clampF (sb k))) (bsum (sb p) 255 % P25519) 256).n * (lrun (bitAt (clampF (sb k))) (bsum (sb p) 255 % P25519) 256).d ^ E2) (show P25519 ≠ 0 by decide)
  have h2 := Int.emod_lt_of_pos ((lrun (bitAt (clampF (sb k))) (bsum (sb p) 255 % P25519) 256).n * (lrun (bitAt (clampF (sb k))) (bsum (sb p) 255 % P25519) 256).d ^ E2) (show 0 < P25519 by decide)
  exact ⟨h1, Int.lt_trans h2 (by decide)⟩
theorem toList_inj {a b : ByteArray} : a.toList = b.toList ↔ a = b := by
  rw [ByteArray.toList_eq, ByteArray.toList_eq]
  exact ⟨fun h => ByteArray.ext (Array.toList_inj.1 h), fun h => by rw [h]⟩
theorem size_zero {a : ByteArray} : a.size = 0 ↔ a = ⟨#[]⟩ := ⟨fun h => ba_ext (by rw [h]; rfl) (fun i hi => by omega), fun h => by rw [h]; rfl⟩
theorem shared_dh {k p : ByteArray} {b : Nat → Int} (h : sharedF k p b) : bstr 32 b = dhF k p := by
  refine bstr_congr (bval_uniq h.1 (fun i _ => ⟨by omega, by omega⟩) (h.2.trans ?_))
  have hb := dhN_bd k p
  rw [bval_digits, Int.emod_eq_of_lt hb.1 hb.2]; rfl
def nine : ByteArray := ⟨#[9]⟩
def pubF (k : ByteArray) : ByteArray := dhF k nine
theorem pubF_size (k : ByteArray) : (pubF k).size = 32 := bstr_size _ _
end Go.Msg
namespace Go.Proofs.YteghoooelgcpkaaGreatDoor
open Go.RowKit Go.Msg
theorem cshared_f (k p : ByteArray) (hk : k.size ≤ 9223372036854775807) (hp : p.size ≤ 9223372036854775807) (w : World) :
    Calls Tryz.prog 101 #[.string k, .string p] w fun e w' => e = .returned (.string (dhF k p)) ∧ Below w.heap.size w w' :=
  (cshared_any k p hk hp w).mono fun e w' ⟨b, h1, h2, h3⟩ => ⟨by rw [h1, shared_dh h2], h3⟩
theorem cpoint_f (k : ByteArray) (hk : k.size = 32) (w : World) :
    Calls Tryz.prog 68 #[.string k] w fun e w' => e = .returned (.string (pubF k)) ∧ Below w.heap.size w w' :=
  (point_any k (by omega) w).mono fun e w' ⟨b, h1, h2, h3⟩ => ⟨by rw [h1, shared_dh h2]; rfl, h3⟩
theorem spublic_f (k : ByteArray) (hk : k.size = 32) (w : World) :
    Calls Tryz.prog 77 #[.string k] w fun e w' => e = .returned (.tuple #[.string (pubF k), .int .i64 0]) ∧ Below w.heap.size w w' :=
  (spublic_any k hk w).mono fun e w' ⟨b, h1, h2, h3⟩ => ⟨by rw [h1, shared_dh h2]; rfl, h3⟩
end Go.Proofs.YteghoooelgcpkaaGreatDoor
namespace Go.Msg
open Go.RowKit
def numF (b : Nat → Int) : Nat → Int
  | 0 => 0
  | k + 1 => numF b k * 256 + b k
theorem numF_bd {b : Nat → Int} (h : B8 b) (k : Nat) : 0 ≤ numF b k ∧ numF b k < 256 ^ k := by
  induction k with
  | zero => simp [numF]
  | succ k ih => have := h k; rw [numF, Int.pow_succ]; omega
theorem numF_lt {b : Nat → Int} (h : B8 b) {k : Nat} (hk : k < 4) : 0 ≤ numF b k ∧ numF b k < 16777216 := by
  have := numF_bd h k
  match k, hk with
  | 0, _ => simp [numF]
  | 1, _ => simp at this ⊢; omega
  | 2, _ => simp at this ⊢; omega
  | 3, _ => simp at this ⊢; omega
theorem or_byte {x y : Int} (hx : 0 ≤ x ∧ x < 16777216) (hy : 0 ≤ y ∧ y < 256) : bits .or .u32 (x * 256) y = x * 256 + y :=
  bits_join .u32 32 (by decide) wraps_u32 8 _ _ (by omega) (by omega) (by omega) hy.1 (by omega) (by omega)
end Go.Msg
namespace Go.Proofs.YteghoooelgcpkaaGreatDoor
open Go.RowKit Go.Msg
set_option maxHeartbeats 1000000 in
theorem otext_any (x : Int) (hx : B32 x) (s : Nat) (hs : s ≤ 8) (w : World) :
    Calls Tryz.prog 100 #[.int .u32 x, .int .i64 (s : Int)] w fun e w' => e = .returned (.string (be s x)) ∧ Below w.heap.size w w' := by
  have qA := cvA
  obtain ⟨hx0, hx1⟩ := hx
  go_enter Tryz.func100, Tryz.ntmps100
  go_wp2
  go_loopw [0, 5, 6] (fun x' z i wr => ∃ (y : Int) (b : ByteArray) (k : Nat), x' = .int .u32 y ∧ z = .string b ∧ i = .int .i64 k ∧ k ≤ s ∧ b.size = k ∧ 0 ≤ y ∧ y < 4294967296 ∧ Hid (y = x / 256 ^ k) ∧ Hid (b = be k x) ∧ Below w.heap.size w wr) (fun _ _ i _ => s - (intOf i).toNat)
  case atStart => exact ⟨x, _, 0, rfl, rfl, rfl, by omega, rfl, hx0, hx1, Hid.mk (by simp), Hid.mk rfl, Below.refl _ _⟩
  case round =>
    obtain ⟨y, b, k, rfl, rfl, rfl, hk, hb, hy0, hy1, HY, HBE, hbel⟩ := hrel
    have hbs := hbel.size
    by_cases hlt : k < s
    · have c3 : (k : Int) < s := by omega
      have c4 : b.size ≤ 8 := by omega
      have HB : Hid (b.size = k) := hb
      clear hb
      go_wp2
      go_roundw
      case rel => exact ⟨_, _, k + 1, rfl, rfl, by go_num, by omega, by rw [ByteArray.size_append, b1_size, HB.out]; omega, by omega, by omega, Hid.mk (by rw [HY.out, Int.pow_succ, Int.ediv_ediv_of_nonneg (Int.le_of_lt (Int.pow_pos (by decide)))]), Hid.mk (by rw [HBE.out, HY.out]; rfl), hbel.alloc hbs _⟩
      case measure => simp [intOf]; omega
    · have c3 : ¬ (k : Int) < s := by omega
      have hk' : k = s := by omega
      subst hk'
      go_wp2
      go_ret
      exact ⟨congrArg (fun z => Ending.returned (Value.string z)) HBE.out, hbel⟩
theorem otext1 (x : Int) (hx : B32 x) (w : World) : Calls Tryz.prog 100 #[.int .u32 x, .int .i64 1] w fun e w' => e = .returned (.string (be 1 x)) ∧ Below w.heap.size w w' := otext_any x hx 1 (by omega) w
theorem otext2 (x : Int) (hx : B32 x) (w : World) : Calls Tryz.prog 100 #[.int .u32 x, .int .i64 2] w fun e w' => e = .returned (.string (be 2 x)) ∧ Below w.heap.size w w' := otext_any x hx 2 (by omega) w
theorem otext4 (x : Int) (hx : B32 x) (w : World) : Calls Tryz.prog 100 #[.int .u32 x, .int .i64 4] w fun e w' => e = .returned (.string (be 4 x)) ∧ Below w.heap.size w w' := otext_any x hx 4 (by omega) w
set_option maxHeartbeats 1000000 in
theorem onumber_any (t : ByteArray) (ht : t.size ≤ 4) (w : World) :
    Calls Tryz.prog 150 #[.string t] w fun e w' => e = .returned (.int .u32 (numF (sb t) t.size)) ∧ w' = w := by
  have hb8 : B8 (sb t) := sb_B8 t
  go_enter Tryz.func150, Tryz.ntmps150
  go_wp2
  go_loop [3, 4] (fun x i => ∃ (y : Int) (k : Nat), x = .int .u32 y ∧ i = .int .i64 k ∧ k ≤ t.size ∧ Hid (y = numF (sb t) k)) (fun _ i => t.size - (intOf i).toNat)
  case atStart => exact ⟨0, 0, rfl, rfl, by omega, Hid.mk rfl⟩
  case round =>
    obtain ⟨y, k, rfl, rfl, hk, HY⟩ := hrel
    by_cases hlt : k < t.size
    · have c3 : (k : Int) < t.size := by omega
      have hy := numF_lt hb8 (show k < 4 by omega)
      rw [← HY.out] at hy
      have HV : Hid (sb t k = (t[k].toNat : Int)) := Hid.mk (sb_at t k hlt)
      have hby := hb8 k
      have ho := or_byte hy hby
      rw [HV.out] at ho hby
      obtain ⟨hy0, hy1⟩ := hy
      obtain ⟨by0, by1⟩ := hby
      go_wp2
      go_round
      case rel => exact ⟨_, k + 1, rfl, by go_num, by omega, Hid.mk (by rw [numF, ← HY.out, HV.out])⟩
      case measure => simp [intOf]; omega
    · have c3 : ¬ (k : Int) < t.size := by omega
      have hk' : k = t.size := by omega
      subst hk'
      go_wp2
      go_ret
      exact ⟨congrArg (fun z => Ending.returned (Value.int .u32 z)) HY.out, rfl⟩
set_option maxHeartbeats 1000000 in
theorem right_any (x n : Int) (hx : B32 x) (h0 : 1 ≤ n) (h1 : n ≤ 31) (w : World) : Calls Tryz.prog 185 #[.int .u32 x, .int .u64 n] w fun e w' => e = .returned (.int .u32 (rr x n.toNat)) ∧ w' = w := by
  obtain ⟨m, rfl⟩ : ∃ m : Nat, n = m := ⟨n.toNat, by omega⟩
  have t1 : (32 - (m : Int)).toNat = 32 - m := by omega
  have ho := rr_or hx m (by omega)
  obtain ⟨hx0, hx1⟩ := hx
  go_enter Tryz.func185, Tryz.ntmps185
  go_wp2
  go_ret
  exact ⟨rfl, rfl⟩
end Go.Proofs.YteghoooelgcpkaaGreatDoor
