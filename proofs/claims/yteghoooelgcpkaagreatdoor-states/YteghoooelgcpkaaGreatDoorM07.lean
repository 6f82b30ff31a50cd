import Derived.BigQuiet
import Derived.Test.YteghoooelgcpkaaGreatDoorM06
namespace Go.Msg
def pw (b : Nat → Int) (k : Nat) : Nat → Int
  | 0 => 0
  | i + 1 => pw b k i * 256 + b (4 * k + i)
theorem pw_word (b : Nat → Int) (k : Nat) : pw b k 4 = word b k := by simp [pw, word]
theorem pw_bd {b : Nat → Int} (h : B8 b) (k i : Nat) (hi : i ≤ 4) : 0 ≤ pw b k i ∧ pw b k i < 4294967296 ∧ (i < 4 → pw b k i < 16777216) := by
  have h0 := h (4 * k); have h1 := h (4 * k + 1); have h2 := h (4 * k + 2); have h3 := h (4 * k + 3)
  match i, hi with
  | 0, _ => simp [pw]
  | 1, _ => simp [pw]; omega
  | 2, _ => simp [pw]; omega
  | 3, _ => simp [pw]; omega
  | 4, _ => simp [pw]; omega
def fstn (k : Nat) (f : Nat → Int) (i : Nat) : Int := if i < k then f i else 0
theorem fstn_zero (f : Nat → Int) : fstn 0 f = fun _ => 0 := by funext i; simp [fstn]
theorem fstn_succ (k : Nat) (f : Nat → Int) : upd (fstn k f) k (f k) = fstn (k + 1) f := by
  funext i
  unfold upd fstn
  by_cases h : i = k
  · subst h; simp
  · by_cases h2 : i < k
    · simp [h, h2]; omega
    · simp [h, h2]; omega
theorem sb_B8 (t : ByteArray) : B8 (fun i => Go.Proofs.YteghoooelgcpkaaGreatDoor.sb t i) := fun i => by
  show 0 ≤ Go.Proofs.YteghoooelgcpkaaGreatDoor.sb t i ∧ Go.Proofs.YteghoooelgcpkaaGreatDoor.sb t i < 256
  unfold Go.Proofs.YteghoooelgcpkaaGreatDoor.sb; split
  · have := (t[i]).toNat_lt; omega
  · omega
theorem rnds_succ (w h : Nat → Int) (k : Nat) : rnds w h (k + 1) = rstep (Kc k) (w k) (rnds w h k) := rfl
theorem div_bd {x : Int} (h : B32 x) (d : Int) (hd : 0 < d) : B32 (x / d) := by
  refine ⟨Int.ediv_nonneg h.1 (by omega), ?_⟩
  have h1 := h.1; have h2 := h.2
  have := Int.ediv_le_self d h1
  omega
theorem sg0_64 {x : Int} (h : B32 x) : bits .xor .i64 (bits .xor .i64 (rr x 7) (rr x 18)) (x / 8) = sg0 x := by
  rw [xor64 (rr_bd h 7 (by decide)) (rr_bd h 18 (by decide)), xor64 (xr_bd _ _) (div_bd h 8 (by decide))]; rfl
theorem sg1_64 {x : Int} (h : B32 x) : bits .xor .i64 (bits .xor .i64 (rr x 17) (rr x 19)) (x / 1024) = sg1 x := by
  rw [xor64 (rr_bd h 17 (by decide)) (rr_bd h 19 (by decide)), xor64 (xr_bd _ _) (div_bd h 1024 (by decide))]; rfl
theorem not_bd {x : Int} (h : B32 x) : B32 (4294967295 - x) := by unfold B32 at *; omega
theorem hx_1 {e : Int} (h : B32 e) : ∃ X, X = xr (xr (rr e 6) (rr e 11)) (rr e 25) ∧ 0 ≤ X ∧ X < 4294967296 ∧ bits .xor .i64 (bits .xor .i64 (rr e 6) (rr e 11)) (rr e 25) = X :=
  ⟨_, rfl, (xr_bd _ _).1, (xr_bd _ _).2, by rw [xor64 (rr_bd h 6 (by decide)) (rr_bd h 11 (by decide)), xor64 (xr_bd _ _) (rr_bd h 25 (by decide))]⟩
theorem hx_2 {e f g : Int} (h : B32 e) (hf : B32 f) (hg : B32 g) : ∃ X, X = xr (an e f) (an (4294967295 - e) g) ∧ 0 ≤ X ∧ X < 4294967296 ∧ bits .xor .i64 (bits .and .i64 e f) (bits .and .i64 (4294967295 - e) g) = X :=
  ⟨_, rfl, (xr_bd _ _).1, (xr_bd _ _).2, by rw [and64 h hf, and64 (not_bd h) hg, xor64 (an_bd _ _) (an_bd _ _)]⟩
theorem hx_3 {a : Int} (h : B32 a) : ∃ X, X = xr (xr (rr a 2) (rr a 13)) (rr a 22) ∧ 0 ≤ X ∧ X < 4294967296 ∧ bits .xor .i64 (bits .xor .i64 (rr a 2) (rr a 13)) (rr a 22) = X :=
  ⟨_, rfl, (xr_bd _ _).1, (xr_bd _ _).2, by rw [xor64 (rr_bd h 2 (by decide)) (rr_bd h 13 (by decide)), xor64 (xr_bd _ _) (rr_bd h 22 (by decide))]⟩
theorem hx_4 {a b c : Int} (ha : B32 a) (hb : B32 b) (hc : B32 c) : ∃ X, X = xr (xr (an a b) (an a c)) (an b c) ∧ 0 ≤ X ∧ X < 4294967296 ∧ bits .xor .i64 (bits .xor .i64 (bits .and .i64 a b) (bits .and .i64 a c)) (bits .and .i64 b c) = X :=
  ⟨_, rfl, (xr_bd _ _).1, (xr_bd _ _).2, by rw [and64 ha hb, and64 ha hc, and64 hb hc, xor64 (an_bd _ _) (an_bd _ _), xor64 (xr_bd _ _) (an_bd _ _)]⟩
end Go.Msg
namespace Go.Proofs.YteghoooelgcpkaaGreatDoor
open Go.RowKit Go.Msg
theorem shl_bd {x : Int} (hx : B32 x) {m : Nat} (h : 1 ≤ m) : 0 ≤ x * 2 ^ (32 - m) ∧ x * 2 ^ (32 - m) < 9223372036854775808 := by
  have hq : (0 : Int) < 2 ^ (32 - m) := Int.pow_pos (by omega)
  have h31 : (2 : Int) ^ (32 - m) ≤ 2147483648 := by
    have h : 2 ^ (32 - m) ≤ 2147483648 := Nat.le_trans (Nat.pow_le_pow_right (by decide) (show 32 - m ≤ 31 by omega)) (by decide)
    have h2 : (((2 ^ (32 - m) : Nat)) : Int) ≤ 2147483648 := by omega
    rw [Int.natCast_pow] at h2
    exact h2
  have h0 := hx.1; have h1 := hx.2
  refine ⟨Int.mul_nonneg h0 (by omega), ?_⟩
  have : x * 2 ^ (32 - m) ≤ 4294967295 * 2147483648 := Int.mul_le_mul (by omega) h31 (by omega) (by omega)
  omega
set_option maxHeartbeats 1000000 in
theorem round_any (x n : Int) (hx : B32 x) (h0 : 1 ≤ n) (h1 : n ≤ 32) (w : World) : Calls Tryz.prog 160 #[.int .i64 x, .int .i64 n] w fun e w' => ∃ q, e = .returned (.int .i64 (rr x n.toNat)) ∧ w' = w.drewN q := by
  obtain ⟨m, rfl⟩ : ∃ m : Nat, n = m := ⟨n.toNat, by omega⟩
  have hs := shl_bd hx (m := m) (by omega)
  have hx0 := hx.1
  have hx1 := hx.2
  have t1 : (32 - (m : Int)).toNat = 32 - m := by omega
  have hr := rr_bd hx m (by omega)
  have hp := rr_parts hx m (by omega)
  have hr0 := hr.1
  have hr1 := hr.2
  have hd : x / 2 ^ m + x * 2 ^ (32 - m) % 4294967296 = rr x m := rfl
  go_enter Tryz.func160, Tryz.ntmps160
  go_wp2_with fail
  go_quiet (fail)
  go_wp2
  go_ret
  exact ⟨_, ret_int (show _ = rr x m by unfold rr; rw [hp.2.2]), rfl⟩
theorem below_same {B : Nat} {w V V' : World} {o : Obj} (h : Below B w V) (hB : B ≤ V.heap.size) (h1 : V'.os = V.os) (h2 : V'.tape = V.tape) (h3 : V'.output = V.output) (h4 : V'.heap = V.heap.push o) : Below B w V' :=
  h.trans ⟨h1, h2, h3, by rw [h4]; simp, fun k hk => by rw [h4, Array.getElem?_push_lt (by omega)]; simp⟩
theorem arr_8 (a b c d e f g h : Int) : #[Value.int IntKind.i64 a, .int .i64 b, .int .i64 c, .int .i64 d, .int .i64 e, .int .i64 f, .int .i64 g, .int .i64 h] = tab .i64 8 (oct a b c d e f g h) := by rw [tab_eq]; rfl
theorem below_dr {B : Nat} {a w : World} (h : Below B a w) (n : Nat) : Below B a (w.dr n) := h.trans ⟨rfl, rfl, rfl, Nat.le_refl _, fun _ _ => rfl⟩
set_option maxRecDepth 20000 in
set_option maxHeartbeats 8000000 in
theorem block_any (p h : Value) (fh : Nat → Int) (hfh : ∀ i, i < 8 → B32 (fh i)) (t : ByteArray) (ht : t.size = 64) (w : World) (hp : PrimAt w p) (hh : NumAt w h 8 fh) :
    Calls Tryz.prog 133 #[p, h, .string t] w fun e w' => ∃ v, e = .returned v ∧ NumAt w' v 8 (blockF fh (fun i => sb t i)) ∧ Below w.heap.size w w' := by
  obtain ⟨gp, vk, vh, rfl, kp0, kp1, nk, nh⟩ := hp
  obtain ⟨bt, hbt⟩ : ∃ b : Nat → Int, b = fun i => sb t i := ⟨_, rfl⟩
  have hb8 : B8 bt := by rw [hbt]; exact sb_B8 t
  have HBT : Hid (bt = fun i => sb t i) := hbt
  rw [← hbt]
  clear hbt
  go_enter Tryz.func133, Tryz.ntmps133
  go_wp2
  go_loopw [7, 8] (fun v i wr => ∃ (k : Nat), k ≤ 64 ∧ i = .int .i64 k ∧ wr.ownsRow w.heap.size 3 1 v k (ints .i64 k (wl bt k)) ∧ Below w.heap.size w wr) (fun _ i _ => 64 - (intOf i).toNat)
  case atStart => exact ⟨0, by omega, rfl, World.ownsRow_nil _ _ _ _, Below.refl _ _⟩
  case round =>
    obtain ⟨k, hk, rfl, hown, hbel⟩ := hrel
    have hbs := hbel.size
    by_cases hlt : k < 64
    · have c1 : (k : Int) < 64 := by omega
      by_cases h16 : k < 16
      · have c2 : (k : Int) < 16 := by omega
        obtain ⟨f, hf⟩ : ∃ f, f = wl bt k := ⟨_, rfl⟩
        have HF : Hid (f = wl bt k) := hf
        rw [← hf] at hown
        clear hf
        go_wp2
        go_loop [9, 10] (fun v j => ∃ (x : Int) (i : Nat), i ≤ 4 ∧ j = .int .i64 i ∧ v = .int .i64 x ∧ Hid (x = pw bt k i)) (fun _ j => 4 - (intOf j).toNat)
        case atStart => exact ⟨0, 0, by omega, rfl, rfl, Hid.mk rfl⟩
        case round =>
          obtain ⟨x, i, hi, rfl, rfl, HX⟩ := hrel
          have hxb := pw_bd hb8 k i hi
          rw [← HX.out] at hxb
          obtain ⟨hx0, hx1, hx2⟩ := hxb
          by_cases hi4 : i < 4
          · have c3 : (i : Int) < 4 := by omega
            have c4 : 4 * (k : Int) + i < t.size := by omega
            have c5 : 4 * k + i < t.size := by omega
            have hx3 := hx2 hi4
            clear hx2 hx1
            have HV : Hid (bt (4 * k + i) = (t[4 * k + i].toNat : Int)) := Hid.mk (by rw [HBT.out]; exact sb_at t _ c5)
            have hby := hb8 (4 * k + i)
            rw [HV.out] at hby
            obtain ⟨hy0, hy1⟩ := hby
            go_wp2
            go_round
            case rel => exact ⟨_, i + 1, by omega, by go_num, rfl, Hid.mk (by rw [pw, ← HX.out, HV.out])⟩
            case measure => simp [intOf]; omega
          · have hi' : i = 4 := by omega
            subst hi'
            clear hx2
            go_wp2_with (refine wpl_append1 intS rfl _ _ rfl w.heap.size _ k f rfl ?_ (wr.heap.size) x rfl ?_ (by omega) ?_ ?_; (focus (exact owns_alloc hown _)); (focus (simp [go_sem]; done)); (focus (simp; omega)); intro v' w' hown2 hbel' hsz')
            go_roundw
            case rel =>
              refine ⟨k + 1, by omega, by go_num, ?_, hbel' _ (hbel.alloc hbs _)⟩
              rw [wl_lo _ _ h16, ← pw_word, ← HX.out, ← HF.out]; exact hown2
            case measure => simp [intOf]; omega
      · obtain ⟨m, rfl⟩ : ∃ m, k = m + 16 := ⟨k - 16, by omega⟩
        obtain ⟨g, cap, rfl⟩ := own_some hown (by omega)
        have hnum := NumAt.of_owns hown
        obtain ⟨ao, cap', g', hv, hc, ha, hx⟩ := hnum
        have hao := ha (by omega)
        subst hao
        obtain ⟨rfl, rfl⟩ : g = g' ∧ cap = cap' := by simp at hv; exact hv
        obtain ⟨f, hf⟩ : ∃ f, f = wl bt (m + 16) := ⟨_, rfl⟩
        have HF : Hid (f = wl bt (m + 16)) := hf
        have hfb : ∀ i, B32 (f i) := by rw [hf]; exact wl_bd hb8 _
        rw [← hf] at hown hx
        clear hf
        have y0 := hx m (by omega)
        have y1 := hx (m + 1) (by omega)
        have y9 := hx (m + 9) (by omega)
        have y14 := hx (m + 14) (by omega)
        have cm : ((m + 16 : Nat) : Int) = (m : Int) + 16 := by omega
        rw [cm]
        have c2 : ¬ (m : Int) + 16 < 16 := by omega
        have c3 : (m : Int) + 16 < 64 := by omega
        have Hown : Hid _ := hown
        have HFB : Hid _ := hfb
        obtain ⟨b0l, b0h⟩ := hfb m
        obtain ⟨b1l, b1h⟩ := hfb (m + 1)
        obtain ⟨b9l, b9h⟩ := hfb (m + 9)
        obtain ⟨b14l, b14h⟩ := hfb (m + 14)
        have E0 := sg0_64 (hfb (m + 1))
        have E1 := sg1_64 (hfb (m + 14))
        obtain ⟨s0, hs0⟩ : ∃ s, s = sg0 (f (m + 1)) := ⟨_, rfl⟩
        obtain ⟨s1, hs1⟩ : ∃ s, s = sg1 (f (m + 14)) := ⟨_, rfl⟩
        have bs0 : B32 s0 := by rw [hs0]; exact xr_bd _ _
        have bs1 : B32 s1 := by rw [hs1]; exact xr_bd _ _
        rw [← hs0] at E0
        rw [← hs1] at E1
        have HW : Hid ((f m + s0 + f (m + 9) + s1) % 4294967296 = wnext f m) := Hid.mk (by rw [hs0, hs1]; rfl)
        obtain ⟨bs0l, bs0h⟩ := bs0
        obtain ⟨bs1l, bs1h⟩ := bs1
        clear hown hv hx ha c1 cm h16 hc hs0 hs1 hfb
        go_wp2_with (first | (go_at_call 160; refine (round_any _ _ (HFB.out _) (by decide) (by decide) _).mono ?_; rintro e w1 ⟨q, rfl, rfl⟩) | fail)
        go_quiet (fail)
        go_wp2_with (at_builtin; refine wpl_append1 intS rfl _ _ rfl w.heap.size _ (m + 16) f rfl ?_ (wr.heap.size) ?z rfl ?_ (by omega) ?_ ?_; (focus (exact owns_alloc (show World.ownsRow _ _ _ _ _ _ _ from Hown.out) _)); rotate_left 1; (focus (simp [go_sem]; exact rfl)); (focus (simp; omega)); intro v' w' hown2 hbel' hsz')
        go_roundw
        case rel =>
          refine ⟨m + 16 + 1, by omega, by go_num, ?_, hbel' _ (below_same hbel hbs rfl rfl rfl rfl)⟩
          rw [wl_hi, ← HF.out, ← HW.out]; exact hown2
        case measure => simp [intOf]; omega
    · have hk' : k = 64 := by omega
      subst hk'
      rw [show ((64 : Nat) : Int) = 64 from rfl]
      obtain ⟨W1, hW1⟩ : ∃ W, W = wr := ⟨_, rfl⟩
      subst hW1
      obtain ⟨fw, hfw⟩ : ∃ f, f = wl bt 64 := ⟨_, rfl⟩
      have HFW : Hid (fw = wl bt 64) := hfw
      have hwb : ∀ i, B32 (fw i) := by rw [hfw]; exact wl_bd hb8 _
      rw [← hfw] at hown
      clear hfw
      obtain ⟨g, cap, rfl⟩ := own_some hown (by omega)
      obtain ⟨ao, cap', g', hv, hc, ha, hx⟩ := NumAt.of_owns hown
      have hao := ha (by omega)
      subst hao
      obtain ⟨rfl, rfl⟩ : g = g' ∧ cap = cap' := by simp at hv; exact hv
      have q0 : W1.cell? ⟨gp, 0, none⟩ = some vk := by rw [hbel.cell (World.block_lt_of_cell? w _ kp0)]; exact kp0
      obtain ⟨ao2, capk, gk, rfl, hck, hak, hxk⟩ := nk.below hbel
      have hao := hak (by omega)
      subst hao
      obtain ⟨ao3, caph, gh, rfl, hch, hah, hxh⟩ := hh.below hbel
      have hao := hah (by omega)
      subst hao
      have HX : Hid _ := hx
      have HXK : Hid _ := hxk
      have HXH : Hid _ := hxh
      have HWB : Hid _ := hwb
      have HFH : Hid _ := hfh
      have h0 := hxh 0 (by omega)
      have h1 := hxh 1 (by omega)
      have h2 := hxh 2 (by omega)
      have h3 := hxh 3 (by omega)
      have h4 := hxh 4 (by omega)
      have h5 := hxh 5 (by omega)
      have h6 := hxh 6 (by omega)
      have h7 := hxh 7 (by omega)
      have HSB : Hid (∀ k i, B32 (rnds fw fh k i)) := Hid.mk (rnds_bd hfh)
      clear hx hxk hxh hv ha hak hah hown kp0 kp1 nk nh hh hwb hfh
      go_wp2
      clear h0 h1 h2 h3 h4 h5 h6 h7
      go_loopw [17, 18, 19, 20, 21, 22, 23, 24, 25] (fun a b c d e f g h i wq => ∃ (s : Nat → Int) (k n : Nat), Hid (s = rnds fw fh k) ∧ a = .int .i64 (s 0) ∧ b = .int .i64 (s 1) ∧ c = .int .i64 (s 2) ∧ d = .int .i64 (s 3) ∧ e = .int .i64 (s 4) ∧ f = .int .i64 (s 5) ∧ g = .int .i64 (s 6) ∧ h = .int .i64 (s 7) ∧ i = .int .i64 k ∧ k ≤ 64 ∧ wq = W1.dr n) (fun _ _ _ _ _ _ _ _ i _ => 64 - (intOf i).toNat)
      case atStart => exact ⟨rnds fw fh 0, 0, _, Hid.mk rfl, rfl, rfl, rfl, rfl, rfl, rfl, rfl, rfl, rfl, by omega, (World.dr_self _).symm⟩
      case round =>
        obtain ⟨s, k, n, HS, rfl, rfl, rfl, rfl, rfl, rfl, rfl, rfl, rfl, hk, rfl⟩ := hrel
        by_cases hlt : k < 64
        · have c1 : (k : Int) < 64 := by omega
          have y1 := HX.out k hlt
          have y2 := HXK.out k hlt
          have hsb : ∀ i, B32 (s i) := fun i => by rw [HS.out]; exact HSB.out k i
          have HB : Hid _ := hsb
          obtain ⟨X1, hX1, X1l, X1h, E1⟩ := hx_1 (hsb 4)
          obtain ⟨X2, hX2, X2l, X2h, E2⟩ := hx_2 (hsb 4) (hsb 5) (hsb 6)
          obtain ⟨X3, hX3, X3l, X3h, E3⟩ := hx_3 (hsb 0)
          obtain ⟨X4, hX4, X4l, X4h, E4⟩ := hx_4 (hsb 0) (hsb 1) (hsb 2)
          obtain ⟨kl, kh⟩ := Kc_bd k
          obtain ⟨wl, wh⟩ := HWB.out k
          obtain ⟨s0l, s0h⟩ := hsb 0
          obtain ⟨s3l, s3h⟩ := hsb 3
          obtain ⟨s4l, s4h⟩ := hsb 4
          obtain ⟨s7l, s7h⟩ := hsb 7
          have HT : Hid ((s 7 + X1 + X2 + Kc k + fw k) % 4294967296 = rT (Kc k) (fw k) s) := Hid.mk (by rw [hX1, hX2]; rfl)
          have HU : Hid ((X3 + X4) % 4294967296 = rU s) := Hid.mk (by rw [hX3, hX4]; rfl)
          clear hX1 hX2 hX3 hX4 hsb
          go_wp2_with (first | (go_at_call 160; refine (round_any _ _ (HB.out _) (by decide) (by decide) _).mono ?_; rintro e w1 ⟨q, rfl, rfl⟩) | fail)
          go_quiet (fail)
          go_wp2_with (first | (go_at_call 160; refine (round_any _ _ (HB.out _) (by decide) (by decide) _).mono ?_; rintro e w1 ⟨q, rfl, rfl⟩) | fail)
          go_roundw
          case rel =>
            have e0 : rstep (Kc k) (fw k) s 0 = (rT (Kc k) (fw k) s + rU s) % 4294967296 := rfl
            have e4 : rstep (Kc k) (fw k) s 4 = (s 3 + rT (Kc k) (fw k) s) % 4294967296 := rfl
            rw [← HT.out, ← HU.out] at e0
            rw [← HT.out] at e4
            exact ⟨rstep (Kc k) (fw k) s, k + 1, _, Hid.mk (by rw [rnds_succ, ← HS.out]), by rw [e0], rfl, rfl, rfl, by rw [e4], rfl, rfl, rfl, by go_num, by omega, rfl⟩
          case measure => simp [intOf]; omega
        · have hk' : k = 64 := by omega
          subst hk'
          rw [show ((64 : Nat) : Int) = 64 from rfl]
          clear HX HXK q0
          go_wp2_with (refine wpl_make intS rfl _ _ rfl 8 8 8 rfl rfl rfl rfl (by omega) ?_)
          rw [arr_8]
          obtain ⟨fo, hfo⟩ : ∃ f, f = oct (s 0) (s 1) (s 2) (s 3) (s 4) (s 5) (s 6) (s 7) := ⟨_, rfl⟩
          rw [← hfo]
          have HFO : Hid (∀ i, i < 8 → fo i = rnds fw fh 64 i) := Hid.mk (by rw [hfo, ← HS.out]; exact o8_at s)
          clear hfo
          go_loopw [33] (fun i wq => ∃ (k n : Nat), k ≤ 8 ∧ i = .int .i64 k ∧ wq = ((W1.alloc (.cells (tab .i64 8 fo) 3)).alloc (.cells (tab .i64 8 (fstn k (blockF fh bt))) 3)).dr n) (fun i _ => 8 - (intOf i).toNat)
          case atStart => exact ⟨0, _, by omega, rfl, by rw [fstn_zero]⟩
          case round =>
            obtain ⟨k, n, hk, rfl, rfl⟩ := hrel
            by_cases hlt : k < 8
            · have c1 : (k : Int) < 8 := by omega
              have y1 := HXH.out k hlt
              have l1 := World.block_lt_of_cell? W1 _ y1
              obtain ⟨fl, fhh⟩ := HFH.out k hlt
              have hrb := HSB.out 64 k
              rw [← HFO.out k hlt] at hrb
              obtain ⟨ol, oh⟩ := hrb
              have HV : Hid ((fh k + fo k) % 4294967296 = blockF fh bt k) := Hid.mk (by rw [HFO.out k hlt, HFW.out]; rfl)
              obtain ⟨fp, hfp⟩ : ∃ f, f = fstn k (blockF fh bt) := ⟨_, rfl⟩
              have HFP : Hid (upd fp k ((fh k + fo k) % 4294967296) = fstn (k + 1) (blockF fh bt)) := Hid.mk (by rw [HV.out, hfp, fstn_succ])
              rw [← hfp]
              clear hfp
              go_wp2
              go_region
              go_wp2
              go_roundw
              case rel => exact ⟨k + 1, _, by omega, by go_num, by rw [← HFP.out]⟩
              case measure => simp [intOf]; omega
            · have hk' : k = 8 := by omega
              subst hk'
              go_wp2
              go_ret
              exact ⟨_, rfl, NumAt.of_row (N := 8) (F := fstn 8 (blockF fh bt)) (by simp [go_sem]) (by omega) (by omega) (fun i hi => by simp [fstn, hi]), below_dr (hbel.alloc hbs _ |>.alloc (by simp; omega) _) _⟩
end Go.Proofs.YteghoooelgcpkaaGreatDoor
