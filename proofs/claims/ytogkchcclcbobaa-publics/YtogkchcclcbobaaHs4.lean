/- The walks of the document's own answer: SHA-256: one block. -/
import Derived.Test.YtogkchcclcbobaaHs3
import Derived.BigQuiet
namespace Go.Proofs.Ytogkchcclcbobaa
open Go.RowKit Go.Msg
set_option maxHeartbeats 1000000 in
theorem round_any (x n : Int) (h0 : 0 ≤ n) (h1 : n ≤ 32) (w : World) : Calls Try.prog 85 #[.int .i64 x, .int .i64 n] w fun e w' => ∃ r q, e = .returned (.int .i64 r) ∧ w' = w.drewN q := by
  go_enter Try.func85, Try.ntmps85
  go_wp2_with fail
  go_quiet (fail)
  go_wp2
  go_ret
  exact ⟨_, _, rfl, rfl⟩
theorem below_same {B : Nat} {w V V' : World} {o : Obj} (h : Below B w V) (hB : B ≤ V.heap.size) (h1 : V'.os = V.os) (h2 : V'.tape = V.tape) (h3 : V'.output = V.output) (h4 : V'.heap = V.heap.push o) : Below B w V' :=
  h.trans ⟨h1, h2, h3, by rw [h4]; simp, fun k hk => by rw [h4, Array.getElem?_push_lt (by omega)]; simp⟩
def oct (a b c d e f g h : Int) (i : Nat) : Int := ([a, b, c, d, e, f, g, h].getD i 0)
theorem arr_8 (a b c d e f g h : Int) : #[Value.int IntKind.i64 a, .int .i64 b, .int .i64 c, .int .i64 d, .int .i64 e, .int .i64 f, .int .i64 g, .int .i64 h] = tab .i64 8 (oct a b c d e f g h) := by rw [tab_eq]; rfl
theorem below_dr {B : Nat} {a w : World} (h : Below B a w) (n : Nat) : Below B a (w.dr n) := h.trans ⟨rfl, rfl, rfl, Nat.le_refl _, fun _ _ => rfl⟩
set_option maxRecDepth 20000 in
set_option maxHeartbeats 8000000 in
theorem block_any (p h : Value) (fh : Nat → Int) (t : ByteArray) (ht : t.size = 64) (w : World) (hp : PrimAt w p) (hh : NumAt w h 8 fh) :
    Calls Try.prog 71 #[p, h, .string t] w fun e w' => ∃ v f, e = .returned v ∧ NumAt w' v 8 f ∧ Below w.heap.size w w' := by
  obtain ⟨gp, vk, vh, fk, fh2, rfl, kp0, kp1, nk, nh, _, _⟩ := hp
  go_enter Try.func71, Try.ntmps71
  go_wp2
  go_loopw [7, 8] (fun v i wr => ∃ (k : Nat) (f : Nat → Int), k ≤ 64 ∧ i = .int .i64 k ∧ wr.ownsRow w.heap.size 3 1 v k (ints .i64 k f) ∧ Below w.heap.size w wr) (fun _ i _ => 64 - (intOf i).toNat)
  case atStart => exact ⟨0, fun _ => 0, by omega, rfl, World.ownsRow_nil _ _ _ _, Below.refl _ _⟩
  case round =>
    obtain ⟨k, f, hk, rfl, hown, hbel⟩ := hrel
    have hbs := hbel.size
    by_cases hlt : k < 64
    · have c1 : (k : Int) < 64 := by omega
      by_cases h16 : k < 16
      · have c2 : (k : Int) < 16 := by omega
        go_wp2
        go_loop [9, 10] (fun v j => ∃ (x : Int) (i : Nat), i ≤ 4 ∧ j = .int .i64 i ∧ v = .int .i64 x) (fun _ j => 4 - (intOf j).toNat)
        case atStart => exact ⟨0, 0, by omega, rfl, rfl⟩
        case round =>
          obtain ⟨x, i, hi, rfl, rfl⟩ := hrel
          by_cases hi4 : i < 4
          · have c3 : (i : Int) < 4 := by omega
            have c4 : 4 * (k : Int) + i < t.size := by omega
            have c5 : 4 * k + i < t.size := by omega
            go_wp2
            go_round
            case rel => exact ⟨_, i + 1, by omega, by go_num, rfl⟩
            case measure => simp [intOf]; omega
          · have hi' : i = 4 := by omega
            subst hi'
            go_wp2_with (refine wpl_append1 intS rfl _ _ rfl w.heap.size _ k f rfl ?_ (wr.heap.size) x rfl ?_ (by omega) ?_ ?_; (focus (exact owns_alloc hown _)); (focus (simp [go_sem]; done)); (focus (simp; omega)); intro v' w' hown2 hbel' hsz')
            go_roundw
            case rel => exact ⟨k + 1, _, by omega, by go_num, hown2, hbel' _ (hbel.alloc hbs _)⟩
            case measure => simp [intOf]; omega
      · obtain ⟨m, rfl⟩ : ∃ m, k = m + 16 := ⟨k - 16, by omega⟩
        obtain ⟨g, cap, rfl⟩ := own_some hown (by omega)
        have hnum := NumAt.of_owns hown
        obtain ⟨ao, cap', g', hv, hc, ha, hx⟩ := hnum
        have hao := ha (by omega)
        subst hao
        obtain ⟨rfl, rfl⟩ : g = g' ∧ cap = cap' := by simp at hv; exact hv
        have y0 := hx m (by omega)
        have y1 := hx (m + 1) (by omega)
        have y9 := hx (m + 9) (by omega)
        have y14 := hx (m + 14) (by omega)
        have cm : ((m + 16 : Nat) : Int) = (m : Int) + 16 := by omega
        rw [cm]
        have c2 : ¬ (m : Int) + 16 < 16 := by omega
        have c3 : (m : Int) + 16 < 64 := by omega
        have Hown : Hid _ := hown
        clear hown hv hx ha c1 cm h16 hc
        go_wp2_with (first | (go_at_call 85; refine (round_any _ _ (by decide) (by decide) _).mono ?_; rintro e w1 ⟨r, q, rfl, rfl⟩) | fail)
        go_quiet (fail)
        go_wp2_with (at_builtin; refine wpl_append1 intS rfl _ _ rfl w.heap.size _ (m + 16) f rfl ?_ (wr.heap.size) ?z rfl ?_ (by omega) ?_ ?_; (focus (exact owns_alloc (show World.ownsRow _ _ _ _ _ _ _ from Hown.out) _)); rotate_left 1; (focus (simp [go_sem]; exact rfl)); (focus (simp; omega)); intro v' w' hown2 hbel' hsz')
        go_roundw
        case rel => exact ⟨m + 16 + 1, _, by omega, by go_num, hown2, hbel' _ (below_same hbel hbs rfl rfl rfl rfl)⟩
        case measure => simp [intOf]; omega
    · have hk' : k = 64 := by omega
      subst hk'
      rw [show ((64 : Nat) : Int) = 64 from rfl]
      obtain ⟨W1, hW1⟩ : ∃ W, W = wr := ⟨_, rfl⟩
      subst hW1
      obtain ⟨g, cap, rfl⟩ := own_some hown (by omega)
      obtain ⟨ao, cap', g', hv, hc, ha, hx⟩ := NumAt.of_owns hown
      have hao := ha (by omega)
      subst hao
      obtain ⟨rfl, rfl⟩ : g = g' ∧ cap = cap' := by simp at hv; exact hv
      have q0 : W1.cell? ⟨gp, 0, none⟩ = some vk := by rw [hbel.cell (World.block_lt_of_cell? w _ kp0)]; exact kp0
      obtain ⟨ao2, capk, gk, rfl, hck, hak, hxk⟩ := nk.below hbel
      have hao := hak (by omega)
      subst hao
      obtain ⟨ao3, caph, gh, rfl, hch, hah, hxh⟩ := hh.below hbel
      have hao := hah (by omega)
      subst hao
      have HX : Hid _ := hx
      have HXK : Hid _ := hxk
      have HXH : Hid _ := hxh
      have h0 := hxh 0 (by omega)
      have h1 := hxh 1 (by omega)
      have h2 := hxh 2 (by omega)
      have h3 := hxh 3 (by omega)
      have h4 := hxh 4 (by omega)
      have h5 := hxh 5 (by omega)
      have h6 := hxh 6 (by omega)
      have h7 := hxh 7 (by omega)
      clear hx hxk hxh hv ha hak hah hown kp0 kp1 nk nh hh
      go_wp2
      clear h0 h1 h2 h3 h4 h5 h6 h7
      go_loopw [17, 18, 19, 20, 21, 22, 23, 24, 25] (fun a b c d e f g h i wq => ∃ (xa xb xc xd xe xf xg xh : Int) (k n : Nat), a = .int .i64 xa ∧ b = .int .i64 xb ∧ c = .int .i64 xc ∧ d = .int .i64 xd ∧ e = .int .i64 xe ∧ f = .int .i64 xf ∧ g = .int .i64 xg ∧ h = .int .i64 xh ∧ i = .int .i64 k ∧ k ≤ 64 ∧ wq = W1.dr n) (fun _ _ _ _ _ _ _ _ i _ => 64 - (intOf i).toNat)
      case atStart => exact ⟨_, _, _, _, _, _, _, _, 0, _, rfl, rfl, rfl, rfl, rfl, rfl, rfl, rfl, rfl, by omega, (World.dr_self _).symm⟩
      case round =>
        obtain ⟨xa, xb, xc, xd, xe, xf, xg, xh, k, n, rfl, rfl, rfl, rfl, rfl, rfl, rfl, rfl, rfl, hk, rfl⟩ := hrel
        by_cases hlt : k < 64
        · have c1 : (k : Int) < 64 := by omega
          have y1 := HX.out k hlt
          have y2 := HXK.out k hlt
          go_wp2_with (first | (go_at_call 85; refine (round_any _ _ (by decide) (by decide) _).mono ?_; rintro e w1 ⟨r, q, rfl, rfl⟩) | fail)
          go_quiet (fail)
          go_wp2_with (first | (go_at_call 85; refine (round_any _ _ (by decide) (by decide) _).mono ?_; rintro e w1 ⟨r, q, rfl, rfl⟩) | fail)
          go_roundw
          case rel => exact ⟨_, _, _, _, _, _, _, _, k + 1, _, rfl, rfl, rfl, rfl, rfl, rfl, rfl, rfl, by go_num, by omega, rfl⟩
          case measure => simp [intOf]; omega
        · have hk' : k = 64 := by omega
          subst hk'
          rw [show ((64 : Nat) : Int) = 64 from rfl]
          clear HX HXK q0
          go_wp2_with (refine wpl_make intS rfl _ _ rfl 8 8 8 rfl rfl rfl rfl (by omega) ?_)
          rw [arr_8]
          generalize oct xa xb xc xd xe xf xg xh = fo
          go_loopw [33] (fun i wq => ∃ (k n : Nat) (F : Nat → Int), k ≤ 8 ∧ i = .int .i64 k ∧ wq = ((W1.alloc (.cells (tab .i64 8 fo) 3)).alloc (.cells (tab .i64 8 F) 3)).dr n) (fun i _ => 8 - (intOf i).toNat)
          case atStart => exact ⟨0, _, _, by omega, rfl, rfl⟩
          case round =>
            obtain ⟨k, n, F, hk, rfl, rfl⟩ := hrel
            by_cases hlt : k < 8
            · have c1 : (k : Int) < 8 := by omega
              have y1 := HXH.out k hlt
              have l1 := World.block_lt_of_cell? W1 _ y1
              go_wp2
              go_region
              go_wp2
              go_roundw
              case rel => exact ⟨k + 1, _, _, by omega, by go_num, rfl⟩
              case measure => simp [intOf]; omega
            · have hk' : k = 8 := by omega
              subst hk'
              go_wp2
              go_ret
              exact ⟨_, F, rfl, NumAt.of_row (N := 8) (F := F) (by simp [go_sem]) (by omega) (by omega) (fun _ _ => rfl), below_dr (hbel.alloc hbs _ |>.alloc (by simp; omega) _) _⟩
end Go.Proofs.Ytogkchcclcbobaa
