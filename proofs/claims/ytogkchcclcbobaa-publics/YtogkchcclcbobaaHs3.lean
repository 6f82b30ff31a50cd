/- The walks of the document's own answer: the constants. -/
import Derived.Test.YtogkchcclcbobaaHs2
namespace Go.Proofs.Ytogkchcclcbobaa
open Go.RowKit Go.Msg
/-- Numbers of thirty-two bits. -/
def W32 (n : Nat) (f : Nat → Int) : Prop := ∀ i, i < n → 0 ≤ f i ∧ f i < 4294967296
theorem W32.snoc {n : Nat} {f : Nat → Int} (h : W32 n f) {z : Int} (hz : 0 ≤ z ∧ z < 4294967296) : W32 (n + 1) (upd f n z) := fun i hi => by
  by_cases e : i = n
  · subst e; simp only [upd, if_true]; exact hz
  · simp only [upd, e, if_false]; exact h i (by omega)
theorem num_set {w : World} {v : Value} {n : Nat} {f : Nat → Int} (h : NumAt w v n f) (a : Addr) (u s : Value) (hs : w.cell? ⟨a.block, 0, none⟩ = some s) (hne : ∀ z, s ≠ .int .i64 z) : NumAt (w.setCell a u) v n f := by
  obtain ⟨ao, cap, g, hv, hc, hao, hcell⟩ := h
  refine ⟨ao, cap, g, hv, hc, hao, fun i hi => ?_⟩
  have hg : g ≠ a.block := fun e => by
    have := hcell 0 (by omega)
    rw [e, hs] at this
    exact hne _ (Option.some.inj this)
  rw [World.cell?_of_block (w := w) (Below.heap_setCell w a u g hg)]; exact hcell i hi
theorem own_slice {w : World} {B e : Nat} {v : Value} {n : Nat} {xs : List Value} (h : w.ownsRow B e 1 v n xs) : ∀ z, v ≠ .int .i64 z := fun z hz => by
  subst hz
  rcases h.2 with hn | ⟨g, cap, cur, hv, _⟩
  · exact absurd hn.1 (by simp)
  · exact absurd hv (by simp)
theorem own_below {w w' : World} {B e : Nat} {v : Value} {n : Nat} {xs : List Value} (h : w.ownsRow B e 1 v n xs) (hb : Below w.heap.size w w') : w'.ownsRow B e 1 v n xs := by
  refine ⟨h.1, ?_⟩
  rcases h.2 with hn | ⟨g, cap, cur, rfl, hg, hh, rest⟩
  · exact Or.inl hn
  · exact Or.inr ⟨g, cap, cur, rfl, hg, by rw [hb.block g (Array.getElem?_eq_some_iff.1 hh).1]; exact hh, rest⟩
theorem own_some {w : World} {B e : Nat} {v : Value} {n : Nat} {xs : List Value} (h : w.ownsRow B e 1 v n xs) (hn : 0 < n) : ∃ g cap, v = .slice (some ⟨g, 0, none⟩) n cap := by
  rcases h.2 with h0 | ⟨g, cap, cur, rfl, _⟩
  · omega
  · exact ⟨g, cap, rfl⟩
theorem own_set {w : World} {B e : Nat} {v : Value} {n : Nat} {xs : List Value} (h : w.ownsRow B e 1 v n xs) (a : Addr) (u : Value) (ha : a.block < B) : (w.setCell a u).ownsRow B e 1 v n xs := by
  refine ⟨h.1, ?_⟩
  rcases h.2 with hn | ⟨g, cap, cur, rfl, hg, hh, rest⟩
  · exact Or.inl hn
  · exact Or.inr ⟨g, cap, cur, rfl, hg, by rw [Below.heap_setCell w a u g (by omega)]; exact hh, rest⟩
/-- The constants of SHA-256, as far as the walks want them. -/
def PrimAt (w : World) (v : Value) : Prop := ∃ g vk vh fk fh, v = .pointer (some ⟨g, 0, none⟩) ∧ w.cell? ⟨g, 0, none⟩ = some vk ∧ w.cell? ⟨g, 1, none⟩ = some vh ∧ NumAt w vk 64 fk ∧ NumAt w vh 8 fh ∧ W32 64 fk ∧ W32 8 fh
theorem PrimAt.below {w w' : World} {v : Value} (h : PrimAt w v) (hb : Below w.heap.size w w') : PrimAt w' v := by
  obtain ⟨g, vk, vh, fk, fh, h1, h2, h3, h4, h5, h6⟩ := h
  exact ⟨g, vk, vh, fk, fh, h1, by rw [hb.cell (World.block_lt_of_cell? w _ h2)]; exact h2, by rw [hb.cell (World.block_lt_of_cell? w _ h3)]; exact h3, h4.below hb, h5.below hb, h6⟩
set_option maxHeartbeats 4000000 in
theorem constants_any (w : World) : Calls Try.prog 5 #[] w fun e w' => ∃ v, e = .returned v ∧ PrimAt w' v ∧ Below w.heap.size w w' := by
  go_enter Try.func5, Try.ntmps5
  go_wp2_with (go_at_call 8; refine (primes_any _).mono ?_; rintro e wp ⟨vl, fl, rfl, hl, hlb, hbp⟩)
  have k0 : wp.cell? ⟨w.heap.size, 0, none⟩ = some (.slice none 0 0) := by rw [hbp.cell (by simp)]; simp [go_sem]
  have k1 : wp.cell? ⟨w.heap.size, 1, none⟩ = some (.slice none 0 0) := by rw [hbp.cell (by simp)]; simp [go_sem]
  have z0 : wp.frozen? ⟨w.heap.size, 0, none⟩ = false := by rw [hbp.frozen (by simp)]; simp [go_sem]
  have z1 : wp.frozen? ⟨w.heap.size, 1, none⟩ = false := by rw [hbp.frozen (by simp)]; simp [go_sem]
  have hz : w.heap.size + 1 ≤ wp.heap.size := by have := hbp.size; simp at this; exact this
  have hB := below_lift (by_alloc w _) (by simp) hbp
  clear hbp
  obtain ⟨ao, cap, gl, rfl, hc1, ha1, hx1⟩ := hl
  obtain rfl := ha1 (by omega)
  have hgl : gl < wp.heap.size := World.block_lt_of_cell? wp _ (hx1 0 (by omega))
  have hgl2 : gl ≠ w.heap.size := fun e => by
    have := hx1 0 (by omega)
    rw [e, k0] at this; exact absurd this (by simp)
  have HL : Hid _ := hlb
  have HX : Hid _ := hx1
  clear hlb hx1 ha1
  have HG : Hid (gl ≠ w.heap.size) := hgl2
  clear hgl2
  go_loopw [3, 4] (fun i _ wr => ∃ (k : Nat) (vk : Value) (f : Nat → Int), k ≤ 64 ∧ i = .int .i64 k ∧ wr.ownsRow wp.heap.size 3 1 vk k (ints .i64 k f) ∧ W32 k f ∧ wr.cell? ⟨w.heap.size, 0, none⟩ = some vk ∧ wr.cell? ⟨w.heap.size, 1, none⟩ = some (.slice none 0 0) ∧ wr.frozen? ⟨w.heap.size, 0, none⟩ = false ∧ wr.frozen? ⟨w.heap.size, 1, none⟩ = false ∧ Hid (∀ i, i < 64 → wr.cell? ⟨gl, i, none⟩ = some (.int .i64 (fl i))) ∧ Below w.heap.size w wr ∧ wp.heap.size ≤ wr.heap.size) (fun i _ _ => 64 - (intOf i).toNat)
  case atStart => exact ⟨0, _, fun _ => 0, by omega, rfl, World.ownsRow_nil _ _ _ _, fun i hi => by omega, k0, k1, z0, z1, HX, hB, Nat.le_refl _⟩
  case round =>
    clear k0 k1 z0 z1 hB HX
    obtain ⟨k, v0, f, hk, rfl, hown, hw, k0, k1, z0, z1, HX, hB, hzr⟩ := hrel
    have hs0 := hB.size
    have hv1 : Hid (∃ v1, v1 = Value.slice none 0 0) := ⟨_, rfl⟩
    by_cases hlt : k < 64
    · have c1 : (k : Int) < 64 := by omega
      have y1 := HX.out k hlt
      obtain ⟨v1, hv1⟩ := hv1.out
      rw [← hv1] at k1
      go_wp2_with (first
        | (go_at_call 9; refine (fraction_any (fl k) 3 (HL.out k (by omega)) (by omega) _).mono ?_; rintro e wf ⟨r, rfl, hr0, hr1, hbf⟩; have k0' : wf.cell? ⟨w.heap.size, 0, none⟩ = some v0 := (by rw [hbf.cell (by simp; omega)]; exact k0); have k1' : wf.cell? ⟨w.heap.size, 1, none⟩ = some v1 := (by rw [hbf.cell (by simp; omega)]; exact k1); have z0' : wf.frozen? ⟨w.heap.size, 0, none⟩ = false := (by rw [hbf.frozen (by simp; omega)]; exact z0); have z1' : wf.frozen? ⟨w.heap.size, 1, none⟩ = false := (by rw [hbf.frozen (by simp; omega)]; exact z1); have hs' := hbf.size; have hown' := own_below hown hbf; clear k0 k1 z0 z1 hown)
        | (refine wpl_append1 intS rfl _ _ rfl wp.heap.size _ k f rfl ?_ (wf.heap.size) r rfl ?_ (by omega) ?_ ?_; (focus (exact owns_alloc hown' _)); (focus (simp [go_sem]; done)); (focus (simp; omega)); intro v' w' hown2 hbel' hsz'; obtain ⟨g2, cap2, rfl⟩ := own_some hown2 (by omega); have hb1 := hbel' _ ((Below.refl wp.heap.size wf).alloc (by omega) (.cells #[.int .i64 r] 3)); have k0 : w'.cell? ⟨w.heap.size, 0, none⟩ = some v0 := (by rw [hb1.cell (by simp; omega)]; exact k0'); have k1 : w'.cell? ⟨w.heap.size, 1, none⟩ = some v1 := (by rw [hb1.cell (by simp; omega)]; exact k1'); have z0 : w'.frozen? ⟨w.heap.size, 0, none⟩ = false := (by rw [hb1.frozen (by simp; omega)]; exact z0'); have z1 : w'.frozen? ⟨w.heap.size, 1, none⟩ = false := (by rw [hb1.frozen (by simp; omega)]; exact z1')))
      go_roundw
      case rel =>
        have hw' : wp.heap.size ≤ w'.heap.size := by simp at hsz'; omega
        refine ⟨k + 1, _, _, by omega, by go_num, own_set hown2 _ _ (by simp; omega), hw.snoc ⟨hr0, hr1⟩, World.cell?_setCell_same _ _ _ k0, ?_, by simp [z0], by simp [z1], ?_, ?_, by simp; exact hw'⟩
        · rw [World.cell?_setCell_other _ _ _ _ (by simp), k1, hv1]
        · intro i hi
          rw [World.cell?_setCell_other _ _ _ _ (by simp; exact fun h => absurd h.symm HG.out), hb1.cell (by simp; omega), hbf.cell (by simp; omega)]
          exact HX.out i hi
        · exact Below.setCell ((below_lift hB hs0 hbf).trans (hb1.mono (by omega))) (by simp) _
      case measure => simp [intOf]; omega
    · have hk' : k = 64 := by omega
      subst hk'
      rw [show ((64 : Nat) : Int) = 64 from rfl]
      obtain ⟨gk, capk, rfl⟩ := own_some hown (by omega)
      have hnk := NumAt.of_owns hown
      obtain ⟨ao2, cap2, gk2, hvk, hck, hak, hxk⟩ := hnk
      have hao := hak (by omega)
      subst hao
      obtain ⟨rfl, rfl⟩ : gk = gk2 ∧ capk = cap2 := by simp at hvk; exact hvk
      obtain ⟨W1, hW1⟩ : ∃ W, W = wr := ⟨_, rfl⟩
      subst hW1
      have hgk : gk < W1.heap.size := World.block_lt_of_cell? W1 _ (hxk 0 (by omega))
      have hgk2 : gk ≠ w.heap.size := fun e => by
        have := hxk 0 (by omega)
        rw [e, k0] at this; exact absurd this (by simp)
      have HGK : Hid (gk ≠ w.heap.size) := hgk2
      have HXK : Hid _ := hxk
      have HW : Hid _ := hw
      have hck2 : Hid (64 ≤ capk) := hck
      obtain ⟨f0, hf0⟩ : ∃ g, g = f := ⟨_, rfl⟩
      subst hf0
      clear hgk2 hxk hak hck hvk hw hown hv1
      go_wp2
      go_loopw [5, 6] (fun i _ wr => ∃ (k : Nat) (vk : Value) (f : Nat → Int), k ≤ 8 ∧ i = .int .i64 k ∧ wr.ownsRow W1.heap.size 3 1 vk k (ints .i64 k f) ∧ W32 k f ∧ wr.cell? ⟨w.heap.size, 0, none⟩ = some (.slice (some ⟨gk, 0, none⟩) 64 capk) ∧ wr.cell? ⟨w.heap.size, 1, none⟩ = some vk ∧ wr.frozen? ⟨w.heap.size, 0, none⟩ = false ∧ wr.frozen? ⟨w.heap.size, 1, none⟩ = false ∧ Hid (∀ i, i < 64 → wr.cell? ⟨gl, i, none⟩ = some (.int .i64 (fl i))) ∧ Hid (∀ i, i < 64 → wr.cell? ⟨gk, i, none⟩ = some (.int .i64 (f0 i))) ∧ Below w.heap.size w wr ∧ W1.heap.size ≤ wr.heap.size) (fun i _ _ => 8 - (intOf i).toNat)
      case atStart => exact ⟨0, _, fun _ => 0, by omega, rfl, World.ownsRow_nil _ _ _ _, fun i hi => by omega, k0, k1, z0, z1, HX, HXK, hB, Nat.le_refl _⟩
      case round =>
        clear k0 k1 z0 z1 hB HX HXK hs0
        obtain ⟨k, v1, f, hk, rfl, hown, hw, k0, k1, z0, z1, HX, HXK, hB, hzr2⟩ := hrel
        have hs0 := hB.size
        have hv0 : Hid (∃ v0, v0 = Value.slice (some ⟨gk, 0, none⟩) 64 capk) := ⟨_, rfl⟩
        by_cases hlt : k < 8
        · have c1 : (k : Int) < 8 := by omega
          have c2 : (k : Int) < 64 := by omega
          have y1 := HX.out k (by omega)
          obtain ⟨v0, hv0⟩ := hv0.out
          rw [← hv0] at k0
          go_wp2_with (first
            | (go_at_call 9; refine (fraction_any (fl k) 2 (HL.out k (by omega)) (by omega) _).mono ?_; rintro e wf ⟨r, rfl, hr0, hr1, hbf⟩; have k0' : wf.cell? ⟨w.heap.size, 0, none⟩ = some v0 := (by rw [hbf.cell (by simp; omega)]; exact k0); have k1' : wf.cell? ⟨w.heap.size, 1, none⟩ = some v1 := (by rw [hbf.cell (by simp; omega)]; exact k1); have z0' : wf.frozen? ⟨w.heap.size, 0, none⟩ = false := (by rw [hbf.frozen (by simp; omega)]; exact z0); have z1' : wf.frozen? ⟨w.heap.size, 1, none⟩ = false := (by rw [hbf.frozen (by simp; omega)]; exact z1); have hs' := hbf.size; have hown' := own_below hown hbf; clear k0 k1 z0 z1 hown)
            | (refine wpl_append1 intS rfl _ _ rfl W1.heap.size _ k f rfl ?_ (wf.heap.size) r rfl ?_ (by omega) ?_ ?_; (focus (exact owns_alloc hown' _)); (focus (simp [go_sem]; done)); (focus (simp; omega)); intro v' w' hown2 hbel' hsz'; obtain ⟨g2, cap2, rfl⟩ := own_some hown2 (by omega); have hb1 := hbel' _ ((Below.refl W1.heap.size wf).alloc (by omega) (.cells #[.int .i64 r] 3)); have k0 : w'.cell? ⟨w.heap.size, 0, none⟩ = some v0 := (by rw [hb1.cell (by simp; omega)]; exact k0'); have k1 : w'.cell? ⟨w.heap.size, 1, none⟩ = some v1 := (by rw [hb1.cell (by simp; omega)]; exact k1'); have z0 : w'.frozen? ⟨w.heap.size, 0, none⟩ = false := (by rw [hb1.frozen (by simp; omega)]; exact z0'); have z1 : w'.frozen? ⟨w.heap.size, 1, none⟩ = false := (by rw [hb1.frozen (by simp; omega)]; exact z1')))
          go_roundw
          case rel =>
            have hw' : W1.heap.size ≤ w'.heap.size := by simp at hsz'; omega
            refine ⟨k + 1, _, _, by omega, by go_num, own_set hown2 _ _ (by simp; omega), hw.snoc ⟨hr0, hr1⟩, ?_, World.cell?_setCell_same _ _ _ k1, by simp [z0], by simp [z1], ?_, ?_, ?_, by simp; exact hw'⟩
            · rw [World.cell?_setCell_other _ _ _ _ (by simp), k0, hv0]
            · intro i hi
              rw [World.cell?_setCell_other _ _ _ _ (by simp; exact fun h => absurd h.symm HG.out), hb1.cell (by simp; omega), hbf.cell (by simp; omega)]
              exact HX.out i hi
            · intro i hi
              rw [World.cell?_setCell_other _ _ _ _ (by simp; exact fun h => absurd h.symm HGK.out), hb1.cell (by simp; omega), hbf.cell (by simp; omega)]
              exact HXK.out i hi
            · exact Below.setCell ((below_lift hB hs0 hbf).trans (hb1.mono (by omega))) (by simp) _
          case measure => simp [intOf]; omega
        · have hk' : k = 8 := by omega
          subst hk'
          have HN : Hid _ := NumAt.of_owns hown
          have HW8 : Hid _ := hw
          clear hown hw hv0
          go_wp2
          go_ret
          exact ⟨_, rfl, ⟨w.heap.size, _, _, _, _, rfl, k0, k1, ⟨_, capk, gk, rfl, hck2.out, fun _ => rfl, HXK.out⟩, HN.out, HW.out, HW8.out⟩, hB⟩
end Go.Proofs.Ytogkchcclcbobaa
