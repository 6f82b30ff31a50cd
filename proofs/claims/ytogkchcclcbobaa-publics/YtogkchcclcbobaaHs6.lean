/- The walks of the document's own answer: HMAC, HKDF. -/
import Derived.Test.YtogkchcclcbobaaHs5
namespace Go
open Go.RowKit Go.Msg Go.Proofs.Ytogkchcclcbobaa
/-- '[]byte(s)'. -/
theorem wpl_bytes {P : Program} {ops : Array Oper} {rest : List Oper} {o : Oper} {a : Act} {w : World} {Q : Exit → Act → World → Prop} (hgd : o.guard = none) (src dst e : TypeId) (x : Operand) (hop : o.op = .convert src dst x)
    (hs : P.underlying src = some .string) (hd : P.underlying dst = some (.slice e)) (he : P.underlying e = some (.int .u8)) (s : ByteArray) (hx : a.eval x = .string s)
    (h : ∀ cap w', s.size ≤ cap → (∀ i, i < s.size → w'.cell? ⟨w.heap.size, i, none⟩ = some (.int .u8 (sb s i))) → (∀ i, i < s.size → w'.frozen? ⟨w.heap.size, i, none⟩ = false) → Below w.heap.size w w' → w'.heap.size = w.heap.size + 1 →
      wpList P ops Q rest (a.put o.dst (.slice (some ⟨w.heap.size, 0, none⟩) s.size cap)) w') : wpList P ops Q (o :: rest) a w := by
  refine wpList_plain hgd fun _ hK => ?_
  unfold Oper.wp execOp
  simp only [hop, hx]
  rw [Sem.run_bind, run_bytes_of_string w src dst e s hs hd he]
  have hsz : (bytesRow s (grownCap w s.size 0 e)).size = s.size + (grownCap w s.size 0 e - s.size) := by simp [bytesRow]
  have hh : (w.drew.alloc (.cells (bytesRow s (grownCap w s.size 0 e)) e ((bytesRow s (grownCap w s.size 0 e)).size, (bytesRow s (grownCap w s.size 0 e)).size + 1))).heap[w.heap.size]? = some (.cells (bytesRow s (grownCap w s.size 0 e)) e ((bytesRow s (grownCap w s.size 0 e)).size, (bytesRow s (grownCap w s.size 0 e)).size + 1)) := by
    show (w.heap.push _)[w.heap.size]? = _
    simp
  refine hK _ _ (h _ _ (grownCap_ge w s.size 0 e) (fun i hi => ?_) (fun i hi => ?_) ?_ ?_)
  · unfold World.cell?
    simp only [hh]
    have := bytesRow_at s (grownCap w s.size 0 e) i hi
    simp only [this, sb_at s i hi]; rfl
  · unfold World.frozen?
    simp only [hh]
    simp; omega
  · exact (Below.drew (Below.refl _ _)).alloc (Nat.le_refl _) _
  · show (w.heap.push _).size = _; simp
/-- 'string(b)', by the cells. -/
theorem wpl_string {P : Program} {ops : Array Oper} {rest : List Oper} {op : Oper} {a : Act} {w : World} {Q : Exit → Act → World → Prop} (hgd : op.guard = none) (src dst e : TypeId) (x : Operand) (hop : op.op = .convert src dst x)
    (hs : P.underlying src = some (.slice e)) (he : P.underlying e = some (.int .u8)) (hd : P.underlying dst = some .string) (g len cap : Nat) (hx : a.eval x = .slice (some ⟨g, 0, none⟩) len cap) (f : Nat → Int) (hc : ∀ i, i < len → w.cell? ⟨g, i, none⟩ = some (.int .u8 (f i)))
    (h : wpList P ops Q rest (a.put op.dst (.string (bstr len f))) w) : wpList P ops Q (op :: rest) a w := by
  refine wpList_plain hgd fun _ hK => ?_
  unfold Oper.wp execOp
  simp only [hop, hx]
  rw [Sem.run_bind, run_convert_bytes_arg w src e hs he g 0 len cap ((List.range len).map f) (by simp) (fun i hi => by rw [Nat.zero_add, hc i hi]; simp [hi]) dst hd]
  exact hK _ _ h
end Go
namespace Go.Proofs.Ytogkchcclcbobaa
open Go.RowKit Go.Msg
set_option maxHeartbeats 2000000 in
theorem added_any (t : ByteArray) (x : Int) (ht : t.size ≤ 1000) (w : World) : Calls Try.prog 60 #[.string t, .int .u8 x] w fun e w' => ∃ s, e = .returned (.string s) ∧ s.size = t.size ∧ Below w.heap.size w w' := by
  go_enter Try.func60, Try.ntmps60
  go_wp2_with (refine wpl_bytes rfl 9 58 5 _ rfl Try.underlying9 Try.underlying58 Try.underlying5 t rfl ?_; intro cap W hcap hcell hfz hb hsz)
  have H1 : Hid _ := hcell
  have H2 : Hid _ := hfz
  clear hcell hfz
  go_loopw [6] (fun i wq => ∃ (k : Nat) (F : Nat → Int), k ≤ t.size ∧ i = .int .i64 k ∧ Hid (∀ j, j < t.size → wq.cell? ⟨w.heap.size, j, none⟩ = some (.int .u8 (F j))) ∧ Hid (∀ j, j < t.size → wq.frozen? ⟨w.heap.size, j, none⟩ = false) ∧ Below w.heap.size w wq) (fun i _ => t.size - (intOf i).toNat)
  case atStart => exact ⟨0, sb t, by omega, rfl, H1, H2, hb⟩
  case round =>
    clear H1 H2 hb
    obtain ⟨k, F, hk, rfl, H1, H2, hb⟩ := hrel
    by_cases hlt : k < t.size
    · have c1 : (k : Int) < t.size := by omega
      have y1 := H1.out k hlt
      have y2 := H2.out k hlt
      go_wp2
      go_roundw
      case rel =>
        refine ⟨k + 1, upd F k ?z, by omega, by go_num, ?_, ?_, ?_⟩
        rotate_left 1
        · intro j hj
          by_cases e : j = k
          · rw [e, World.cell?_setCell_same _ _ _ y1]; simp only [upd, if_true]; exact rfl
          · rw [World.cell?_setCell_other _ _ _ _ (fun h => e (by have := congrArg Addr.off h; simpa using this.symm)), H1.out j hj]; simp only [upd, e, if_false]
        · intro j hj; simp [H2.out j hj]
        · exact hb.setCell (by simp) _
      case measure => simp [intOf]; omega
    · have hk' : k = t.size := by omega
      subst hk'
      go_wp2_with (refine wpl_string rfl 58 9 5 _ rfl Try.underlying58 Try.underlying5 Try.underlying9 w.heap.size t.size cap rfl F H1.out ?_)
      go_ret
      exact ⟨_, rfl, bstr_size _ _, hb⟩
set_option maxHeartbeats 2000000 in
theorem mac_any (p : Value) (k t : ByteArray) (hk : k.size ≤ 64) (ht : t.size ≤ 50000) (w : World) (hp : PrimAt w p) :
    Calls Try.prog 48 #[p, .string k, .string t] w fun e w' => ∃ s, e = .returned (.string s) ∧ s.size = 32 ∧ Below w.heap.size w w' := by
  have c0 : ¬ (k.size : Int) > 64 := by omega
  go_enter Try.func48, Try.ntmps48
  go_wp2
  go_loop [1] (fun v => ∃ s : ByteArray, v = .string s ∧ s.size ≤ 64) (fun v => 64 - slen v)
  case atStart => exact ⟨k, rfl, hk⟩
  case round =>
    obtain ⟨s, rfl, hs⟩ := hrel
    by_cases hlt : s.size < 64
    · have c1 : (s.size : Int) < 64 := by omega
      go_wp2
      go_round
      case rel => exact ⟨_, rfl, by rw [ByteArray.size_append, lit1_size]; omega⟩
      case measure => simp [slen, ByteArray.size_append]; omega
    · have c1 : ¬ (s.size : Int) < 64 := by omega
      go_wp2_with (first
        | (go_at_call 60; have M := added_any s 54 (by omega) w; with_reducible refine M.mono ?_; clear M; rintro e w1 ⟨s1, rfl, z1, b1⟩; have hp1 := hp.below b1; have y1 := b1.size; have x1 : s1.size ≤ 64 := (by omega))
        | (go_at_call 60; have M := added_any s 92 (by omega) w1; with_reducible refine M.mono ?_; clear M; rintro e w2 ⟨s2, rfl, z2, b2⟩; have hp2 := hp1.below b2; have B2 := below_lift b1 y1 b2; have y2 := B2.size; have x2 : s2.size ≤ 64 := (by omega))
        | (go_at_call 59; have M := sha_any _ (s1 ++ t) (by rw [ByteArray.size_append]; omega) _ hp2; with_reducible refine M.mono ?_; clear M; rintro e w3 ⟨s3, rfl, z3, b3⟩; have hp3 := hp2.below b3; have B3 := below_lift B2 y2 b3; have y3 := B3.size; have x3 : s3.size ≤ 64 := (by omega))
        | (go_at_call 59; have M := sha_any _ (s2 ++ s3) (by rw [ByteArray.size_append]; omega) _ hp3; with_reducible refine M.mono ?_; clear M; rintro e w4 ⟨s4, rfl, z4, b4⟩))
      go_ret
      exact ⟨_, rfl, z4, below_lift B3 y3 b4⟩
set_option maxHeartbeats 2000000 in
theorem expand_any (p : Value) (k t u : ByteArray) (n : Nat) (hk : k.size ≤ 64) (ht : t.size ≤ 1000) (hu : u.size ≤ 100) (hn : n ≤ 1000) (w : World) (hp : PrimAt w p) :
    Calls Try.prog 56 #[p, .string k, .string t, .string u, .int .i64 (n : Int)] w fun e w' => ∃ s, e = .returned (.string s) ∧ s.size = n ∧ Below w.heap.size w w' := by
  have qA := cvA
  go_enter Try.func56, Try.ntmps56
  go_wp2_with (go_at_call 48; refine (mac_any _ k t hk (by omega) _ hp).mono ?_; rintro e w1 ⟨s1, rfl, z1, b1⟩)
  have hp1 := hp.below b1
  go_loopw [12, 13, 14] (fun o l i wr => ∃ (a b : ByteArray) (j : Nat), o = .string a ∧ l = .string b ∧ i = .int .i64 ((j : Int) + 1) ∧ a.size = 32 * j ∧ b.size ≤ 32 ∧ a.size < n + 32 ∧ PrimAt wr p ∧ Below w.heap.size w wr) (fun o _ _ _ => n + 32 - slen o)
  case atStart => exact ⟨_, _, 0, rfl, rfl, rfl, rfl, by decide, by show 0 < n + 32; omega, hp1, b1⟩
  case round =>
    clear b1 hp1
    obtain ⟨a, b, j, rfl, rfl, rfl, ha, hb, han, hp1, hbel⟩ := hrel
    have hbs := hbel.size
    by_cases hlt : a.size < n
    · have c1 : (a.size : Int) < n := by omega
      have HA : Hid _ := ha
      have c2 : a.size ≤ 1000 := by omega
      have cj : (j : Int) ≤ 1000 := by omega
      clear ha
      go_wp2_with (go_at_call 48; refine (mac_any _ s1 _ ?_ ?_ _ ?_).mono ?_; (focus (omega)); (focus (simp [ByteArray.size_append]; omega)); (focus (exact hp1.below (by_alloc _ _))); rintro e w2 ⟨s2, rfl, z2, b2⟩; have x2 : s2.size ≤ 32 := (by omega))
      go_roundw
      case rel =>
        have B2 := below_lift (by_alloc wr (.cells #[.int .u8 (((j : Int) + 1) % 256)] 5)) (by simp) b2
        exact ⟨_, _, j + 1, rfl, rfl, by go_num, by rw [ByteArray.size_append, z2, HA.out]; omega, x2, by rw [ByteArray.size_append, z2]; omega, hp1.below B2, below_lift hbel hbs B2⟩
      case measure => simp [slen, ByteArray.size_append]; omega
    · have c1 : ¬ (a.size : Int) < n := by omega
      have c2 : (n : Int) ≤ a.size := by omega
      have c3 : a.size ≤ 2000 := by omega
      go_wp2
      go_ret
      exact ⟨_, rfl, by rw [ByteArray.size_extract]; omega, hbel⟩
end Go.Proofs.Ytogkchcclcbobaa
