/- The walks of package curve: Shared, Point. -/
import Derived.Test.YtogkchcclcbobaaCvM
import Derived.Test.YtogkchcclcbobaaStr
namespace Go.Proofs.Ytogkchcclcbobaa
open Go.RowKit Go.Msg

/-- What a key and a point make, as a text. -/
def sharedF (k p : ByteArray) (b : Nat → Int) : Prop := (∀ i, i < 32 → 0 ≤ b i ∧ b i ≤ 255) ∧ bval 32 b = lout (bitAt (clampF (sb k))) (bsum (sb p) 255 % P25519)
theorem clampF_bd (k : ByteArray) : ∀ i, i < 32 → 0 ≤ clampF (sb k) i ∧ clampF (sb k) i ≤ 255 := fun i _ => by
  have h0 := sb_bd k 0; have h31 := sb_bd k 31; have hi := sb_bd k i
  unfold clampF upd
  by_cases e : i = 31
  · simp [e]; omega
  · by_cases e2 : i = 0
    · simp [e2]; omega
    · simp [e, e2]; exact hi
set_option maxHeartbeats 2000000 in
theorem cshared_any (k p : ByteArray) (hk : k.size ≤ 9223372036854775807) (hp : p.size ≤ 9223372036854775807) (w : World) :
    Calls Try.prog 57 #[.string k, .string p] w fun e w' => ∃ b, e = .returned (.string (bstr 32 b)) ∧ sharedF k p b ∧ Below w.heap.size w w' := by
  go_enter Try.func57, Try.ntmps57
  go_wp2_with (first
    | (go_at_call 68; refine (bytesOf_any _ ?_ _).mono ?_; (focus (with_reducible exact hk)); rintro e A1 ⟨rfl, hb1⟩; have hs1 := hb1.size)
    | (refine wpl_store rt107 rfl _ _ rfl (A1.heap.size) rfl (tab .u8 32 (sb k)) rfl ?_ (tab_size _ _ _) (tab_all _ _ _) (A1.alloc (c32 (sb k))) ?_ ?_; (focus (simp [go_sem]; done)); (focus (simp [go_sem]; done)); obtain ⟨V1, hV⟩ : ∃ V, V = A1.alloc (c32 (sb k)) := ⟨_, rfl⟩; have S1 : V1.heap.size = A1.heap.size + 1 := (by rw [hV]; simp); have R1 : Rowz V1 [(A1.heap.size, tab .u8 32 (sb k))] := (by rw [hV]; exact (Rowz.nil A1).alloc _ _ (by simp [tab_size])); have W1 : Below w.heap.size w V1 := (by rw [hV]; exact (below_lift (Below.refl _ _) (by omega) hb1).alloc (by omega) _); rw [← hV]; clear hV)
    | (refine wpl_load rt107 rfl _ rfl (A1.heap.size) rfl (tab .u8 32 (sb k)) ?_ (tab_size _ _ _) ?_; (focus (exact (R1 (A1.heap.size, tab .u8 32 (sb k)) (by simp)).1)))
    | (go_at_call 69; refine (clamp_any _ (fun i _ => sb_bd k i) _).mono ?_; rintro e A2 ⟨rfl, hb2⟩; have hs2 := hb2.size)
    | (refine wpl_store rt107 rfl _ _ rfl (A1.heap.size) rfl (tab .u8 32 (clampF (sb k))) rfl ?_ (tab_size _ _ _) (tab_all _ _ _) (A2.setRow A1.heap.size (tab .u8 32 (clampF (sb k)))) rfl ?_; (focus (rw [((R1.below hb2) (A1.heap.size, tab .u8 32 (sb k)) (by simp)).1]; exact tab_size _ _ _)); obtain ⟨V2, hV⟩ : ∃ V, V = A2.setRow A1.heap.size (tab .u8 32 (clampF (sb k))) := ⟨_, rfl⟩; have S2 : V2.heap.size = A2.heap.size := (by rw [hV]; simp); have R2 : Rowz V2 [(A1.heap.size, tab .u8 32 (clampF (sb k)))] := (by rw [hV]; exact (Rowz.nil A2).setRow _ _ (tab .u8 32 (sb k)) (by simp [tab_size]) ((R1.below hb2) (A1.heap.size, tab .u8 32 (sb k)) (by simp)).1 (by simp [tab_size]) (by intro p hp; cases hp)); have W2 : Below w.heap.size w V2 := (by rw [hV]; exact below_setRow (below_lift W1 (by omega) hb2) (by omega) _); rw [← hV]; clear hV)
    | (go_at_call 68; refine (bytesOf_any _ ?_ _).mono ?_; (focus (with_reducible exact hp)); rintro e A3 ⟨rfl, hb3⟩; have hs3 := hb3.size)
    | (refine wpl_store rt107 rfl _ _ rfl (A3.heap.size) rfl (tab .u8 32 (sb p)) rfl ?_ (tab_size _ _ _) (tab_all _ _ _) (A3.alloc (c32 (sb p))) ?_ ?_; (focus (simp [go_sem]; done)); (focus (simp [go_sem]; done)); obtain ⟨V3, hV⟩ : ∃ V, V = A3.alloc (c32 (sb p)) := ⟨_, rfl⟩; have S3 : V3.heap.size = A3.heap.size + 1 := (by rw [hV]; simp); have R3 : Rowz V3 [(A3.heap.size, tab .u8 32 (sb p)), (A1.heap.size, tab .u8 32 (clampF (sb k)))] := (by rw [hV]; exact (R2.below hb3).alloc _ _ (by simp [tab_size])); have W3 : Below w.heap.size w V3 := (by rw [hV]; exact (below_lift W2 (by omega) hb3).alloc (by omega) _); rw [← hV]; clear hV)
    | (refine wpl_load rt107 rfl _ rfl (A1.heap.size) rfl (tab .u8 32 (clampF (sb k))) ?_ (tab_size _ _ _) ?_; (focus (exact (R3 (A1.heap.size, tab .u8 32 (clampF (sb k))) (by simp)).1)))
    | (refine wpl_load rt107 rfl _ rfl (A3.heap.size) rfl (tab .u8 32 (sb p)) ?_ (tab_size _ _ _) ?_; (focus (exact (R3 (A3.heap.size, tab .u8 32 (sb p)) (by simp)).1)))
    | (go_at_call 70; refine (ladder_any _ _ (clampF_bd k) (fun i _ => sb_bd p i) _).mono ?_; rintro e A4 ⟨b, rfl, bb, vb, hb4⟩; have hs4 := hb4.size)
    | (refine wpl_store rt107 rfl _ _ rfl (A4.heap.size) rfl (tab .u8 32 b) rfl ?_ (tab_size _ _ _) (tab_all _ _ _) (A4.alloc (c32 b)) ?_ ?_; (focus (simp [go_sem]; done)); (focus (simp [go_sem]; done)); obtain ⟨V4, hV⟩ : ∃ V, V = A4.alloc (c32 b) := ⟨_, rfl⟩; have R4 : V4.rowOf A4.heap.size = tab .u8 32 b := (by rw [hV]; simp [go_sem]); have W4 : Below w.heap.size w V4 := (by rw [hV]; exact (below_lift W3 (by omega) hb4).alloc (by omega) _); rw [← hV]; clear hV)
    | (refine wpl_convert rfl 58 9 5 _ rfl Try.underlying58 Try.underlying5 Try.underlying9 A4.heap.size 0 32 32 rfl 32 b ?_ (by decide) ?_; (focus (exact R4))))
  go_ret
  exact ⟨b, rfl, ⟨bb, vb⟩, W4⟩

set_option maxHeartbeats 400000 in
theorem point_any (k : ByteArray) (hk : k.size ≤ 9223372036854775807) (w : World) :
    Calls Try.prog 44 #[.string k] w fun e w' => ∃ b, e = .returned (.string (bstr 32 b)) ∧ sharedF k ⟨#[9]⟩ b ∧ Below w.heap.size w w' := by
  go_enter Try.func44, Try.ntmps44
  go_wp2_with (go_at_call 57; refine (cshared_any k ⟨#[9]⟩ hk (by decide) _).mono ?_; rintro e A1 ⟨b, rfl, hs, hb⟩)
  go_ret
  exact ⟨b, rfl, hs, hb⟩

set_option maxHeartbeats 400000 in
theorem spublic_any (k : ByteArray) (hk : k.size = 32) (w : World) :
    Calls Try.prog 31 #[.string k] w fun e w' => ∃ b, e = .returned (.tuple #[.string (bstr 32 b), .int .i64 0]) ∧ sharedF k ⟨#[9]⟩ b ∧ Below w.heap.size w w' := by
  have hk1 : (k.size : Int) = 32 := by omega
  have hk2 : k.size ≤ 9223372036854775807 := by omega
  go_enter Try.func31, Try.ntmps31
  go_wp2_with (go_at_call 44; refine (point_any k hk2 _).mono ?_; rintro e A1 ⟨b, rfl, hs, hb⟩)
  go_ret2
  exact ⟨b, rfl, hs, hb⟩

set_option maxHeartbeats 400000 in
theorem spublic_bad (k : ByteArray) (hk : k.size ≠ 32) (w : World) :
    Calls Try.prog 31 #[.string k] w fun e w' => e = .returned (.tuple #[.string ⟨#[]⟩, .int .i64 1]) ∧ w' = w := by
  have hk1 : ((k.size : Int) != 32) = true := by simp; omega
  go_enter Try.func31, Try.ntmps31
  go_wp2
  go_ret2
  exact ⟨rfl, rfl⟩
end Go.Proofs.Ytogkchcclcbobaa
