import Derived.Deep.Cut
import Derived.Deep.CutRange
import Derived.Deep.RegionWith
import Derived.Test.YteghoooelgcpkaaGreatDoorM07
namespace Go.Msg
open Go.RowKit Go.Proofs.YteghoooelgcpkaaGreatDoor
structure Rdr {α : Type} (f : Rd → α × Rd) (enc : α → ByteArray) (P : α → Prop) : Prop where
  fwd : ∀ r, (f r).2.bad = false → r.bad = false ∧ r.rest = enc (f r).1 ++ (f r).2.rest ∧ P (f r).1
  bwd : ∀ v u, P v → f ⟨enc v ++ u, false⟩ = (v, ⟨u, false⟩)
theorem app_take (t u : ByteArray) : (t ++ u).extract 0 t.size = t := by
  refine ba_ext (by rw [ext_size (by rw [ByteArray.size_append]; omega)]; omega) (fun i hi => ?_)
  rw [ext_size (by rw [ByteArray.size_append]; omega)] at hi
  rw [sb_extract _ _ _ _ (by omega) (by rw [ByteArray.size_append]; omega), sb_append, if_pos (by omega), Nat.zero_add]
theorem app_drop (t u : ByteArray) : (t ++ u).extract t.size (t ++ u).size = u := by
  have hs := ByteArray.size_append (a := t) (b := u)
  refine ba_ext (by rw [ext_size (Nat.le_refl _)]; omega) (fun i hi => ?_)
  rw [ext_size (Nat.le_refl _)] at hi
  rw [sb_extract _ _ _ _ (by omega) (Nat.le_refl _), sb_append, if_neg (by omega)]
  congr 1; omega
theorem cut_app (t : ByteArray) (n : Nat) (h : n ≤ t.size) : t = t.extract 0 n ++ t.extract n t.size := by
  refine ba_ext (by rw [ByteArray.size_append, ext_size h, ext_size (Nat.le_refl _)]; omega) (fun i hi => ?_)
  rw [sb_append, ext_size h]
  split
  · rw [sb_extract _ _ _ _ (by omega) h, Nat.zero_add]
  · rw [sb_extract _ _ _ _ (by omega) (Nat.le_refl _)]; congr 1; omega
theorem rd_take (n : Nat) : Rdr (takeF n) id (fun t => t.size = n) := by
  constructor
  · intro r h
    unfold takeF at h ⊢
    split at h
    · cases h
    · rename_i hn
      rw [if_neg hn]
      have h1 : r.bad = false := by cases hb : r.bad; rfl; exact absurd (Or.inl hb) hn
      have h2 : n ≤ r.rest.size := by
        by_cases h : r.rest.size < n
        · exact absurd (Or.inr h) hn
        · omega
      exact ⟨h1, cut_app _ _ h2, by show (r.rest.extract 0 n).size = n; rw [ext_size h2]; omega⟩
  · intro v u hv
    have hv' : v.size = n := hv
    unfold takeF
    have hs := ByteArray.size_append (a := v) (b := u)
    rw [if_neg (by show ¬ (false = true ∨ (v ++ u).size < n); simp; omega)]
    show ((v ++ u).extract 0 n, (⟨(v ++ u).extract n (v ++ u).size, false⟩ : Rd)) = (v, ⟨u, false⟩)
    rw [← hv', app_take, app_drop]
theorem val1 (t : ByteArray) (h : t.size = 1) : t = b1 (valF t : Int) ∧ valF t < 256 := by
  have hb := sb_bd t 0
  have hv : (valF t : Int) = sb t 0 := by rw [valF_cast, h]; simp [numF]
  refine ⟨ba_ext (by rw [h, b1_size]) (fun i hi => ?_), by omega⟩
  have : i = 0 := by omega
  subst this
  rw [hv, sb_b1 _ (by omega)]
theorem val_b1 (n : Nat) (h : n < 256) : valF (b1 (n : Int)) = n := by
  have : (valF (b1 (n : Int)) : Int) = n := by
    rw [valF_cast, b1_size]
    show numF (sb (b1 (n : Int))) 0 * 256 + sb (b1 (n : Int)) 0 = n
    rw [sb_b1 _ (by omega)]; simp [numF]
  omega
theorem be2 (x : Int) : be 2 x = b1 (x / 256 % 256) ++ b1 (x % 256) := by
  show b1 (x / 256 ^ 1 % 256) ++ (b1 (x / 256 ^ 0 % 256) ++ ⟨#[]⟩) = _
  rw [ba_empty]; simp
theorem sb_be2 (x : Int) : sb (be 2 x) 0 = x / 256 % 256 ∧ sb (be 2 x) 1 = x % 256 := by
  rw [be2]
  constructor
  · rw [sb_append, if_pos (by rw [b1_size]; omega), sb_b1 _ (by omega)]
  · rw [sb_append, if_neg (by rw [b1_size]; omega), b1_size, sb_b1 _ (by omega)]
theorem val2 (t : ByteArray) (h : t.size = 2) : t = be 2 (valF t : Int) ∧ valF t < 65536 := by
  have hb := sb_bd t 0
  have hc := sb_bd t 1
  have hv : (valF t : Int) = sb t 0 * 256 + sb t 1 := by rw [valF_cast, h]; simp [numF]
  refine ⟨ba_ext (by rw [h, be_size]) (fun i hi => ?_), by omega⟩
  obtain rfl | rfl : i = 0 ∨ i = 1 := by omega
  · rw [(sb_be2 _).1, hv]; omega
  · rw [(sb_be2 _).2, hv]; omega
theorem val_be2 (n : Nat) (h : n < 65536) : valF (be 2 (n : Int)) = n := by
  have : (valF (be 2 (n : Int)) : Int) = n := by
    rw [valF_cast, be_size]
    show (numF (sb (be 2 (n : Int))) 0 * 256 + sb (be 2 (n : Int)) 0) * 256 + sb (be 2 (n : Int)) 1 = n
    rw [(sb_be2 _).1, (sb_be2 _).2]; simp [numF]; omega
  omega
theorem rd_num1 (m : Nat) (hm : m < 256) : Rdr (numbF 1 m) (fun n => b1 (n : Int)) (fun n => n ≤ m) := by
  constructor
  · intro r h
    have T := (rd_take 1).fwd r
    unfold numbF at h ⊢
    split at h
    · cases h
    · rename_i hn
      rw [if_neg hn]
      obtain ⟨h1, h2, h3⟩ := T h
      have := (val1 _ h3).1
      exact ⟨h1, by show r.rest = b1 (valF (takeF 1 r).1 : Int) ++ _; rw [← this]; exact h2, by show valF _ ≤ m; omega⟩
  · intro n u hn
    have hn' : n ≤ m := hn
    have T := (rd_take 1).bwd (b1 (n : Int)) u (b1_size _)
    have T' : takeF 1 ⟨b1 (n : Int) ++ u, false⟩ = (b1 (n : Int), ⟨u, false⟩) := T
    unfold numbF
    rw [T', if_neg (by rw [val_b1 _ (by omega)]; omega), val_b1 _ (by omega)]
theorem rd_num2 (m : Nat) (hm : m < 65536) : Rdr (numbF 2 m) (fun n => be 2 (n : Int)) (fun n => n ≤ m) := by
  constructor
  · intro r h
    have T := (rd_take 2).fwd r
    unfold numbF at h ⊢
    split at h
    · cases h
    · rename_i hn
      rw [if_neg hn]
      obtain ⟨h1, h2, h3⟩ := T h
      have := (val2 _ h3).1
      exact ⟨h1, by show r.rest = be 2 (valF (takeF 2 r).1 : Int) ++ _; rw [← this]; exact h2, by show valF _ ≤ m; omega⟩
  · intro n u hn
    have hn' : n ≤ m := hn
    have T' : takeF 2 ⟨be 2 (n : Int) ++ u, false⟩ = (be 2 (n : Int), ⟨u, false⟩) := (rd_take 2).bwd (be 2 (n : Int)) u (be_size _ _)
    unfold numbF
    rw [T', if_neg (by rw [val_be2 _ (by omega)]; omega), val_be2 _ (by omega)]
theorem rd_maybe : Rdr maybeF optB Opt := by
  constructor
  · intro r h
    unfold maybeF at h ⊢
    split at h
    · rename_i h0
      rw [if_pos h0]
      obtain ⟨h1, h2, h3⟩ := (rd_num1 1 (by omega)).fwd r h
      rw [h0] at h2
      exact ⟨h1, h2, Or.inl rfl⟩
    · rename_i h0
      rw [if_neg h0]
      obtain ⟨k1, k2, k3⟩ := (rd_take 32).fwd _ h
      obtain ⟨h1, h2, h3⟩ := (rd_num1 1 (by omega)).fwd r k1
      have e1 : (numbF 1 1 r).1 = 1 := by have h3' : (numbF 1 1 r).1 ≤ 1 := h3; omega
      rw [e1, k2] at h2
      have k3' : (takeF 32 (numbF 1 1 r).2).1.size = 32 := k3
      refine ⟨h1, ?_, Or.inr k3⟩
      rw [h2]
      unfold optB
      rw [if_neg (by omega), ByteArray.append_assoc]; rfl
  · intro t u ht
    rcases ht with h | h
    · have e : optB t = b1 ((0 : Nat) : Int) := by unfold optB; rw [if_pos h]; rfl
      have N := (rd_num1 1 (by omega)).bwd 0 u (by show 0 ≤ 1; omega)
      rw [e]; unfold maybeF
      have N' : numbF 1 1 ⟨b1 ((0 : Nat) : Int) ++ u, false⟩ = (0, ⟨u, false⟩) := N
      rw [N', if_pos rfl, size_zero.1 h]
    · have e : optB t ++ u = b1 ((1 : Nat) : Int) ++ (t ++ u) := by unfold optB; rw [if_neg (by omega), ByteArray.append_assoc]; rfl
      have N' : numbF 1 1 ⟨b1 ((1 : Nat) : Int) ++ (t ++ u), false⟩ = (1, ⟨t ++ u, false⟩) := (rd_num1 1 (by omega)).bwd 1 (t ++ u) (by show 1 ≤ 1; omega)
      rw [e]; unfold maybeF
      rw [N', if_neg (by show ¬ (1 : Nat) = 0; omega)]
      exact (rd_take 32).bwd t u h
end Go.Msg
namespace Go.Msg
open Go.RowKit Go.Proofs.YteghoooelgcpkaaGreatDoor
theorem rd_keys (n : Nat) : Rdr (keysF n) kpsB (fun l => l.length = n ∧ ∀ k ∈ l, k.Wf) := by
  induction n with
  | zero =>
    constructor
    · intro r h; exact ⟨h, (nil_ba _).symm, rfl, fun k hk => by cases hk⟩
    · intro l u hl
      obtain rfl : l = [] := List.length_eq_zero_iff.1 hl.1
      show ([], (⟨(⟨#[]⟩ : ByteArray) ++ u, false⟩ : Rd)) = ([], ⟨u, false⟩)
      rw [nil_ba]
  | succ n ih =>
    constructor
    · intro r h
      rw [keysF] at h ⊢
      obtain ⟨c1, c2, c3⟩ := (rd_take 32).fwd _ h
      obtain ⟨b1', b2, b3⟩ := (rd_num2 299 (by omega)).fwd _ c1
      obtain ⟨a1, a2, a3⟩ := (rd_take 32).fwd _ b1'
      obtain ⟨z1, z2, z3⟩ := ih.fwd r a1
      refine ⟨z1, ?_, ?_, ?_⟩
      · rw [z2, a2, b2, c2, kpsB_snoc]
        simp only [kpB, id, ByteArray.append_assoc]
      · show ((keysF n r).1 ++ [_]).length = n + 1
        rw [List.length_append, z3.1]; rfl
      · intro k hk
        rcases List.mem_append.1 hk with h1 | h1
        · exact z3.2 k h1
        · have := List.mem_singleton.1 h1
          subst this
          exact ⟨a3, Nat.lt_succ_of_le b3, c3⟩
    · intro l u hl
      obtain ⟨l', k, rfl⟩ : ∃ l' k, l = l' ++ [k] := by
        have hne : l ≠ [] := fun e => by have := hl.1; rw [e] at this; cases this
        exact ⟨l.dropLast, l.getLast hne, (List.dropLast_concat_getLast hne).symm⟩
      have hl1 : l'.length = n := by have := hl.1; rw [List.length_append] at this; simpa using this
      have hk := hl.2 k (by simp)
      have e : kpsB (l' ++ [k]) ++ u = kpsB l' ++ (k.pt ++ (be 2 (k.n : Int) ++ (k.key ++ u))) := by rw [kpsB_snoc]; simp only [kpB, ByteArray.append_assoc]
      have s1 : keysF n ⟨kpsB l' ++ (k.pt ++ (be 2 (k.n : Int) ++ (k.key ++ u))), false⟩ = (l', ⟨k.pt ++ (be 2 (k.n : Int) ++ (k.key ++ u)), false⟩) := ih.bwd l' _ ⟨hl1, fun j hj => hl.2 j (by simp [hj])⟩
      have s2 : takeF 32 ⟨k.pt ++ (be 2 (k.n : Int) ++ (k.key ++ u)), false⟩ = (k.pt, ⟨be 2 (k.n : Int) ++ (k.key ++ u), false⟩) := (rd_take 32).bwd k.pt _ hk.pt
      have s3 : numbF 2 299 ⟨be 2 (k.n : Int) ++ (k.key ++ u), false⟩ = (k.n, ⟨k.key ++ u, false⟩) := (rd_num2 299 (by omega)).bwd k.n _ (by show k.n ≤ 299; have := hk.n; omega)
      have s4 : takeF 32 ⟨k.key ++ u, false⟩ = (k.key, ⟨u, false⟩) := (rd_take 32).bwd k.key _ hk.key
      rw [e, keysF, s1, s2, s3, s4]
theorem rd_txts (n : Nat) : Rdr (txtsF n) strsB (fun l => l.length = n ∧ ∀ t ∈ l, t.size = 32) := by
  induction n with
  | zero =>
    constructor
    · intro r h; exact ⟨h, (nil_ba _).symm, rfl, fun k hk => by cases hk⟩
    · intro l u hl
      obtain rfl : l = [] := List.length_eq_zero_iff.1 hl.1
      show ([], (⟨(⟨#[]⟩ : ByteArray) ++ u, false⟩ : Rd)) = ([], ⟨u, false⟩)
      rw [nil_ba]
  | succ n ih =>
    constructor
    · intro r h
      rw [txtsF] at h ⊢
      obtain ⟨c1, c2, c3⟩ := (rd_take 32).fwd _ h
      obtain ⟨z1, z2, z3⟩ := ih.fwd r c1
      refine ⟨z1, ?_, ?_, ?_⟩
      · rw [z2, c2, strsB_snoc]
        simp only [id, ByteArray.append_assoc]
      · show ((txtsF n r).1 ++ [_]).length = n + 1
        rw [List.length_append, z3.1]; rfl
      · intro k hk
        rcases List.mem_append.1 hk with h1 | h1
        · exact z3.2 k h1
        · have := List.mem_singleton.1 h1
          subst this
          exact c3
    · intro l u hl
      obtain ⟨l', k, rfl⟩ : ∃ l' k, l = l' ++ [k] := by
        have hne : l ≠ [] := fun e => by have := hl.1; rw [e] at this; cases this
        exact ⟨l.dropLast, l.getLast hne, (List.dropLast_concat_getLast hne).symm⟩
      have hl1 : l'.length = n := by have := hl.1; rw [List.length_append] at this; simpa using this
      have e : strsB (l' ++ [k]) ++ u = strsB l' ++ (k ++ u) := by rw [strsB_snoc, ByteArray.append_assoc]
      have s1 : txtsF n ⟨strsB l' ++ (k ++ u), false⟩ = (l', ⟨k ++ u, false⟩) := ih.bwd l' _ ⟨hl1, fun j hj => hl.2 j (by simp [hj])⟩
      have s4 : takeF 32 ⟨k ++ u, false⟩ = (k, ⟨u, false⟩) := (rd_take 32).bwd k _ (hl.2 k (by simp))
      rw [e, txtsF, s1, s4]
theorem rd_kept : Rdr keptKF (fun l => b1 (l.length : Int) ++ kpsB l) (fun l => l.length ≤ 32 ∧ ∀ k ∈ l, k.Wf) := by
  constructor
  · intro r h
    unfold keptKF at h ⊢
    obtain ⟨c1, c2, c3⟩ := (rd_keys _).fwd _ h
    obtain ⟨z1, z2, z3⟩ := (rd_num1 32 (by omega)).fwd r c1
    refine ⟨z1, ?_, by rw [c3.1]; exact z3, c3.2⟩
    rw [z2, c2, c3.1, ByteArray.append_assoc]
  · intro l u hl
    unfold keptKF
    have e : b1 (l.length : Int) ++ kpsB l ++ u = b1 (l.length : Int) ++ (kpsB l ++ u) := ByteArray.append_assoc
    have s1 : numbF 1 32 ⟨b1 (l.length : Int) ++ (kpsB l ++ u), false⟩ = (l.length, ⟨kpsB l ++ u, false⟩) := (rd_num1 32 (by omega)).bwd l.length _ hl.1
    rw [e, s1]
    exact (rd_keys l.length).bwd l u ⟨rfl, hl.2⟩
theorem rd_list (m : Nat) (hm : m < 256) : Rdr (listF m) (fun l => b1 (l.length : Int) ++ strsB l) (fun l => l.length ≤ m ∧ ∀ t ∈ l, t.size = 32) := by
  constructor
  · intro r h
    unfold listF at h ⊢
    obtain ⟨c1, c2, c3⟩ := (rd_txts _).fwd _ h
    obtain ⟨z1, z2, z3⟩ := (rd_num1 m hm).fwd r c1
    refine ⟨z1, ?_, by rw [c3.1]; exact z3, c3.2⟩
    rw [z2, c2, c3.1, ByteArray.append_assoc]
  · intro l u hl
    unfold listF
    have e : b1 (l.length : Int) ++ strsB l ++ u = b1 (l.length : Int) ++ (strsB l ++ u) := ByteArray.append_assoc
    have s1 : numbF 1 m ⟨b1 (l.length : Int) ++ (strsB l ++ u), false⟩ = (l.length, ⟨strsB l ++ u, false⟩) := (rd_num1 m hm).bwd l.length _ hl.1
    rw [e, s1]
    exact (rd_txts l.length).bwd l u ⟨rfl, hl.2⟩
theorem rd_mark_fwd (r : Rd) (h : (markF sRS r).bad = false) : r.bad = false ∧ r.rest = sRS ++ (markF sRS r).rest := by
  unfold markF at h ⊢
  split at h
  · rename_i hm
    rw [if_pos hm]
    obtain ⟨h1, h2, _⟩ := (rd_take sRS.size).fwd r h
    rw [hm] at h2
    exact ⟨h1, h2⟩
  · cases h
theorem rd_mark_bwd (u : ByteArray) : markF sRS ⟨sRS ++ u, false⟩ = ⟨u, false⟩ := by
  have s : takeF sRS.size ⟨sRS ++ u, false⟩ = (sRS, ⟨u, false⟩) := (rd_take sRS.size).bwd sRS u rfl
  unfold markF
  rw [s, if_pos rfl]
theorem ses_fwd (r : Rd) (h : (sesF r).2.bad = false) (hb : (sesF r).1.read = ⟨#[]⟩ ∨ (sesF r).1.theirs ≠ ⟨#[]⟩) : r.bad = false ∧ r.rest = keptB (sesF r).1 ++ (sesF r).2.rest ∧ (sesF r).1.Wf := by
  obtain ⟨a0, e0⟩ : ∃ a, a = markF sRS r := ⟨_, rfl⟩
  obtain ⟨a1, e1⟩ : ∃ a, a = takeF 32 a0 := ⟨_, rfl⟩
  obtain ⟨a2, e2⟩ : ∃ a, a = takeF 32 a1.2 := ⟨_, rfl⟩
  obtain ⟨a3, e3⟩ : ∃ a, a = maybeF a2.2 := ⟨_, rfl⟩
  obtain ⟨a4, e4⟩ : ∃ a, a = maybeF a3.2 := ⟨_, rfl⟩
  obtain ⟨a5, e5⟩ : ∃ a, a = maybeF a4.2 := ⟨_, rfl⟩
  obtain ⟨a6, e6⟩ : ∃ a, a = numbF 2 300 a5.2 := ⟨_, rfl⟩
  obtain ⟨a7, e7⟩ : ∃ a, a = numbF 2 300 a6.2 := ⟨_, rfl⟩
  obtain ⟨a8, e8⟩ : ∃ a, a = numbF 2 300 a7.2 := ⟨_, rfl⟩
  obtain ⟨a9, e9⟩ : ∃ a, a = keptKF a8.2 := ⟨_, rfl⟩
  obtain ⟨a10, e10⟩ : ∃ a, a = listF 24 a9.2 := ⟨_, rfl⟩
  obtain ⟨a11, e11⟩ : ∃ a, a = listF 8 a10.2 := ⟨_, rfl⟩
  have e : sesF r = (⟨a1.1, a2.1, a3.1, a4.1, a5.1, a6.1, a7.1, a8.1, a9.1, a10.1, a11.1⟩, a11.2) := by rw [e11, e10, e9, e8, e7, e6, e5, e4, e3, e2, e1, e0]; rfl
  rw [e] at h hb ⊢
  clear e
  have h' : a11.2.bad = false := h
  have hb' : a5.1 = ⟨#[]⟩ ∨ a3.1 ≠ ⟨#[]⟩ := hb
  clear h hb
  have F11 := (rd_list 8 (by omega)).fwd a10.2
  rw [← e11] at F11
  obtain ⟨p11, q11, l11⟩ := F11 h'
  have F10 := (rd_list 24 (by omega)).fwd a9.2
  rw [← e10] at F10
  obtain ⟨p10, q10, l10⟩ := F10 p11
  have F9 := rd_kept.fwd a8.2
  rw [← e9] at F9
  obtain ⟨p9, q9, l9⟩ := F9 p10
  have F8 := (rd_num2 300 (by omega)).fwd a7.2
  rw [← e8] at F8
  obtain ⟨p8, q8, l8⟩ := F8 p9
  have F7 := (rd_num2 300 (by omega)).fwd a6.2
  rw [← e7] at F7
  obtain ⟨p7, q7, l7⟩ := F7 p8
  have F6 := (rd_num2 300 (by omega)).fwd a5.2
  rw [← e6] at F6
  obtain ⟨p6, q6, l6⟩ := F6 p7
  have F5 := rd_maybe.fwd a4.2
  rw [← e5] at F5
  obtain ⟨p5, q5, l5⟩ := F5 p6
  have F4 := rd_maybe.fwd a3.2
  rw [← e4] at F4
  obtain ⟨p4, q4, l4⟩ := F4 p5
  have F3 := rd_maybe.fwd a2.2
  rw [← e3] at F3
  obtain ⟨p3, q3, l3⟩ := F3 p4
  have F2 := (rd_take 32).fwd a1.2
  rw [← e2] at F2
  obtain ⟨p2, q2, l2⟩ := F2 p3
  have F1 := (rd_take 32).fwd a0
  rw [← e1] at F1
  obtain ⟨p1, q1, l1⟩ := F1 p2
  have F0 := rd_mark_fwd r
  rw [← e0] at F0
  obtain ⟨p0, q0⟩ := F0 p1
  clear e0 e1 e2 e3 e4 e5 e6 e7 e8 e9 e10 e11
  refine ⟨p0, ?_, ⟨l1, l2, l3, l4, l5, l6, l7, l8, l9.1, l9.2, l10.1, l10.2, l11.1, l11.2, ?_⟩⟩
  · rw [q0, q1, q2, q3, q4, q5, q6, q7, q8, q9, q10, q11]
    simp only [keptB, id, ByteArray.append_assoc]
  · intro hr ht
    rcases hb' with h1 | h1
    · exact hr (size_zero.2 h1)
    · exact h1 (size_zero.1 ht)
theorem ses_bwd (x : Sd) (hx : x.Wf) (u : ByteArray) : sesF ⟨keptB x ++ u, false⟩ = (x, ⟨u, false⟩) := by
  obtain ⟨root, self, theirs, send, read, ns, nr, pn, saved, past, draws⟩ := x
  have e : keptB ⟨root, self, theirs, send, read, ns, nr, pn, saved, past, draws⟩ ++ u = sRS ++ (root ++ (self ++ (optB theirs ++ (optB send ++ (optB read ++ (be 2 (ns : Int) ++ (be 2 (nr : Int) ++ (be 2 (pn : Int) ++ ((b1 (saved.length : Int) ++ kpsB saved) ++ ((b1 (past.length : Int) ++ strsB past) ++ ((b1 (draws.length : Int) ++ strsB draws) ++ u))))))))))) := by simp only [keptB, ByteArray.append_assoc]
  rw [e]
  unfold sesF
  dsimp only
  have T := fun (t u : ByteArray) (h : t.size = 32) => (show takeF 32 ⟨t ++ u, false⟩ = (t, ⟨u, false⟩) from (rd_take 32).bwd t u h)
  have N := fun (n : Nat) (u : ByteArray) (h : n ≤ 300) => (show numbF 2 300 ⟨be 2 (n : Int) ++ u, false⟩ = (n, ⟨u, false⟩) from (rd_num2 300 (by omega)).bwd n u h)
  have O := fun (t u : ByteArray) (h : Opt t) => (show maybeF ⟨optB t ++ u, false⟩ = (t, ⟨u, false⟩) from rd_maybe.bwd t u h)
  have K := fun (u : ByteArray) => (show keptKF ⟨(b1 (saved.length : Int) ++ kpsB saved) ++ u, false⟩ = (saved, ⟨u, false⟩) from rd_kept.bwd saved u ⟨hx.saved, hx.savedW⟩)
  have P := fun (u : ByteArray) => (show listF 24 ⟨(b1 (past.length : Int) ++ strsB past) ++ u, false⟩ = (past, ⟨u, false⟩) from (rd_list 24 (by omega)).bwd past u ⟨hx.past, hx.pastW⟩)
  have D := fun (u : ByteArray) => (show listF 8 ⟨(b1 (draws.length : Int) ++ strsB draws) ++ u, false⟩ = (draws, ⟨u, false⟩) from (rd_list 8 (by omega)).bwd draws u ⟨hx.draws, hx.drawsW⟩)
  rw [rd_mark_bwd, T root _ hx.root]
  dsimp only
  rw [T self _ hx.self]
  dsimp only
  rw [O theirs _ hx.theirs]
  dsimp only
  rw [O send _ hx.send]
  dsimp only
  rw [O read _ hx.read]
  dsimp only
  rw [N ns _ hx.ns]
  dsimp only
  rw [N nr _ hx.nr]
  dsimp only
  rw [N pn _ hx.pn]
  dsimp only
  rw [K]
  dsimp only
  rw [P]
  dsimp only
  rw [D]
theorem import_of (x : Sd) (hx : x.Wf) : importOk (keptB x) ∧ (sesF ⟨keptB x, false⟩).1 = x := by
  have := ses_bwd x hx ⟨#[]⟩
  rw [ba_empty] at this
  refine ⟨?_, by rw [this]⟩
  unfold importOk
  rw [this]
  refine ⟨rfl, rfl, ?_⟩
  by_cases h : x.read = ⟨#[]⟩
  · exact Or.inl h
  · exact Or.inr (fun e => hx.both (fun z => h (size_zero.1 z)) (size_zero.2 e))
theorem keptB_inj {x y : Sd} (hx : x.Wf) (hy : y.Wf) (h : keptB x = keptB y) : x = y := by
  rw [← (import_of x hx).2, h, (import_of y hy).2]
end Go.Msg
namespace Go.Msg
open Go.RowKit Go.Proofs.YteghoooelgcpkaaGreatDoor
theorem ext_split (m : ByteArray) (i j k : Nat) (h1 : i ≤ j) (h2 : j ≤ k) (h3 : k ≤ m.size) : m.extract i k = m.extract i j ++ m.extract j k := by
  refine ba_ext (by rw [ByteArray.size_append, ext_size h3, ext_size (by omega), ext_size h3]; omega) (fun p hp => ?_)
  rw [ext_size h3] at hp
  rw [sb_append, ext_size (by omega), sb_extract m i k p (by omega) h3]
  split
  · rw [sb_extract m i j p (by omega) (by omega)]
  · rw [sb_extract m j k (p - (j - i)) (by omega) h3]; congr 1; omega
theorem ext_mid (a b c : ByteArray) : (a ++ (b ++ c)).extract a.size (a.size + b.size) = b := by
  have h1 := ByteArray.size_append (a := a) (b := b ++ c)
  have h2 := ByteArray.size_append (a := b) (b := c)
  refine ba_ext (by rw [ext_size (by omega)]; omega) (fun p hp => ?_)
  rw [ext_size (by omega)] at hp
  rw [sb_extract _ _ _ _ (by omega) (by omega), sb_append, if_neg (by omega), sb_append, if_pos (by omega)]
  congr 1; omega
theorem u16F_val (m : ByteArray) (i : Nat) (h : i + 2 ≤ m.size) : u16F m i = valF (m.extract i (i + 2)) := by
  have e : (m.extract i (i + 2)).size = 2 := by rw [ext_size h]; omega
  unfold u16F valF; rw [e]
def mesF (r : Rd) : (ByteArray × Nat × Nat × ByteArray × ByteArray) × Rd :=
  let a0 := markF sRM r
  let a1 := takeF 32 a0
  let a2 := numbF 2 300 a1.2
  let a3 := numbF 2 299 a2.2
  let a4 := numbF 2 200 a3.2
  let a5 := takeF a4.1 a4.2
  let a6 := takeF 32 a5.2
  ((a1.1, a2.1, a3.1, a5.1, a6.1), a6.2)
theorem rm_mark_fwd (r : Rd) (h : (markF sRM r).bad = false) : r.bad = false ∧ r.rest = sRM ++ (markF sRM r).rest := by
  unfold markF at h ⊢
  split at h
  · rename_i hm
    rw [if_pos hm]
    obtain ⟨h1, h2, _⟩ := (rd_take sRM.size).fwd r h
    rw [hm] at h2
    exact ⟨h1, h2⟩
  · cases h
theorem rm_mark_bwd (u : ByteArray) : markF sRM ⟨sRM ++ u, false⟩ = ⟨u, false⟩ := by
  have s : takeF sRM.size ⟨sRM ++ u, false⟩ = (sRM, ⟨u, false⟩) := (rd_take sRM.size).bwd sRM u rfl
  unfold markF
  rw [s, if_pos rfl]
theorem sRM_size : sRM.size = 2 := rfl
theorem msg_cut {m : ByteArray} (h : IsMsg m) : m = sRM ++ ((ptF m).point ++ (be 2 ((ptF m).ahead : Int) ++ (be 2 ((ptF m).n : Int) ++ (be 2 ((ptF m).turned.size : Int) ++ ((ptF m).turned ++ (ptF m).tag))))) ∧ (ptF m).head = sRM ++ (ptF m).point ++ be 2 ((ptF m).ahead : Int) ++ be 2 ((ptF m).n : Int) := by
  unfold IsMsg at h
  obtain ⟨h1, h2, h3, h4, h5, h6⟩ := h
  have e34 := u16F_val m 34 (by omega)
  have e36 := u16F_val m 36 (by omega)
  have e38 := u16F_val m 38 (by omega)
  have v34 := (val2 (m.extract 34 36) (by rw [ext_size (by omega)])).1
  have v36 := (val2 (m.extract 36 38) (by rw [ext_size (by omega)])).1
  have v38 := (val2 (m.extract 38 40) (by rw [ext_size (by omega)])).1
  have hts : (ptF m).turned.size = u16F m 38 := by rw [ptF_turned, ext_size (by omega)]; omega
  rw [hts, ptF_ahead, ptF_n, ptF_point, ptF_head, ptF_turned, ptF_tag]
  have w34 : be 2 (u16F m 34 : Int) = m.extract 34 36 := by rw [e34]; exact v34.symm
  have w36 : be 2 (u16F m 36 : Int) = m.extract 36 38 := by rw [e36]; exact v36.symm
  have w38 : be 2 (u16F m 38 : Int) = m.extract 38 40 := by rw [e38]; exact v38.symm
  rw [w34, w36, w38, ← h2]
  generalize u16F m 38 = U at *
  constructor
  · rw [← ext_split m 40 (40 + U) m.size (by omega) (by omega) (Nat.le_refl _), ← ext_split m 38 40 m.size (by omega) (by omega) (Nat.le_refl _), ← ext_split m 36 38 m.size (by omega) (by omega) (Nat.le_refl _), ← ext_split m 34 36 m.size (by omega) (by omega) (Nat.le_refl _), ← ext_split m 2 34 m.size (by omega) (by omega) (Nat.le_refl _), ← ext_split m 0 2 m.size (by omega) (by omega) (Nat.le_refl _)]
    refine ba_ext (by rw [ext_size (Nat.le_refl _)]; omega) (fun p hp => ?_)
    rw [sb_extract _ _ _ _ (by omega) (Nat.le_refl _), Nat.zero_add]
  · rw [← ext_split m 0 2 34 (by omega) (by omega) (by omega), ← ext_split m 0 34 36 (by omega) (by omega) (by omega), ← ext_split m 0 36 38 (by omega) (by omega) (by omega)]
theorem mes_bwd {m : ByteArray} (h : IsMsg m) : mesF ⟨m, false⟩ = (((ptF m).point, (ptF m).ahead, (ptF m).n, (ptF m).turned, (ptF m).tag), ⟨⟨#[]⟩, false⟩) := by
  obtain ⟨z1, z2, z3, z4, z5, z6⟩ := ptF_sizes h
  have hc := (msg_cut h).1
  generalize ptF m = p at *
  obtain ⟨pt, hd, tu, tg, ah, n⟩ := p
  simp only at hc z1 z2 z3 z4 z5 z6 ⊢
  rw [hc]
  have s0 := rm_mark_bwd (pt ++ (be 2 (ah : Int) ++ (be 2 (n : Int) ++ (be 2 (tu.size : Int) ++ (tu ++ tg)))))
  have s1 : takeF 32 ⟨pt ++ (be 2 (ah : Int) ++ (be 2 (n : Int) ++ (be 2 (tu.size : Int) ++ (tu ++ tg)))), false⟩ = (pt, ⟨be 2 (ah : Int) ++ (be 2 (n : Int) ++ (be 2 (tu.size : Int) ++ (tu ++ tg))), false⟩) := (rd_take 32).bwd pt _ z1
  have s2 : numbF 2 300 ⟨be 2 (ah : Int) ++ (be 2 (n : Int) ++ (be 2 (tu.size : Int) ++ (tu ++ tg))), false⟩ = (ah, ⟨be 2 (n : Int) ++ (be 2 (tu.size : Int) ++ (tu ++ tg)), false⟩) := (rd_num2 300 (by omega)).bwd ah _ z5
  have s3 : numbF 2 299 ⟨be 2 (n : Int) ++ (be 2 (tu.size : Int) ++ (tu ++ tg)), false⟩ = (n, ⟨be 2 (tu.size : Int) ++ (tu ++ tg), false⟩) := (rd_num2 299 (by omega)).bwd n _ (by show n ≤ 299; omega)
  have s4 : numbF 2 200 ⟨be 2 (tu.size : Int) ++ (tu ++ tg), false⟩ = (tu.size, ⟨tu ++ tg, false⟩) := (rd_num2 200 (by omega)).bwd tu.size _ z3
  have s5 : takeF tu.size ⟨tu ++ tg, false⟩ = (tu, ⟨tg, false⟩) := (rd_take tu.size).bwd tu tg rfl
  have s6 : takeF 32 ⟨tg ++ ⟨#[]⟩, false⟩ = (tg, ⟨⟨#[]⟩, false⟩) := (rd_take 32).bwd tg ⟨#[]⟩ z4
  rw [ba_empty] at s6
  unfold mesF
  simp only [s0, s1, s2, s3, s4, s5, s6]
theorem mes_fwd (m : ByteArray) (h : (mesF ⟨m, false⟩).2.bad = false) (h0 : (mesF ⟨m, false⟩).2.rest = ⟨#[]⟩) : IsMsg m := by
  unfold mesF at h h0
  simp only at h h0
  obtain ⟨b6, c6, d6⟩ := (rd_take 32).fwd _ h
  obtain ⟨b5, c5, d5⟩ := (rd_take _).fwd _ b6
  obtain ⟨b4, c4, d4⟩ := (rd_num2 200 (by omega)).fwd _ b5
  obtain ⟨b3, c3, d3⟩ := (rd_num2 299 (by omega)).fwd _ b4
  obtain ⟨b2, c2, d2⟩ := (rd_num2 300 (by omega)).fwd _ b3
  obtain ⟨b1, c1, d1⟩ := (rd_take 32).fwd _ b2
  obtain ⟨_, c0⟩ := rm_mark_fwd _ b1
  rw [h0] at c6
  rw [c6] at c5
  rw [c5] at c4
  rw [c4] at c3
  rw [c3] at c2
  rw [c2] at c1
  rw [c1] at c0
  simp only [id] at c0
  clear c1 c2 c3 c4 c5 c6 b1 b2 b3 b4 b5 b6 h h0
  generalize (takeF 32 (markF sRM ⟨m, false⟩)).1 = pt at *
  generalize (numbF 2 300 (takeF 32 (markF sRM ⟨m, false⟩)).2) = A at *
  generalize (numbF 2 299 A.2) = N at *
  generalize (numbF 2 200 N.2) = L at *
  generalize (takeF L.1 L.2) = T at *
  generalize (takeF 32 T.2).1 = G at *
  obtain ⟨a, rA⟩ := A
  obtain ⟨n, rN⟩ := N
  obtain ⟨l, rL⟩ := L
  obtain ⟨t, rT⟩ := T
  simp only at *
  clear rA rN rL rT
  rw [ba_empty] at c0
  have hm : m.size = 72 + l := by
    rw [c0]; simp only [ByteArray.size_append, be_size, sRM_size, d1, d5, d6]; omega
  have x0 : m.extract 0 2 = sRM := by rw [c0]; exact app_take sRM _
  have x34 : m.extract 34 36 = be 2 (a : Int) := by
    have e := ext_mid (sRM ++ pt) (be 2 (a : Int)) (be 2 (n : Int) ++ (be 2 (l : Int) ++ (t ++ G)))
    rw [ByteArray.append_assoc, ← c0, ByteArray.size_append, be_size, sRM_size, d1] at e
    exact e
  have x36 : m.extract 36 38 = be 2 (n : Int) := by
    have e := ext_mid (sRM ++ (pt ++ be 2 (a : Int))) (be 2 (n : Int)) (be 2 (l : Int) ++ (t ++ G))
    rw [ByteArray.append_assoc, ByteArray.append_assoc, ← c0, ByteArray.size_append, ByteArray.size_append, be_size, be_size, sRM_size, d1] at e
    exact e
  have x38 : m.extract 38 40 = be 2 (l : Int) := by
    have e := ext_mid (sRM ++ (pt ++ (be 2 (a : Int) ++ be 2 (n : Int)))) (be 2 (l : Int)) (t ++ G)
    rw [ByteArray.append_assoc, ByteArray.append_assoc, ByteArray.append_assoc, ← c0, ByteArray.size_append, ByteArray.size_append, ByteArray.size_append, be_size, be_size, be_size, sRM_size, d1] at e
    exact e
  have y34 : u16F m 34 = a := by rw [u16F_val m 34 (by omega)]; show valF (m.extract 34 36) = a; rw [x34]; exact val_be2 a (by omega)
  have y36 : u16F m 36 = n := by rw [u16F_val m 36 (by omega)]; show valF (m.extract 36 38) = n; rw [x36]; exact val_be2 n (by omega)
  have y38 : u16F m 38 = l := by rw [u16F_val m 38 (by omega)]; show valF (m.extract 38 40) = l; rw [x38]; exact val_be2 l (by omega)
  unfold IsMsg
  rw [y34, y36, y38]
  exact ⟨by omega, x0, d4, hm, d2, by omega⟩
end Go.Msg
namespace Go.Msg
open Go.RowKit Go.Proofs.YteghoooelgcpkaaGreatDoor
def kfStep (pt : ByteArray) (n : Nat) (a : ByteArray × List Kp) (k : Kp) : ByteArray × List Kp :=
  if a.1.size = 0 ∧ k.n = n ∧ k.pt = pt then (k.key, a.2) else (a.1, a.2 ++ [k])
def kfS (pt : ByteArray) (n : Nat) (l : List Kp) : ByteArray × List Kp := l.foldl (kfStep pt n) (⟨#[]⟩, [])
theorem kfS_snoc (pt : ByteArray) (n : Nat) (l : List Kp) (k : Kp) : kfS pt n (l ++ [k]) = kfStep pt n (kfS pt n l) k := by
  unfold kfS; rw [List.foldl_append]; rfl
theorem kf_full (pt : ByteArray) (n : Nat) (l : List Kp) : ∀ (key : ByteArray) (acc : List Kp), key.size ≠ 0 → l.foldl (kfStep pt n) (key, acc) = (key, acc ++ l) := by
  induction l with
  | nil => intro key acc _; simp
  | cons k l ih =>
    intro key acc h
    rw [List.foldl_cons]
    have e : kfStep pt n (key, acc) k = (key, acc ++ [k]) := by unfold kfStep; rw [if_neg (fun q => h q.1)]
    rw [e, ih _ _ h]; simp
theorem kf_none (pt : ByteArray) (n : Nat) (l : List Kp) : ∀ acc : List Kp, (∀ k ∈ l, isK pt n k = false) → l.foldl (kfStep pt n) (⟨#[]⟩, acc) = (⟨#[]⟩, acc ++ l) := by
  induction l with
  | nil => intro acc _; simp
  | cons k l ih =>
    intro acc h
    rw [List.foldl_cons]
    have hk := h k (by simp)
    have e : kfStep pt n (⟨#[]⟩, acc) k = (⟨#[]⟩, acc ++ [k]) := by
      unfold kfStep
      rw [if_neg (fun q => by simp only [isK, decide_eq_false_iff_not] at hk; exact hk ⟨q.2.2, q.2.1⟩)]
    rw [e, ih _ (fun j hj => h j (by simp [hj]))]; simp
theorem kf_some (pt : ByteArray) (n : Nat) (l : List Kp) : ∀ (acc : List Kp) (i : Nat) (k : Kp), (∀ j ∈ l, j.Wf) → l.findIdx? (isK pt n) = some i → l[i]? = some k → l.foldl (kfStep pt n) (⟨#[]⟩, acc) = (k.key, acc ++ (l.take i ++ l.drop (i + 1))) := by
  induction l with
  | nil => intro acc i k _ h; simp at h
  | cons a l ih =>
    intro acc i k hw h hk
    rw [List.foldl_cons]
    rw [List.findIdx?_cons] at h
    by_cases ha : isK pt n a = true
    · rw [ha] at h
      simp only [if_true, Option.some.injEq] at h
      subst h
      have hak : a = k := by simpa using hk
      subst hak
      have e : kfStep pt n (⟨#[]⟩, acc) a = (a.key, acc) := by
        unfold kfStep
        simp only [isK, decide_eq_true_eq] at ha
        rw [if_pos ⟨rfl, ha.2, ha.1⟩]
      rw [e, kf_full pt n l a.key acc (by have := (hw a (by simp)).key; omega)]
      simp
    · have ha' : isK pt n a = false := by simpa using ha
      rw [ha'] at h
      simp only [Bool.false_eq_true, if_false, Option.map_eq_some_iff] at h
      obtain ⟨i', hi', rfl⟩ := h
      have e : kfStep pt n (⟨#[]⟩, acc) a = (⟨#[]⟩, acc ++ [a]) := by
        unfold kfStep
        rw [if_neg (fun q => by simp only [isK, decide_eq_false_iff_not] at ha'; exact ha' ⟨q.2.2, q.2.1⟩)]
      rw [e, ih (acc ++ [a]) i' k (fun j hj => hw j (by simp [hj])) hi' (by simpa using hk)]
      simp
theorem kfS_none {pt : ByteArray} {n : Nat} {l : List Kp} (h : l.findIdx? (isK pt n) = none) : kfS pt n l = (⟨#[]⟩, l) := by
  have := kf_none pt n l [] (fun k hk => by have := List.findIdx?_eq_none_iff.1 h k hk; simpa using this)
  simpa [kfS] using this
theorem kfS_some {pt : ByteArray} {n : Nat} {l : List Kp} (hw : ∀ j ∈ l, j.Wf) {i : Nat} {k : Kp} (h : l.findIdx? (isK pt n) = some i) (hk : l[i]? = some k) : kfS pt n l = (k.key, l.take i ++ l.drop (i + 1)) := by
  have := kf_some pt n l [] i k hw h hk
  simpa [kfS] using this
theorem idx_some {pt : ByteArray} {n : Nat} {l : List Kp} {i : Nat} (h : l.findIdx? (isK pt n) = some i) : ∃ k, l[i]? = some k := by
  have := (List.findIdx?_eq_some_iff_getElem.1 h).1
  exact ⟨_, List.getElem?_eq_getElem this⟩
theorem drop_snoc_ge {α : Type} (l : List α) (a : α) (o : Nat) (h : o ≤ l.length) : (l ++ [a]).drop o = l.drop o ++ [a] := by
  rw [List.drop_append_of_le_length h]
theorem drop_snoc_lt {α : Type} (l : List α) (a : α) (o : Nat) (h : l.length < o) : (l ++ [a]).drop o = l.drop o := by
  rw [List.drop_eq_nil_of_le (by simp; omega), List.drop_eq_nil_of_le (by omega)]
theorem lastL_eq (a b : List Kp) : lastL a b = (a ++ b).drop (a.length + b.length - 32) := by unfold lastL; rw [List.length_append]
end Go.Msg
namespace Go.Proofs.YteghoooelgcpkaaGreatDoor
open Go.RowKit Go.Msg
theorem iKpL : (Tryz.prog.info? 140).map (·.size) = some 3 := by kernel_rfl
theorem wpl_load_kp {ops : Array Oper} {rest : List Oper} {op : Oper} {a : Act} {w : World} {Q : Exit → Act → World → Prop} (hgd : op.guard = none) (x : Operand) (ho : op.op = .load 140 x)
    (g o : Nat) (hx : a.eval x = .pointer (some ⟨g, o, none⟩)) (p z : ByteArray) (m : Int) (h0 : w.cell? ⟨g, o, none⟩ = some (.string p)) (h1 : w.cell? ⟨g, o + 1, none⟩ = some (.int .i64 m)) (h2 : w.cell? ⟨g, o + 2, none⟩ = some (.string z))
    (h : wpList Tryz.prog ops Q rest (a.put op.dst (.agg #[.string p, .int .i64 m, .string z])) w) : wpList Tryz.prog ops Q (op :: rest) a w := by
  refine wpList_load_mid hgd _ x ho g o hx [.string p, .int .i64 m, .string z] _ ?_ Tryz.underlying140 rfl iKpL h
  intro j v hv
  match j, hv with
  | 0, hv => simp at hv; subst hv; exact h0
  | 1, hv => simp at hv; subst hv; exact h1
  | 2, hv => simp at hv; subst hv; exact h2
  | j + 3, hv => simp at hv
set_option maxRecDepth 4000 in
set_option maxHeartbeats 4000000 in
theorem keptFor_f (v : Value) (l : List Kp) (hl : l.length ≤ 100) (pt : ByteArray) (n : Nat) (w : World) (hv : KpsAt w v l) :
    Calls Tryz.prog 88 #[v, .string pt, .int .i64 (n : Int)] w fun e w' => ∃ v', e = .returned (.tuple #[.string (kfS pt n l).1, v']) ∧ KpsAt w' v' (kfS pt n l).2 ∧ (∀ g, g < w.heap.size → Off g v') ∧ Below w.heap.size w w' := by
  obtain ⟨ao, cap, g, o, rfl, hc, ha, hx⟩ := hv
  obtain ⟨N, hn⟩ : ∃ n, n = l.length := ⟨_, rfl⟩
  have HN := Hid.mk hn
  rw [← hn] at hl hc ha ⊢
  have HX := Hid.mk hx
  clear hn hx
  have c0 : (N : Int) ≤ 100 := by omega
  go_enter Tryz.func88, Tryz.ntmps88
  go_wp2
  go_loopw [8, 9, 10] (fun key oth i wq => ∃ (j : Nat) (a : ByteArray × List Kp) (A : Nat), Hid (a = kfS pt n (l.take j)) ∧ key = .string a.1 ∧ i = .int .i64 j ∧ j ≤ N ∧ A ≤ j ∧ Hid (A = a.2.length) ∧ Hid (wq.ownsRow w.heap.size 140 3 oth A (kpCells a.2)) ∧ Below w.heap.size w wq) (fun _ _ i _ => N - (intOf i).toNat)
  case atStart => exact ⟨0, (⟨#[]⟩, []), 0, Hid.mk rfl, rfl, rfl, by omega, by omega, Hid.mk rfl, Hid.mk (World.ownsRow_nil _ _ _ _), Below.refl _ _⟩
  case round =>
    obtain ⟨j, a, A, HA, rfl, rfl, hj, hA, HAL, HOW, Bq⟩ := hrel
    have sq := Bq.size
    by_cases hlt : j < N
    · have c5 : (j : Int) < N := by omega
      have hao := ha (by omega)
      subst hao
      obtain ⟨kp, hkp⟩ : ∃ kp, l[j]? = some kp := ⟨l[j]'(by rw [← HN.out]; exact hlt), List.getElem?_eq_getElem _⟩
      obtain ⟨hp, hxi, hky⟩ := HX.out j kp hkp
      have hp : wr.cell? ⟨g, o + j * 3, none⟩ = some (.string kp.pt) := by rw [Bq.cell (World.block_lt_of_cell? w _ hp)]; exact hp
      have hxi : wr.cell? ⟨g, o + j * 3 + 1, none⟩ = some (.int .i64 (kp.n : Int)) := by rw [Bq.cell (World.block_lt_of_cell? w _ hxi)]; exact hxi
      have hky : wr.cell? ⟨g, o + j * 3 + 2, none⟩ = some (.string kp.key) := by rw [Bq.cell (World.block_lt_of_cell? w _ hky)]; exact hky
      have HST : Hid (kfS pt n (l.take (j + 1)) = kfStep pt n (kfS pt n (l.take j)) kp) := Hid.mk (by rw [take_snoc _ _ _ hkp, kfS_snoc])
      clear hkp
      by_cases h1 : a.1.toList = []
      · have b1 : a.1.toList.isEmpty = true := by rw [h1]; rfl
        have HZ : Hid (a.1.size = 0) := Hid.mk (size_zero.2 (toList_nil.1 h1))
        by_cases h2 : kp.n = n
        · subst h2
          by_cases h3 : kp.pt.toList = pt.toList
          · have b3 : (kp.pt.toList == pt.toList) = true := by rw [h3]; simp
            have HE : Hid (kfS pt kp.n (l.take (j + 1)) = (kp.key, a.2)) := Hid.mk (by rw [HST.out, ← HA.out]; unfold kfStep; rw [if_pos ⟨HZ.out, rfl, toList_inj.1 h3⟩])
            go_wp2
            go_roundw
            case rel => exact ⟨j + 1, (kp.key, a.2), A, Hid.mk HE.out.symm, rfl, by go_num, by omega, by omega, HAL, HOW, Bq⟩
            case measure => simp [intOf]; omega
          · have b3 : (kp.pt.toList == pt.toList) = false := by simpa using h3
            have HE : Hid (kfS pt kp.n (l.take (j + 1)) = (a.1, a.2 ++ [kp])) := Hid.mk (by rw [HST.out, ← HA.out]; unfold kfStep; rw [if_neg (fun q => h3 (by rw [q.2.2]))])
            go_wp2_with (first
              | (refine wpl_load_kp rfl _ rfl g (o + j * 3) rfl kp.pt kp.key (kp.n : Int) hp hxi hky ?_)
              | (at_builtin; refine wpl_appendL Tryz.underlying80 iKpS (by omega) (by omega) rfl _ _ rfl w.heap.size _ A (kpCells a.2) rfl ?_ _ ⟨wr.heap.size, 0, none⟩ 1 1 [.string kp.pt, .int .i64 (kp.n : Int), .string kp.key] rfl (fun _ => rfl) rfl ?_ ?_ (by omega) (by omega) ?_ ?_; (focus (exact HOW.out.alloc _)); (focus (intro q u hq; rw [Addr.add_mid, Nat.zero_add]; exact rowcell (by simp [go_sem]; exact rfl) q u (by simpa using hq))); (focus (intro u hu; simp at hu; rcases hu with rfl | rfl | rfl <;> rfl)); (focus (simp; omega)); intro v6 w6 hown6 hbel6 hsz6; have B6 := hbel6 w (Bq.alloc sq _); have O6 := Hid.mk hown6; clear hown6 hbel6 hsz6)
              | fail)
            go_roundw
            case rel => exact ⟨j + 1, (a.1, a.2 ++ [kp]), A + 1, Hid.mk HE.out.symm, rfl, by go_num, by omega, by omega, Hid.mk (by rw [List.length_append, ← HAL.out]; rfl), Hid.mk (by show w6.ownsRow w.heap.size 140 3 v6 (A + 1) (kpCells (a.2 ++ [kp])); rw [kpCells_append]; exact O6.out), B6⟩
            case measure => simp [intOf]; omega
        · have b2 : ¬ (kp.n : Int) = (n : Int) := by omega
          have b2' : ((kp.n : Int) == (n : Int)) = false := by simp; omega
          have HE : Hid (kfS pt n (l.take (j + 1)) = (a.1, a.2 ++ [kp])) := Hid.mk (by rw [HST.out, ← HA.out]; unfold kfStep; rw [if_neg (fun q => h2 q.2.1)])
          go_wp2_with (first
            | (refine wpl_load_kp rfl _ rfl g (o + j * 3) rfl kp.pt kp.key (kp.n : Int) hp hxi hky ?_)
            | (at_builtin; refine wpl_appendL Tryz.underlying80 iKpS (by omega) (by omega) rfl _ _ rfl w.heap.size _ A (kpCells a.2) rfl ?_ _ ⟨wr.heap.size, 0, none⟩ 1 1 [.string kp.pt, .int .i64 (kp.n : Int), .string kp.key] rfl (fun _ => rfl) rfl ?_ ?_ (by omega) (by omega) ?_ ?_; (focus (exact HOW.out.alloc _)); (focus (intro q u hq; rw [Addr.add_mid, Nat.zero_add]; exact rowcell (by simp [go_sem]; exact rfl) q u (by simpa using hq))); (focus (intro u hu; simp at hu; rcases hu with rfl | rfl | rfl <;> rfl)); (focus (simp; omega)); intro v6 w6 hown6 hbel6 hsz6; have B6 := hbel6 w (Bq.alloc sq _); have O6 := Hid.mk hown6; clear hown6 hbel6 hsz6)
            | fail)
          go_roundw
          case rel => exact ⟨j + 1, (a.1, a.2 ++ [kp]), A + 1, Hid.mk HE.out.symm, rfl, by go_num, by omega, by omega, Hid.mk (by rw [List.length_append, ← HAL.out]; rfl), Hid.mk (by show w6.ownsRow w.heap.size 140 3 v6 (A + 1) (kpCells (a.2 ++ [kp])); rw [kpCells_append]; exact O6.out), B6⟩
          case measure => simp [intOf]; omega
      · have b1 : a.1.toList.isEmpty = false := by cases h : a.1.toList <;> simp_all
        have HE : Hid (kfS pt n (l.take (j + 1)) = (a.1, a.2 ++ [kp])) := Hid.mk (by rw [HST.out, ← HA.out]; unfold kfStep; rw [if_neg (fun q => h1 (toList_nil.2 (size_zero.1 q.1)))])
        go_wp2_with (first
          | (refine wpl_load_kp rfl _ rfl g (o + j * 3) rfl kp.pt kp.key (kp.n : Int) hp hxi hky ?_)
          | (at_builtin; refine wpl_appendL Tryz.underlying80 iKpS (by omega) (by omega) rfl _ _ rfl w.heap.size _ A (kpCells a.2) rfl ?_ _ ⟨wr.heap.size, 0, none⟩ 1 1 [.string kp.pt, .int .i64 (kp.n : Int), .string kp.key] rfl (fun _ => rfl) rfl ?_ ?_ (by omega) (by omega) ?_ ?_; (focus (exact HOW.out.alloc _)); (focus (intro q u hq; rw [Addr.add_mid, Nat.zero_add]; exact rowcell (by simp [go_sem]; exact rfl) q u (by simpa using hq))); (focus (intro u hu; simp at hu; rcases hu with rfl | rfl | rfl <;> rfl)); (focus (simp; omega)); intro v6 w6 hown6 hbel6 hsz6; have B6 := hbel6 w (Bq.alloc sq _); have O6 := Hid.mk hown6; clear hown6 hbel6 hsz6)
          | fail)
        go_roundw
        case rel => exact ⟨j + 1, (a.1, a.2 ++ [kp]), A + 1, Hid.mk HE.out.symm, rfl, by go_num, by omega, by omega, Hid.mk (by rw [List.length_append, ← HAL.out]; rfl), Hid.mk (by show w6.ownsRow w.heap.size 140 3 v6 (A + 1) (kpCells (a.2 ++ [kp])); rw [kpCells_append]; exact O6.out), B6⟩
        case measure => simp [intOf]; omega
    · have c5 : ¬ (j : Int) < N := by omega
      have hj' : j = N := by omega
      have HE : Hid (a = kfS pt n l) := Hid.mk (by rw [HA.out, hj', HN.out, List.take_length])
      clear hj'
      go_wp2
      go_ret2
      refine ⟨_, by rw [← HE.out]; rfl, ?_, fun g hg => off_of_owns HOW.out hg, Bq⟩
      rw [← HE.out]; exact KpsAt.of_owns (by rw [← HAL.out]; exact HOW.out)
set_option maxRecDepth 4000 in
set_option maxHeartbeats 4000000 in
theorem stored_f (va vb : Value) (a b : List Kp) (la : a.length ≤ 100) (lb : b.length ≤ 400) (w : World) (ha : KpsAt w va a) (hb : KpsAt w vb b) :
    Calls Tryz.prog 175 #[va, vb] w fun e w' => ∃ v, e = .returned v ∧ KpsAt w' v (lastL a b) ∧ (∀ g, g < w.heap.size → Off g v) ∧ Below w.heap.size w w' := by
  obtain ⟨ao, capa, g, o, rfl, hca, ha2, hax⟩ := ha
  obtain ⟨bo, capb, g', o', rfl, hcb, hb2, hbx⟩ := hb
  obtain ⟨na, hna⟩ : ∃ n, n = a.length := ⟨_, rfl⟩
  obtain ⟨nb, hnb⟩ : ∃ n, n = b.length := ⟨_, rfl⟩
  have HNA := Hid.mk hna
  have HNB := Hid.mk hnb
  rw [← hna] at la hca ha2 ⊢
  rw [← hnb] at lb hcb hb2 ⊢
  have HAX := Hid.mk hax
  have HBX := Hid.mk hbx
  clear hna hnb hax hbx
  obtain ⟨v0, hv0⟩ : ∃ v0 : Nat, v0 = na + nb - 32 := ⟨_, rfl⟩
  have HV0 := Hid.mk hv0
  have hna : (na : Int) ≤ 100 := by omega
  have hnb : (nb : Int) ≤ 400 := by omega
  have HLL : Hid (lastL a b = (a ++ b).drop v0) := Hid.mk (by rw [lastL_eq, hv0, HNA.out, HNB.out])
  go_enter Tryz.func175, Tryz.ntmps175
  go_wp2
  go_loopw [6, 7] (fun oth i wq => ∃ (j A : Nat), i = .int .i64 j ∧ j ≤ na ∧ A ≤ j ∧ Hid (A = ((a.take j).drop v0).length) ∧ Hid (wq.ownsRow w.heap.size 140 3 oth A (kpCells ((a.take j).drop v0))) ∧ Below w.heap.size w wq) (fun _ i _ => na - (intOf i).toNat)
  case atStart => exact ⟨0, 0, rfl, by omega, by omega, Hid.mk (by simp), Hid.mk (by rw [show ((a.take 0).drop v0) = [] by simp]; exact World.ownsRow_nil _ _ _ _), Below.refl _ _⟩
  case round =>
    obtain ⟨j, A, rfl, hj, hA, HAL, HOW, Bq⟩ := hrel
    have sq := Bq.size
    by_cases hlt : j < na
    · have c5 : (j : Int) < na := by omega
      have hao := ha2 (by omega)
      subst hao
      obtain ⟨kp, hkp⟩ : ∃ kp, a[j]? = some kp := ⟨a[j]'(by rw [← HNA.out]; exact hlt), List.getElem?_eq_getElem _⟩
      obtain ⟨hp, hxi, hky⟩ := HAX.out j kp hkp
      have hp : wr.cell? ⟨g, o + j * 3, none⟩ = some (.string kp.pt) := by rw [Bq.cell (World.block_lt_of_cell? w _ hp)]; exact hp
      have hxi : wr.cell? ⟨g, o + j * 3 + 1, none⟩ = some (.int .i64 (kp.n : Int)) := by rw [Bq.cell (World.block_lt_of_cell? w _ hxi)]; exact hxi
      have hky : wr.cell? ⟨g, o + j * 3 + 2, none⟩ = some (.string kp.key) := by rw [Bq.cell (World.block_lt_of_cell? w _ hky)]; exact hky
      have HST : Hid (a.take (j + 1) = a.take j ++ [kp]) := Hid.mk (take_snoc _ _ _ hkp)
      have HTL : Hid ((a.take j).length = j) := Hid.mk (by rw [List.length_take, ← HNA.out]; omega)
      clear hkp
      by_cases hov : v0 ≤ j
      · have c6 : (j : Int) ≥ (na : Int) + nb - 32 := by omega
        have HD : Hid ((a.take (j + 1)).drop v0 = (a.take j).drop v0 ++ [kp]) := Hid.mk (by rw [HST.out, drop_snoc_ge _ _ _ (by rw [HTL.out]; exact hov)])
        clear hov hv0
        go_wp2_with (first
          | (refine wpl_load_kp rfl _ rfl g (o + j * 3) rfl kp.pt kp.key (kp.n : Int) hp hxi hky ?_)
          | (at_builtin; refine wpl_appendL Tryz.underlying80 iKpS (by omega) (by omega) rfl _ _ rfl w.heap.size _ A (kpCells ((a.take j).drop v0)) rfl ?_ _ ⟨wr.heap.size, 0, none⟩ 1 1 [.string kp.pt, .int .i64 (kp.n : Int), .string kp.key] rfl (fun _ => rfl) rfl ?_ ?_ (by omega) (by omega) ?_ ?_; (focus (exact HOW.out.alloc _)); (focus (intro q u hq; rw [Addr.add_mid, Nat.zero_add]; exact rowcell (by simp [go_sem]; exact rfl) q u (by simpa using hq))); (focus (intro u hu; simp at hu; rcases hu with rfl | rfl | rfl <;> rfl)); (focus (simp; omega)); intro v6 w6 hown6 hbel6 hsz6; have B6 := hbel6 w (Bq.alloc sq _); have O6 := Hid.mk hown6; clear hown6 hbel6 hsz6)
          | fail)
        go_roundw
        case rel => exact ⟨j + 1, A + 1, by go_num, by omega, by omega, Hid.mk (by rw [HD.out, List.length_append, ← HAL.out]; rfl), Hid.mk (by rw [HD.out, kpCells_append]; exact O6.out), B6⟩
        case measure => simp [intOf]; omega
      · have c6 : ¬ (j : Int) ≥ (na : Int) + nb - 32 := by omega
        have HD : Hid ((a.take (j + 1)).drop v0 = (a.take j).drop v0) := Hid.mk (by rw [HST.out, drop_snoc_lt _ _ _ (by rw [HTL.out]; omega)])
        clear hov hv0
        go_wp2
        go_roundw
        case rel => exact ⟨j + 1, A, by go_num, by omega, by omega, by rw [HD.out]; exact HAL, by rw [HD.out]; exact HOW, Bq⟩
        case measure => simp [intOf]; omega
    · have c5 : ¬ (j : Int) < na := by omega
      have hj' : j = na := by omega
      subst hj'
      have HE : Hid (a.take j = a) := Hid.mk (by rw [HNA.out, List.take_length])
      rw [HE.out] at HAL HOW
      obtain ⟨W1, hW1⟩ : ∃ W, W = wr := ⟨_, rfl⟩
      subst hW1
      go_wp2
      go_loopw [6, 8] (fun oth i wq => ∃ (k A : Nat), i = .int .i64 k ∧ k ≤ nb ∧ A ≤ j + k ∧ Hid (A = ((a ++ b.take k).drop v0).length) ∧ Hid (wq.ownsRow w.heap.size 140 3 oth A (kpCells ((a ++ b.take k).drop v0))) ∧ Below w.heap.size w wq) (fun _ i _ => nb - (intOf i).toNat)
      case atStart => exact ⟨0, A, rfl, by omega, by omega, by rw [show a ++ b.take 0 = a by simp]; exact HAL, by rw [show a ++ b.take 0 = a by simp]; exact HOW, Bq⟩
      case round =>
        clear HAL HOW Bq sq
        obtain ⟨k, A', rfl, hk, hA', HAL, HOW, Bq⟩ := hrel
        have sq := Bq.size
        by_cases hlt2 : k < nb
        · have d5 : (k : Int) < nb := by omega
          have hbo := hb2 (by omega)
          subst hbo
          obtain ⟨kp, hkp⟩ : ∃ kp, b[k]? = some kp := ⟨b[k]'(by rw [← HNB.out]; exact hlt2), List.getElem?_eq_getElem _⟩
          obtain ⟨hp, hxi, hky⟩ := HBX.out k kp hkp
          have hp : wr.cell? ⟨g', o' + k * 3, none⟩ = some (.string kp.pt) := by rw [Bq.cell (World.block_lt_of_cell? w _ hp)]; exact hp
          have hxi : wr.cell? ⟨g', o' + k * 3 + 1, none⟩ = some (.int .i64 (kp.n : Int)) := by rw [Bq.cell (World.block_lt_of_cell? w _ hxi)]; exact hxi
          have hky : wr.cell? ⟨g', o' + k * 3 + 2, none⟩ = some (.string kp.key) := by rw [Bq.cell (World.block_lt_of_cell? w _ hky)]; exact hky
          have HST : Hid (a ++ b.take (k + 1) = (a ++ b.take k) ++ [kp]) := Hid.mk (by rw [take_snoc _ _ _ hkp, List.append_assoc])
          have HTL : Hid ((a ++ b.take k).length = j + k) := Hid.mk (by rw [List.length_append, List.length_take, ← HNB.out, ← HNA.out]; omega)
          clear hkp
          by_cases hov : v0 ≤ j + k
          · have c6 : (k : Int) + j ≥ (j : Int) + nb - 32 := by omega
            have HD : Hid ((a ++ b.take (k + 1)).drop v0 = (a ++ b.take k).drop v0 ++ [kp]) := Hid.mk (by rw [HST.out, drop_snoc_ge _ _ _ (by rw [HTL.out]; exact hov)])
            clear hov hv0
            go_wp2_with (first
              | (refine wpl_load_kp rfl _ rfl g' (o' + k * 3) rfl kp.pt kp.key (kp.n : Int) hp hxi hky ?_)
              | (at_builtin; refine wpl_appendL Tryz.underlying80 iKpS (by omega) (by omega) rfl _ _ rfl w.heap.size _ A' (kpCells ((a ++ b.take k).drop v0)) rfl ?_ _ ⟨wr.heap.size, 0, none⟩ 1 1 [.string kp.pt, .int .i64 (kp.n : Int), .string kp.key] rfl (fun _ => rfl) rfl ?_ ?_ (by omega) (by omega) ?_ ?_; (focus (exact HOW.out.alloc _)); (focus (intro q u hq; rw [Addr.add_mid, Nat.zero_add]; exact rowcell (by simp [go_sem]; exact rfl) q u (by simpa using hq))); (focus (intro u hu; simp at hu; rcases hu with rfl | rfl | rfl <;> rfl)); (focus (simp; omega)); intro v6 w6 hown6 hbel6 hsz6; have B6 := hbel6 w (Bq.alloc sq _); have O6 := Hid.mk hown6; clear hown6 hbel6 hsz6)
              | fail)
            go_roundw
            case rel => exact ⟨k + 1, A' + 1, by go_num, by omega, by omega, Hid.mk (by rw [HD.out, List.length_append, ← HAL.out]; rfl), Hid.mk (by rw [HD.out, kpCells_append]; exact O6.out), B6⟩
            case measure => simp [intOf]; omega
          · have c6 : ¬ (k : Int) + j ≥ (j : Int) + nb - 32 := by omega
            have HD : Hid ((a ++ b.take (k + 1)).drop v0 = (a ++ b.take k).drop v0) := Hid.mk (by rw [HST.out, drop_snoc_lt _ _ _ (by rw [HTL.out]; omega)])
            clear hov hv0
            go_wp2
            go_roundw
            case rel => exact ⟨k + 1, A', by go_num, by omega, by omega, by rw [HD.out]; exact HAL, by rw [HD.out]; exact HOW, Bq⟩
            case measure => simp [intOf]; omega
        · have d5 : ¬ (k : Int) < nb := by omega
          have hk' : k = nb := by omega
          have HF : Hid ((a ++ b.take k).drop v0 = lastL a b) := Hid.mk (by rw [HLL.out, hk', HNB.out, List.take_length])
          rw [HF.out] at HAL HOW
          clear hk'
          go_wp2
          go_ret
          exact ⟨_, rfl, KpsAt.of_owns (by rw [← HAL.out]; exact HOW.out), fun g hg => off_of_owns HOW.out hg, Bq⟩
set_option maxHeartbeats 2000000 in
theorem has_f (v : Value) (l : List ByteArray) (hl : l.length ≤ 100) (t : ByteArray) (w : World) (hv : StrsAt w v l) :
    Calls Tryz.prog 91 #[v, .string t] w fun e w' => e = .returned (.bool (l.any (fun u => decide (u = t)))) ∧ w' = w := by
  obtain ⟨ao, cap, g, o, rfl, hc, ha, hx⟩ := hv
  obtain ⟨N, hn⟩ : ∃ n, n = l.length := ⟨_, rfl⟩
  have HN := Hid.mk hn
  rw [← hn] at hl hc ha ⊢
  have HX := Hid.mk hx
  clear hn hx
  have c0 : (N : Int) ≤ 100 := by omega
  go_enter Tryz.func91, Tryz.ntmps91
  go_wp2
  go_loop [5] (fun i => ∃ (j : Nat), i = .int .i64 j ∧ j ≤ N ∧ Hid ((l.take j).any (fun u => decide (u = t)) = false)) (fun i => N - (intOf i).toNat)
  case atStart => exact ⟨0, rfl, by omega, Hid.mk rfl⟩
  case round =>
    obtain ⟨j, rfl, hj, HF⟩ := hrel
    by_cases hlt : j < N
    · have c5 : (j : Int) < N := by omega
      have hao := ha (by omega)
      subst hao
      obtain ⟨u, hu⟩ : ∃ u, l[j]? = some u := ⟨l[j]'(by rw [← HN.out]; exact hlt), List.getElem?_eq_getElem _⟩
      have hp := HX.out j u hu
      by_cases h3 : u.toList = t.toList
      · have b3 : (u.toList == t.toList) = true := by rw [h3]; simp
        have HE : Hid (l.any (fun u => decide (u = t)) = true) := Hid.mk (List.any_eq_true.2 ⟨u, List.mem_of_getElem? hu, by simp [toList_inj.1 h3]⟩)
        clear hu
        go_wp2
        go_ret
        exact ⟨by rw [HE.out]; rfl, rfl⟩
      · have b3 : (u.toList == t.toList) = false := by simpa using h3
        have HE : Hid ((l.take (j + 1)).any (fun u => decide (u = t)) = false) := Hid.mk (by rw [take_snoc _ _ _ hu, List.any_append, HF.out]; simp; exact fun e => h3 (by rw [e]))
        clear hu
        go_wp2
        go_round
        case rel => exact ⟨j + 1, by go_num, by omega, HE⟩
        case measure => simp [intOf]; omega
    · have c5 : ¬ (j : Int) < N := by omega
      have hj' : j = N := by omega
      have HE : Hid (l.any (fun u => decide (u = t)) = false) := Hid.mk (by have := HF.out; rw [hj', HN.out, List.take_length] at this; exact this)
      clear hj'
      go_wp2
      go_ret
      exact ⟨by rw [HE.out]; rfl, rfl⟩
set_option maxHeartbeats 4000000 in
theorem parted_f (v : Value) (d : ByteArray) (l : List ByteArray) (hl : l.length ≤ 100) (w : World) (hv : StrsAt w v (d :: l)) :
    Calls Tryz.prog 153 #[v] w fun e w' => ∃ v', e = .returned (.tuple #[.string d, v']) ∧ StrsAt w' v' l ∧ (∀ g, g < w.heap.size → Off g v') ∧ Below w.heap.size w w' := by
  obtain ⟨ao, cap, g, o, rfl, hc, ha, hx⟩ := hv
  obtain ⟨N, hn⟩ : ∃ n, n = (d :: l).length := ⟨_, rfl⟩
  have HN := Hid.mk hn
  have hN1 : N = l.length + 1 := by rw [hn]; rfl
  have hN2 : N ≤ 101 := by omega
  have hN3 : 0 < N := by omega
  have HN1 := Hid.mk hN1
  rw [← hn] at hc ha ⊢
  have HX := Hid.mk hx
  clear hn hx hl hN1
  have c0 : (N : Int) ≤ 101 := by omega
  have hao := ha hN3
  subst hao
  clear ha
  have hp0 := HX.out 0 d rfl
  go_enter Tryz.func153, Tryz.ntmps153
  go_wp2
  go_loopw [4, 5, 6] (fun f oth i wq => ∃ (j : Nat), i = .int .i64 j ∧ j ≤ N ∧ (0 < j → f = .string d) ∧ (j = 0 → f = .string ⟨#[]⟩) ∧ Hid (wq.ownsRow w.heap.size 9 1 oth (j - 1) (strCells (l.take (j - 1)))) ∧ Below w.heap.size w wq) (fun _ _ i _ => N - (intOf i).toNat)
  case atStart => exact ⟨0, rfl, by omega, fun h => absurd h (by omega), fun _ => rfl, Hid.mk (World.ownsRow_nil _ _ _ _), Below.refl _ _⟩
  case round =>
    obtain ⟨j, rfl, hj, hf, hf0, HOW, Bq⟩ := hrel
    have sq := Bq.size
    by_cases hlt : j < N
    · have c5 : (j : Int) < N := by omega
      by_cases h0 : j = 0
      · have hf0' := hf0 h0
        subst hf0'
        subst h0
        clear hf hf0
        rw [show ((0 : Nat) : Int) = 0 from rfl] at *
        have hp : wr.cell? ⟨g, o, none⟩ = some (.string d) := by
          have hp0' : w.cell? ⟨g, o, none⟩ = some (.string d) := hp0
          rw [Bq.cell (World.block_lt_of_cell? w _ hp0')]; exact hp0'
        clear hp0
        go_wp2
        go_roundw
        case rel => exact ⟨1, by go_num, by omega, fun _ => rfl, fun h => absurd h (by omega), HOW, Bq⟩
        case measure => simp [intOf]; omega
      · have hf' := hf (by omega)
        subst hf'
        clear hf hf0
        obtain ⟨i, hi⟩ : ∃ i, j = i + 1 := ⟨j - 1, by omega⟩
        subst hi
        have hil : i < l.length := by have := HN1.out; omega
        have hu : l[i]? = some l[i] := List.getElem?_eq_getElem hil
        generalize l[i] = u at hu
        have hp := HX.out (i + 1) u (by simpa using hu)
        have hp : wr.cell? ⟨g, o + (i + 1), none⟩ = some (.string u) := by rw [Bq.cell (World.block_lt_of_cell? w _ hp)]; exact hp
        have HST : Hid (l.take (i + 1) = l.take i ++ [u]) := Hid.mk (take_snoc _ _ _ hu)
        have c6 : ¬ ((i + 1 : Nat) : Int) = 0 := by omega
        have c7 : (((i + 1 : Nat) : Int) == 0) = false := by simp; omega
        have c8 : (((i + 1 : Nat) : Int)).toNat = i + 1 := by omega
        have HOW' : Hid (wr.ownsRow w.heap.size 9 1 u5 i (strCells (l.take i))) := HOW
        obtain ⟨J, hJ⟩ : ∃ J, J = i + 1 := ⟨_, rfl⟩
        rw [← hJ] at hp c5 hlt hj ⊢
        have ib : i ≤ 101 := by omega
        have HJ := Hid.mk hJ
        clear hu hil hp0 HOW h0 hJ c6 c7 c8
        have c6 : ¬ (J : Int) = 0 := by have := HJ.out; omega
        have c7 : ((J : Int) == 0) = false := by simp; have := HJ.out; omega
        go_wp2_with (first
          | (at_builtin; refine wpl_appendL Tryz.underlying32 iStr (by omega) (by omega) rfl _ _ rfl w.heap.size _ i (strCells (l.take i)) rfl ?_ _ ⟨wr.heap.size, 0, none⟩ 1 1 [.string u] rfl (fun _ => rfl) rfl ?_ ?_ (by omega) (by omega) ?_ ?_; (focus (exact HOW'.out.alloc _)); (focus (intro q u hq; rw [Addr.add_mid, Nat.zero_add]; exact rowcell (by simp [go_sem]; exact rfl) q u (by simpa using hq))); (focus (intro z hz; simp at hz; subst hz; rfl)); (focus (simp; omega)); intro v6 w6 hown6 hbel6 hsz6; have B6 := hbel6 w (Bq.alloc sq _); have O6 := Hid.mk hown6; clear hown6 hbel6 hsz6)
          | fail)
        go_roundw
        case rel => exact ⟨J + 1, by go_num, by omega, fun _ => rfl, fun h => absurd h (by omega), Hid.mk (by have e : J + 1 - 1 = i + 1 := (by have := HJ.out; omega); rw [e, HST.out, strCells_append]; exact O6.out), B6⟩
        case measure => simp [intOf]; omega
    · have c5 : ¬ (j : Int) < N := by omega
      have hj' : j = N := by omega
      have hf' := hf (by omega)
      subst hf'
      have HE : Hid (wr.ownsRow w.heap.size 9 1 u5 l.length (strCells l)) := Hid.mk (by
        have h := HOW.out
        have e : j - 1 = l.length := by have := HN1.out; omega
        rw [e, List.take_length] at h; exact h)
      clear hj' hf hf0 HOW
      go_wp2
      go_ret2
      exact ⟨_, rfl, StrsAt.of_owns HE.out, fun g hg => off_of_owns HE.out hg, Bq⟩
end Go.Proofs.YteghoooelgcpkaaGreatDoor
namespace Go.Proofs.YteghoooelgcpkaaGreatDoor
open Go.RowKit Go.Msg
theorem rm_list : sRM.toList = [82, 77] := by rw [sRM, ByteArray.toList_eq]
set_option maxHeartbeats 1000000 in
theorem markM_f (k : Nat) (r : Rd) (w : World) (hr : w.rowOf k = rdC r) :
    Calls Tryz.prog 80 #[.pointer (some ⟨k, 0, none⟩), .string ⟨#[82, 77]⟩] w fun e w' => e = .returned (.tuple #[]) ∧ w'.rowOf k = rdC (markF sRM r) ∧ Tch k w w' := by
  have HD : Hid (markF sRM r = if (takeF 2 r).1 = sRM then (takeF 2 r).2 else ⟨(takeF 2 r).2.rest, true⟩) := Hid.mk rfl
  by_cases he : (takeF 2 r).1.toList = [82, 77]
  · have HE : Hid (markF sRM r = (takeF 2 r).2) := Hid.mk (by rw [HD.out, if_pos (toList_inj.1 (by rw [he, rm_list]))])
    clear HD
    go_enter Tryz.func80, Tryz.ntmps80
    go_wp2_with (first | (go_at_call 119; have M := take2 k r w hr; with_reducible refine M.mono ?_; clear M; rintro e w1 ⟨rfl, r1, t1⟩) | fail)
    go_end0
    exact ⟨rfl, by rw [HE.out]; exact r1, t1⟩
  · have HE : Hid (markF sRM r = ⟨(takeF 2 r).2.rest, true⟩) := Hid.mk (by rw [HD.out, if_neg (fun e => he (by rw [e, rm_list]))])
    have heB : ((takeF 2 r).1.toList == [82, 77]) = false := by simp [he]
    clear HD
    go_enter Tryz.func80, Tryz.ntmps80
    go_wp2_with (first | (go_at_call 119; have M := take2 k r w hr; with_reducible refine M.mono ?_; clear M; rintro e w1 ⟨rfl, r1, t1⟩; have f1 := rowcell r1 1 (.bool (takeF 2 r).2.bad) rfl; have z1 := rowfz2 r1 1 (by rw [rdC_size]; omega); have HR1 := Hid.mk r1; clear r1) | fail)
    go_end0
    exact ⟨rfl, by rw [HE.out]; exact rowOf_setCell HR1.out (by rw [rdC_size]; omega) 1 _, t1.setCell 1 _⟩
theorem ru200 (k : Nat) (r : Rd) (w : World) (hr : w.rowOf k = rdC r) :
    Calls Tryz.prog 83 #[.pointer (some ⟨k, 0, none⟩), .int .i64 200] w fun e w' => e = .returned (.int .i64 ((numbF 2 200 r).1 : Int)) ∧ w'.rowOf k = rdC (numbF 2 200 r).2 ∧ Tch k w w' := ru16_f k 200 (by omega) r w hr
def pC (point : ByteArray) (ahead number : Int) (turned tag : ByteArray) : Array Value := #[.string point, .int .i64 ahead, .int .i64 number, .string turned, .string tag]
theorem rtPt : RowTy Tryz.prog 92 5 := ⟨by decide, by kernel_rfl, _, Tryz.underlying92, rfl⟩
section
variable {w w' : World} {b k : Nat} {p t g : ByteArray} {a n : Int}
theorem pC_size : (pC p a n t g).size = 5 := rfl
theorem pC_one : (pC p a n t g).all (·.oneCell') = true := by simp [pC, Value.oneCell']
theorem p_tch (h : w.rowOf b = pC p a n t g) (q : Tch k w w') (hb : b ≠ k) : w'.rowOf b = pC p a n t g := (q.row (by rw [h, pC_size]; omega) hb).trans h
theorem p_z (h : w.rowOf b = pC p a n t g) (i : Nat) (hi : i < 5) : w.frozen? ⟨b, i, none⟩ = false := rowfz2 h i (by rw [pC_size]; exact hi)
theorem p_set0 (h : w.rowOf b = pC p a n t g) (u : ByteArray) : (w.setCell ⟨b, 0, none⟩ (.string u)).rowOf b = pC u a n t g := rowOf_setCell h (by rw [pC_size]; omega) 0 _
theorem p_set1 (h : w.rowOf b = pC p a n t g) (u : Int) : (w.setCell ⟨b, 1, none⟩ (.int .i64 u)).rowOf b = pC p u n t g := rowOf_setCell h (by rw [pC_size]; omega) 1 _
theorem p_set2 (h : w.rowOf b = pC p a n t g) (u : Int) : (w.setCell ⟨b, 2, none⟩ (.int .i64 u)).rowOf b = pC p a u t g := rowOf_setCell h (by rw [pC_size]; omega) 2 _
theorem p_set3 (h : w.rowOf b = pC p a n t g) (u : ByteArray) : (w.setCell ⟨b, 3, none⟩ (.string u)).rowOf b = pC p a n u g := rowOf_setCell h (by rw [pC_size]; omega) 3 _
theorem p_set4 (h : w.rowOf b = pC p a n t g) (u : ByteArray) : (w.setCell ⟨b, 4, none⟩ (.string u)).rowOf b = pC p a n t u := rowOf_setCell h (by rw [pC_size]; omega) 4 _
theorem p_c0 (h : w.rowOf b = pC p a n t g) : w.cell? ⟨b, 0, none⟩ = some (.string p) := rowcell h 0 _ rfl
theorem p_c1 (h : w.rowOf b = pC p a n t g) : w.cell? ⟨b, 1, none⟩ = some (.int .i64 a) := rowcell h 1 _ rfl
theorem p_c2 (h : w.rowOf b = pC p a n t g) : w.cell? ⟨b, 2, none⟩ = some (.int .i64 n) := rowcell h 2 _ rfl
theorem p_c3 (h : w.rowOf b = pC p a n t g) : w.cell? ⟨b, 3, none⟩ = some (.string t) := rowcell h 3 _ rfl
theorem p_c4 (h : w.rowOf b = pC p a n t g) : w.cell? ⟨b, 4, none⟩ = some (.string g) := rowcell h 4 _ rfl
end
def mC (x : ByteArray × Nat × Nat × ByteArray × ByteArray) : Array Value := pC x.1 (x.2.1 : Int) (x.2.2.1 : Int) x.2.2.2.1 x.2.2.2.2
theorem below_tch' {w a b : World} {k : Nat} (h : Below w.heap.size w a) (t : Tch k a b) (hk : w.heap.size ≤ k) : Below w.heap.size w b :=
  ⟨t.os.trans h.os, t.tape.trans h.tape, t.output.trans h.output, Nat.le_trans h.size t.size, fun i hi => (t.block i (Nat.lt_of_lt_of_le hi h.size) (by omega)).trans (h.block i hi)⟩
def pc0 : Array Value := #[.string ⟨#[]⟩, .int .i64 0, .int .i64 0, .string ⟨#[]⟩, .string ⟨#[]⟩]
theorem pc0_pos : 0 < pc0.size := by decide
theorem rd_lt {w : World} {k : Nat} {r : Rd} (h : w.rowOf k = rdC r) : k < w.heap.size := rowOf_lt (by rw [h, rdC_size]; omega)
theorem ns_other {w1 w2 : World} {z c d : Array Value} {t k : Nat} (hw : w2 = (w1.alloc (.cells z t)).setRow w1.heap.size c) (h : w1.rowOf k = d) (hd : 0 < d.size) : w2.rowOf k = d := by
  have hk : k < w1.heap.size := rowOf_lt (by rw [h]; exact hd)
  rw [hw, rowOf_setRow_other (by omega), below_row (by_alloc w1 _) (by rw [h]; exact hd)]; exact h
theorem size_setRow (w : World) (g : Nat) (c : Array Value) : (w.setRow g c).heap.size = w.heap.size := by simp [World.setRow]
set_option maxRecDepth 4000 in
set_option maxHeartbeats 8000000 in
theorem message_f (k : Nat) (r : Rd) (w : World) (hr : w.rowOf k = rdC r) :
    Calls Tryz.prog 87 #[.pointer (some ⟨k, 0, none⟩)] w fun e w' => e = .returned (.agg (mC (mesF r).1)) ∧ w'.rowOf k = rdC (mesF r).2 ∧ Tch k w w' := by
  have hk : k < w.heap.size := rowOf_lt (by rw [hr, rdC_size]; omega)
  have hkb : k ≠ w.heap.size + 1 := by omega
  have hkc : k ≠ w.heap.size := by omega
  obtain ⟨a0, h0⟩ : ∃ a, a = markF sRM r := ⟨_, rfl⟩
  obtain ⟨a1, h1⟩ : ∃ a, a = takeF 32 a0 := ⟨_, rfl⟩
  obtain ⟨a2, h2⟩ : ∃ a, a = numbF 2 300 a1.2 := ⟨_, rfl⟩
  obtain ⟨a3, h3⟩ : ∃ a, a = numbF 2 299 a2.2 := ⟨_, rfl⟩
  obtain ⟨a4, h4⟩ : ∃ a, a = numbF 2 200 a3.2 := ⟨_, rfl⟩
  obtain ⟨a5, h5⟩ : ∃ a, a = takeF a4.1 a4.2 := ⟨_, rfl⟩
  obtain ⟨a6, h6⟩ : ∃ a, a = takeF 32 a5.2 := ⟨_, rfl⟩
  have HF : Hid (mesF r = ((a1.1, a2.1, a3.1, a5.1, a6.1), a6.2)) := Hid.mk (by rw [h6, h5, h4, h3, h2, h1, h0]; rfl)
  have l4 : a4.1 ≤ 200 := by rw [h4]; exact numbF_le _ _ _
  have H0 := Hid.mk h0
  have H1 := Hid.mk h1
  have H2 := Hid.mk h2
  have H3 := Hid.mk h3
  have H4 := Hid.mk h4
  have H5 := Hid.mk h5
  have H6 := Hid.mk h6
  clear h0 h1 h2 h3 h4 h5 h6
  obtain ⟨W, hW⟩ : ∃ W, W = ((w.alloc (.cells #[.string ⟨#[]⟩, .int .i64 0, .int .i64 0, .string ⟨#[]⟩, .string ⟨#[]⟩] 92)).alloc (.cells #[.string ⟨#[]⟩, .int .i64 0, .int .i64 0, .string ⟨#[]⟩, .string ⟨#[]⟩] 92)) := ⟨_, rfl⟩
  have RA : Hid (W.rowOf k = rdC r) := Hid.mk (by rw [hW, below_row (by_alloc2 w _ _) (by rw [hr, rdC_size]; omega)]; exact hr)
  have RB : Hid (W.rowOf (w.heap.size + 1) = pC ⟨#[]⟩ 0 0 ⟨#[]⟩ ⟨#[]⟩) := Hid.mk (by rw [hW, (box_two w _ _ _).2]; rfl)
  have RC : Hid (W.rowOf w.heap.size = pC ⟨#[]⟩ 0 0 ⟨#[]⟩ ⟨#[]⟩) := Hid.mk (by rw [hW, (box_two w _ _ _).1]; rfl)
  have TA : Tch k w W := by rw [hW]; exact tch_of (by_alloc2 w _ _) k
  have ys : w.heap.size + 2 ≤ W.heap.size := by rw [hW]; simp
  have y0 : w.heap.size ≤ w.heap.size + 1 := by omega
  have hbc : w.heap.size ≠ w.heap.size + 1 := by omega
  clear hr
  go_enter Tryz.func87, Tryz.ntmps87
  go_upto_region 2 with fail
  rw [← hW]
  clear hW
  go_wp2_with (first
    | (go_at_call 80; have M := markM_f k r (W) RA.out; with_reducible refine M.mono ?_; clear M; rintro e w0 ⟨rfl, q0, t0⟩; rw [← H0.out] at q0; have Q0 := Hid.mk q0; clear q0; have RB0 := Hid.mk (p_tch RB.out t0 (Ne.symm hkb)); have RC0 := Hid.mk (p_tch RC.out t0 (Ne.symm hkc)); have T0 := TA.trans t0)
    | (go_at_call 81; have M := key_f k a0 (w0) Q0.out; with_reducible refine M.mono ?_; clear M; rintro e w1 ⟨rfl, q1, t1⟩; rw [← H1.out] at q1 ⊢; have Q1 := Hid.mk q1; clear q1; have RB1 := Hid.mk (p_tch RB0.out t1 (Ne.symm hkb)); have RC1 := Hid.mk (p_tch RC0.out t1 (Ne.symm hkc)); have T1 := T0.trans t1; have f1 := p_c0 RB1.out; have z1 := p_z RB1.out 0 (by omega))
    | (go_at_call 83; have M := ru300 k a1.2 (w1.setCell ⟨w.heap.size + 1, 0, none⟩ (.string a1.1)) (by rw [rowOf_setCell_other hkb]; exact Q1.out); with_reducible refine M.mono ?_; clear M; rintro e w2 ⟨rfl, q2, t2⟩; rw [← H2.out] at q2 ⊢; have Q2 := Hid.mk q2; clear q2; have RB2 := Hid.mk (p_tch (p_set0 RB1.out a1.1) t2 (Ne.symm hkb)); have RC2 := Hid.mk (p_tch ((rowOf_setCell_other hbc).trans RC1.out) t2 (Ne.symm hkc)); have T2 := (tch_set (i := 0) T1 y0 (.string a1.1)).trans t2; have f2 := p_c1 RB2.out; have z2 := p_z RB2.out 1 (by omega))
    | (go_at_call 83; have M := ru299 k a2.2 (w2.setCell ⟨w.heap.size + 1, 1, none⟩ (.int .i64 (a2.1 : Int))) (by rw [rowOf_setCell_other hkb]; exact Q2.out); with_reducible refine M.mono ?_; clear M; rintro e w3 ⟨rfl, q3, t3⟩; rw [← H3.out] at q3 ⊢; have Q3 := Hid.mk q3; clear q3; have RB3 := Hid.mk (p_tch (p_set1 RB2.out (a2.1 : Int)) t3 (Ne.symm hkb)); have RC3 := Hid.mk (p_tch ((rowOf_setCell_other hbc).trans RC2.out) t3 (Ne.symm hkc)); have T3 := (tch_set (i := 1) T2 y0 (.int .i64 (a2.1 : Int))).trans t3; have f3 := p_c2 RB3.out; have z3 := p_z RB3.out 2 (by omega))
    | (go_at_call 83; have M := ru200 k a3.2 (w3.setCell ⟨w.heap.size + 1, 2, none⟩ (.int .i64 (a3.1 : Int))) (by rw [rowOf_setCell_other hkb]; exact Q3.out); with_reducible refine M.mono ?_; clear M; rintro e w4 ⟨rfl, q4, t4⟩; rw [← H4.out] at q4 ⊢; have Q4 := Hid.mk q4; clear q4; have RB4 := Hid.mk (p_tch (p_set2 RB3.out (a3.1 : Int)) t4 (Ne.symm hkb)); have RC4 := Hid.mk (p_tch ((rowOf_setCell_other hbc).trans RC3.out) t4 (Ne.symm hkc)); have T4 := (tch_set (i := 2) T3 y0 (.int .i64 (a3.1 : Int))).trans t4)
    | (go_at_call 119; have M := take_f k a4.1 a4.2 l4 (w4) Q4.out; with_reducible refine M.mono ?_; clear M; rintro e w5 ⟨rfl, q5, t5⟩; rw [← H5.out] at q5 ⊢; have Q5 := Hid.mk q5; clear q5; have RB5 := Hid.mk (p_tch RB4.out t5 (Ne.symm hkb)); have RC5 := Hid.mk (p_tch RC4.out t5 (Ne.symm hkc)); have T5 := T4.trans t5; have f5 := p_c3 RB5.out; have z5 := p_z RB5.out 3 (by omega))
    | (go_at_call 81; have M := key_f k a5.2 (w5.setCell ⟨w.heap.size + 1, 3, none⟩ (.string a5.1)) (by rw [rowOf_setCell_other hkb]; exact Q5.out); with_reducible refine M.mono ?_; clear M; rintro e w6 ⟨rfl, q6, t6⟩; rw [← H6.out] at q6 ⊢; have Q6 := Hid.mk q6; clear q6; have RB6 := Hid.mk (p_tch (p_set3 RB5.out a5.1) t6 (Ne.symm hkb)); have RC6 := Hid.mk (p_tch ((rowOf_setCell_other hbc).trans RC5.out) t6 (Ne.symm hkc)); have T6 := (tch_set (i := 3) T5 y0 (.string a5.1)).trans t6; have f6 := p_c4 RB6.out; have z6 := p_z RB6.out 4 (by omega); have RB7 := p_set4 RB6.out a6.1; have RC7 : (w6.setCell ⟨w.heap.size + 1, 4, none⟩ (.string a6.1)).rowOf w.heap.size = pC ⟨#[]⟩ 0 0 ⟨#[]⟩ ⟨#[]⟩ := (rowOf_setCell_other hbc).trans RC6.out; have T7 := tch_set (i := 4) T6 y0 (.string a6.1))
    | (refine wpl_load rtPt rfl _ rfl (w.heap.size + 1) rfl (pC a1.1 (a2.1 : Int) (a3.1 : Int) a5.1 a6.1) RB7 pC_size ?_)
    | (refine wpl_store rtPt rfl _ _ rfl w.heap.size rfl (pC a1.1 (a2.1 : Int) (a3.1 : Int) a5.1 a6.1) rfl ?_ pC_size pC_one _ rfl ?_; (focus (exact (congrArg Array.size RC7).trans pC_size)))
    | fail)
  refine bodyPost_ret (results_row rtPt Tryz.results87 _ _ w.heap.size rfl ?_) rfl ?_
  · rw [rowOf_setRow_same (by rw [RC7, pC_size]; omega)]; rfl
  · rw [rowOf_setRow_same (by rw [RC7, pC_size]; omega)]
    refine ⟨by rw [HF.out]; rfl, ?_, ?_⟩
    · rw [rowOf_setRow_other hkc, rowOf_setCell_other hkb, HF.out]; exact Q6.out
    · exact ⟨T7.os, T7.tape, T7.output, by rw [size_setRow]; exact T7.size, fun i hi hg => (setRow_other _ _ _ _ (by omega)).trans (T7.block i hi hg)⟩
set_option maxRecDepth 4000 in
set_option maxHeartbeats 4000000 in
theorem messageOf_f (m : ByteArray) (w : World) :
    Calls Tryz.prog 53 #[.string m] w fun e w' => ((IsMsg m ∧ e = .returned (.tuple #[.agg (pC (ptF m).point ((ptF m).ahead : Int) ((ptF m).n : Int) (ptF m).turned (ptF m).tag), .bool true])) ∨ (¬ IsMsg m ∧ ∃ c, e = .returned (.tuple #[.agg c, .bool false]) ∧ c.size = 5 ∧ c.all (·.oneCell') = true)) ∧ Below w.heap.size w w' := by
  obtain ⟨x, hx⟩ : ∃ x, x = mesF ⟨m, false⟩ := ⟨_, rfl⟩
  have HX := Hid.mk hx
  have HI : Hid (IsMsg m ↔ x.2.bad = false ∧ x.2.rest = ⟨#[]⟩) := Hid.mk ⟨fun h => by rw [hx, mes_bwd h]; exact ⟨rfl, rfl⟩, fun h => by rw [hx] at h; exact mes_fwd m h.1 h.2⟩
  have HP : Hid (IsMsg m → mC x.1 = pC (ptF m).point ((ptF m).ahead : Int) ((ptF m).n : Int) (ptF m).turned (ptF m).tag) := Hid.mk (fun h => by rw [hx, mes_bwd h]; rfl)
  clear hx
  obtain ⟨W, hW⟩ : ∃ W, W = (w.alloc (.cells #[.string ⟨#[]⟩, .int .i64 0, .int .i64 0, .string ⟨#[]⟩, .string ⟨#[]⟩] 92)).alloc (.cells #[.string m, .bool false] 78) := ⟨_, rfl⟩
  have RA : Hid (W.rowOf (w.heap.size + 1) = rdC ⟨m, false⟩) := Hid.mk (by rw [hW]; simp [go_sem]; rfl)
  have RC : Hid (W.rowOf w.heap.size = pC ⟨#[]⟩ 0 0 ⟨#[]⟩ ⟨#[]⟩) := Hid.mk (by rw [hW]; simp [go_sem]; rfl)
  have B0 : Below w.heap.size w W := by rw [hW]; exact by_alloc2 w _ _
  have hbc : w.heap.size ≠ w.heap.size + 1 := by omega
  have hmo : (mC x.1).all (·.oneCell') = true := pC_one
  have hms : (mC x.1).size = 5 := rfl
  have HMS := Hid.mk (And.intro hmo hms)
  clear hmo hms
  cases hb0 : x.2.bad with
  | true =>
    have hb := Hid.mk hb0
    clear hb0
    go_enter Tryz.func53, Tryz.ntmps53
    go_upto_region 2 with fail
    rw [← hW]
    clear hW
    go_wp2_with (first
      | (go_at_call 87; have M := message_f (w.heap.size + 1) ⟨m, false⟩ W RA.out; with_reducible refine M.mono ?_; clear M; rintro e w1 ⟨rfl, q1, t1⟩; rw [← HX.out] at q1 ⊢; have B1 := below_tch' B0 t1 (Nat.le_succ _); have RC1 := p_tch RC.out t1 hbc; obtain ⟨r1, w2, hw2, R2, B2, z2⟩ := new_stored B1 pc0 (mC x.1) 92 pc0_pos; have hl1 : w.heap.size + 1 < w1.heap.size := rd_lt q1; have RC2 := ns_other hw2 RC1 (by rw [pC_size]; omega); have q2 := ns_other hw2 q1 (by rw [rdC_size]; omega); have f0 := rd_c0 q2; have f1 := rd_c1 q2; rw [hb.out] at f1)
      | (refine wpl_store rtPt rfl _ _ rfl w1.heap.size rfl (mC x.1) rfl ?_ HMS.out.2 HMS.out.1 w2 hw2.symm ?_; (focus (exact congrArg Array.size r1)); clear hw2 r1)
      | (refine wpl_store rtPt rfl _ _ rfl w.heap.size rfl (pC ⟨#[]⟩ 0 0 ⟨#[]⟩ ⟨#[]⟩) rfl ?_ pC_size pC_one _ rfl ?_; (focus (exact (congrArg Array.size RC2).trans pC_size)))
      | fail)
    refine bodyPost_ret (results_row_tmp rtPt Tryz.results53 _ _ w.heap.size rfl ?_) rfl ?_
    · rw [rowOf_setRow_same (by rw [RC2, pC_size]; omega)]; rfl
    · rw [rowOf_setRow_same (by rw [RC2, pC_size]; omega)]; exact ⟨Or.inr ⟨fun h => Bool.noConfusion (hb.out.symm.trans (HI.out.1 h).1), _, rfl, pC_size, pC_one⟩, below_setRow B2 (Nat.le_refl _) _⟩
  | false =>
    have hb := Hid.mk hb0
    clear hb0
    by_cases h1 : x.2.rest.toList = []
    · have e1 : x.2.rest.toList.isEmpty = true := by rw [h1]; rfl
      have H1 := Hid.mk (toList_nil.1 h1)
      go_enter Tryz.func53, Tryz.ntmps53
      go_upto_region 2 with fail
      rw [← hW]
      clear hW
      go_wp2_with (first
        | (go_at_call 87; have M := message_f (w.heap.size + 1) ⟨m, false⟩ W RA.out; with_reducible refine M.mono ?_; clear M; rintro e w1 ⟨rfl, q1, t1⟩; rw [← HX.out] at q1 ⊢; have B1 := below_tch' B0 t1 (Nat.le_succ _); have RC1 := p_tch RC.out t1 hbc; obtain ⟨r1, w2, hw2, R2, B2, z2⟩ := new_stored B1 pc0 (mC x.1) 92 pc0_pos; have hl1 : w.heap.size + 1 < w1.heap.size := rd_lt q1; have RC2 := ns_other hw2 RC1 (by rw [pC_size]; omega); have q2 := ns_other hw2 q1 (by rw [rdC_size]; omega); have f0 := rd_c0 q2; have f1 := rd_c1 q2; rw [hb.out] at f1)
        | (refine wpl_store rtPt rfl _ _ rfl w1.heap.size rfl (mC x.1) rfl ?_ HMS.out.2 HMS.out.1 w2 hw2.symm ?_; (focus (exact congrArg Array.size r1)); clear hw2 r1)
        | (refine wpl_load rtPt rfl _ rfl w1.heap.size rfl (mC x.1) R2 HMS.out.2 ?_)
        | (refine wpl_store rtPt rfl _ _ rfl w.heap.size rfl (mC x.1) rfl ?_ HMS.out.2 HMS.out.1 _ rfl ?_; (focus (exact (congrArg Array.size RC2).trans pC_size)))
        | fail)
      have hI := HI.out.2 ⟨hb.out, H1.out⟩
      refine bodyPost_ret (results_row_tmp rtPt Tryz.results53 _ _ w.heap.size rfl ?_) rfl ?_
      · rw [rowOf_setRow_same (by rw [RC2, pC_size]; omega)]; rfl
      · rw [rowOf_setRow_same (by rw [RC2, pC_size]; omega), HP.out hI]; exact ⟨Or.inl ⟨hI, rfl⟩, below_setRow B2 (Nat.le_refl _) _⟩
    · have e1 : x.2.rest.toList.isEmpty = false := by cases h : x.2.rest.toList <;> simp_all
      go_enter Tryz.func53, Tryz.ntmps53
      go_upto_region 2 with fail
      rw [← hW]
      clear hW
      go_wp2_with (first
        | (go_at_call 87; have M := message_f (w.heap.size + 1) ⟨m, false⟩ W RA.out; with_reducible refine M.mono ?_; clear M; rintro e w1 ⟨rfl, q1, t1⟩; rw [← HX.out] at q1 ⊢; have B1 := below_tch' B0 t1 (Nat.le_succ _); have RC1 := p_tch RC.out t1 hbc; obtain ⟨r1, w2, hw2, R2, B2, z2⟩ := new_stored B1 pc0 (mC x.1) 92 pc0_pos; have hl1 : w.heap.size + 1 < w1.heap.size := rd_lt q1; have RC2 := ns_other hw2 RC1 (by rw [pC_size]; omega); have q2 := ns_other hw2 q1 (by rw [rdC_size]; omega); have f0 := rd_c0 q2; have f1 := rd_c1 q2; rw [hb.out] at f1)
        | (refine wpl_store rtPt rfl _ _ rfl w1.heap.size rfl (mC x.1) rfl ?_ HMS.out.2 HMS.out.1 w2 hw2.symm ?_; (focus (exact congrArg Array.size r1)); clear hw2 r1)
        | (refine wpl_store rtPt rfl _ _ rfl w.heap.size rfl (pC ⟨#[]⟩ 0 0 ⟨#[]⟩ ⟨#[]⟩) rfl ?_ pC_size pC_one _ rfl ?_; (focus (exact (congrArg Array.size RC2).trans pC_size)))
        | fail)
      refine bodyPost_ret (results_row_tmp rtPt Tryz.results53 _ _ w.heap.size rfl ?_) rfl ?_
      · rw [rowOf_setRow_same (by rw [RC2, pC_size]; omega)]; rfl
      · rw [rowOf_setRow_same (by rw [RC2, pC_size]; omega)]; exact ⟨Or.inr ⟨fun h => h1 (toList_nil.2 (HI.out.1 h).2), _, rfl, pC_size, pC_one⟩, below_setRow B2 (Nat.le_refl _) _⟩
end Go.Proofs.YteghoooelgcpkaaGreatDoor
namespace Go.Msg
open Go.RowKit Go.Proofs.YteghoooelgcpkaaGreatDoor
structure Sh where
  at_ : Nat
  ok : Bool
end Go.Msg
namespace Go.Proofs.YteghoooelgcpkaaGreatDoor
open Go.RowKit Go.Msg
end Go.Proofs.YteghoooelgcpkaaGreatDoor
