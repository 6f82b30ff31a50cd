import Derived.Test.YteghoooelgcpkaaGreatDoorM17
namespace Go.Msg
open Go.RowKit Go.Proofs.YteghoooelgcpkaaGreatDoor
structure Sh where
  at_ : Nat
  ok : Bool
def cutF (s : ByteArray) (n : Nat) (r : Sh) : ByteArray × Sh := if r.ok = false ∨ s.size < r.at_ + n then (zeros n, ⟨r.at_, false⟩) else (s.extract r.at_ (r.at_ + n), ⟨r.at_ + n, true⟩)
def upF (s : ByteArray) (k most : Nat) (r : Sh) : Nat × Sh := if most < valF (cutF s k r).1 then (0, ⟨(cutF s k r).2.at_, false⟩) else (valF (cutF s k r).1, (cutF s k r).2)
def mayF (s : ByteArray) (r : Sh) : ByteArray × Sh := if (upF s 1 1 r).1 = 1 then cutF s 32 (upF s 1 1 r).2 else (⟨#[]⟩, (upF s 1 1 r).2)
def kysF (s : ByteArray) : Nat → Sh → List Kp × Sh
  | 0, r => ([], r)
  | k + 1, r => ((kysF s k r).1 ++ [⟨(cutF s 32 (kysF s k r).2).1, (upF s 2 299 (cutF s 32 (kysF s k r).2).2).1, (cutF s 32 (upF s 2 299 (cutF s 32 (kysF s k r).2).2).2).1⟩], (cutF s 32 (upF s 2 299 (cutF s 32 (kysF s k r).2).2).2).2)
def txsF (s : ByteArray) : Nat → Sh → List ByteArray × Sh
  | 0, r => ([], r)
  | k + 1, r => ((txsF s k r).1 ++ [(cutF s 32 (txsF s k r).2).1], (cutF s 32 (txsF s k r).2).2)
theorem zeros_size (n : Nat) : (zeros n).size = n := by unfold zeros; exact bstr_size _ _
theorem cutF_size (s : ByteArray) (n : Nat) (r : Sh) : (cutF s n r).1.size = n := by
  unfold cutF; split
  · exact zeros_size n
  · show (s.extract r.at_ (r.at_ + n)).size = n
    rw [ext_size (by omega)]; omega
def Sh.Far (s : ByteArray) (b : Nat) (r : Sh) : Prop := r.at_ ≤ b ∧ (r.at_ ≤ s.size)
theorem cutF_far {s : ByteArray} {b : Nat} {r : Sh} (h : r.Far s b) (n : Nat) : (cutF s n r).2.Far s (b + n) := by
  obtain ⟨h1, h2⟩ := h
  unfold cutF; split
  · exact ⟨by show r.at_ ≤ b + n; omega, h2⟩
  · exact ⟨by show r.at_ + n ≤ b + n; omega, by show r.at_ + n ≤ s.size; omega⟩
theorem upF_far {s : ByteArray} {b : Nat} {r : Sh} (h : r.Far s b) (k m : Nat) : (upF s k m r).2.Far s (b + k) := by
  have := cutF_far h k
  unfold upF; split
  · exact this
  · exact this
theorem upF_le (s : ByteArray) (k m : Nat) (r : Sh) : (upF s k m r).1 ≤ m := by
  unfold upF; split
  · exact Nat.zero_le _
  · show valF _ ≤ m; omega
theorem mayF_far {s : ByteArray} {b : Nat} {r : Sh} (h : r.Far s b) : (mayF s r).2.Far s (b + 33) := by
  have h1 := upF_far h 1 1
  unfold mayF; split
  · exact cutF_far h1 32
  · exact ⟨by have := h1.1; show (upF s 1 1 r).2.at_ ≤ b + 33; omega, h1.2⟩
theorem mayF_opt (s : ByteArray) (r : Sh) : Opt (mayF s r).1 := by
  unfold mayF; split
  · exact Or.inr (cutF_size _ _ _)
  · exact Or.inl rfl
theorem kysF_far {s : ByteArray} {b : Nat} {r : Sh} (h : r.Far s b) (k : Nat) : (kysF s k r).2.Far s (b + 66 * k) := by
  induction k with
  | zero => exact h
  | succ k ih =>
    have := cutF_far (upF_far (cutF_far ih 32) 2 299) 32
    rw [kysF]
    exact ⟨Nat.le_trans this.1 (by omega), this.2⟩
theorem txsF_far {s : ByteArray} {b : Nat} {r : Sh} (h : r.Far s b) (k : Nat) : (txsF s k r).2.Far s (b + 32 * k) := by
  induction k with
  | zero => exact h
  | succ k ih =>
    have := cutF_far ih 32
    rw [txsF]
    exact ⟨Nat.le_trans this.1 (by omega), this.2⟩
theorem kysF_len (s : ByteArray) (k : Nat) (r : Sh) : (kysF s k r).1.length = k := by
  induction k with
  | zero => rfl
  | succ k ih => rw [kysF, List.length_append, ih]; rfl
theorem txsF_len (s : ByteArray) (k : Nat) (r : Sh) : (txsF s k r).1.length = k := by
  induction k with
  | zero => rfl
  | succ k ih => rw [txsF, List.length_append, ih]; rfl
theorem kysF_wf (s : ByteArray) (n : Nat) (r : Sh) : ∀ k ∈ (kysF s n r).1, k.Wf := by
  induction n with
  | zero => intro k hk; cases hk
  | succ n ih =>
    intro k hk
    rw [kysF] at hk
    rcases List.mem_append.1 hk with h | h
    · exact ih k h
    · have := List.mem_singleton.1 h
      subst this
      exact ⟨cutF_size _ _ _, Nat.lt_succ_of_le (upF_le _ _ _ _), cutF_size _ _ _⟩
theorem txsF_wf (s : ByteArray) (n : Nat) (r : Sh) : ∀ t ∈ (txsF s n r).1, t.size = 32 := by
  induction n with
  | zero => intro k hk; cases hk
  | succ n ih =>
    intro k hk
    rw [txsF] at hk
    rcases List.mem_append.1 hk with h | h
    · exact ih k h
    · have := List.mem_singleton.1 h
      subst this
      exact cutF_size _ _ _
def Rel (s : ByteArray) (r : Sh) (q : Rd) : Prop := q.bad = false → r.ok = true ∧ r.at_ ≤ s.size ∧ q.rest = s.extract r.at_ s.size
theorem takeF_bad {n : Nat} {q : Rd} (h : (takeF n q).2.bad = false) : q.bad = false ∧ n ≤ q.rest.size ∧ takeF n q = (q.rest.extract 0 n, ⟨q.rest.extract n q.rest.size, false⟩) := by
  unfold takeF at h ⊢
  split at h
  · cases h
  · rename_i hn
    rw [if_neg hn]
    refine ⟨?_, ?_, rfl⟩
    · cases hb : q.bad
      · rfl
      · exact absurd (Or.inl hb) hn
    · by_cases h : q.rest.size < n
      · exact absurd (Or.inr h) hn
      · omega
theorem cut_rel {s : ByteArray} {r : Sh} {q : Rd} (h : Rel s r q) (n : Nat) : Rel s (cutF s n r).2 (takeF n q).2 ∧ ((takeF n q).2.bad = false → (cutF s n r).1 = (takeF n q).1) := by
  have key : (takeF n q).2.bad = false → cutF s n r = ((takeF n q).1, ⟨r.at_ + n, true⟩) ∧ r.at_ + n ≤ s.size ∧ (takeF n q).2.rest = s.extract (r.at_ + n) s.size := by
    intro hb
    obtain ⟨h1, h2, h3⟩ := takeF_bad hb
    obtain ⟨o, a, e⟩ := h h1
    rw [h3]
    rw [e, ext_size (Nat.le_refl _)] at h2
    unfold cutF
    rw [if_neg (by rw [o]; simp; omega), e]
    refine ⟨?_, by omega, ?_⟩
    · rw [ext_ext s r.at_ s.size 0 n (by omega) (Nat.le_refl _), Nat.add_zero]
    · show (s.extract r.at_ s.size).extract n (s.extract r.at_ s.size).size = _
      rw [ext_size (Nat.le_refl _), ext_ext s r.at_ s.size n (s.size - r.at_) (by omega) (Nat.le_refl _)]
      congr 1; omega
  refine ⟨fun hb => ?_, fun hb => ?_⟩
  · obtain ⟨k1, k2, k3⟩ := key hb
    rw [k1]; exact ⟨rfl, k2, k3⟩
  · rw [(key hb).1]
theorem numbF_bad {k m : Nat} {q : Rd} (h : (numbF k m q).2.bad = false) : (takeF k q).2.bad = false ∧ ¬ m < valF (takeF k q).1 ∧ numbF k m q = (valF (takeF k q).1, (takeF k q).2) := by
  unfold numbF at h ⊢
  split at h
  · cases h
  · rename_i hn
    rw [if_neg hn]; exact ⟨h, hn, rfl⟩
theorem up_rel {s : ByteArray} {r : Sh} {q : Rd} (h : Rel s r q) (k m : Nat) : Rel s (upF s k m r).2 (numbF k m q).2 ∧ ((numbF k m q).2.bad = false → (upF s k m r).1 = (numbF k m q).1) := by
  have C := cut_rel h k
  have key : (numbF k m q).2.bad = false → upF s k m r = ((numbF k m q).1, (cutF s k r).2) ∧ (numbF k m q).2 = (takeF k q).2 := by
    intro hb
    obtain ⟨h1, h2, h3⟩ := numbF_bad hb
    rw [h3]
    unfold upF
    rw [C.2 h1, if_neg h2]
    exact ⟨rfl, rfl⟩
  refine ⟨fun hb => ?_, fun hb => ?_⟩
  · obtain ⟨k1, k2⟩ := key hb
    rw [k1, k2]; exact C.1 (numbF_bad hb).1
  · rw [(key hb).1]
theorem may_rel {s : ByteArray} {r : Sh} {q : Rd} (h : Rel s r q) : Rel s (mayF s r).2 (maybeF q).2 ∧ ((maybeF q).2.bad = false → (mayF s r).1 = (maybeF q).1) := by
  have C := up_rel h 1 1
  have D := cut_rel C.1 32
  have key : (maybeF q).2.bad = false → (numbF 1 1 q).2.bad = false := by
    intro hb
    unfold maybeF at hb
    split at hb
    · exact hb
    · exact (takeF_bad hb).1
  have hle := numbF_le 1 1 q
  refine ⟨fun hb => ?_, fun hb => ?_⟩
  · have e := C.2 (key hb)
    unfold mayF
    unfold maybeF at hb ⊢
    rw [e]
    split at hb
    · rename_i h0
      rw [if_pos h0, if_neg (by omega)]; exact C.1 hb
    · rename_i h0
      rw [if_neg h0, if_pos (by omega)]; exact D.1 hb
  · have e := C.2 (key hb)
    unfold mayF
    unfold maybeF at hb ⊢
    rw [e]
    split at hb
    · rename_i h0
      rw [if_pos h0, if_neg (by omega)]
    · rename_i h0
      rw [if_neg h0, if_pos (by omega)]; exact D.2 hb
theorem kys_rel {s : ByteArray} (n : Nat) {r : Sh} {q : Rd} (h : Rel s r q) : Rel s (kysF s n r).2 (keysF n q).2 ∧ ((keysF n q).2.bad = false → (kysF s n r).1 = (keysF n q).1) := by
  induction n with
  | zero => exact ⟨h, fun _ => rfl⟩
  | succ n ih =>
    have A := cut_rel ih.1 32
    have B := up_rel A.1 2 299
    have C := cut_rel B.1 32
    rw [kysF, keysF]
    refine ⟨C.1, fun hb => ?_⟩
    have hb : (takeF 32 (numbF 2 299 (takeF 32 (keysF n q).2).2).2).2.bad = false := hb
    have c1 := (takeF_bad hb).1
    have c2 := (takeF_bad (numbF_bad c1).1).1
    have c3 := (takeF_bad c2).1
    show (kysF s n r).1 ++ [_] = (keysF n q).1 ++ [_]
    rw [ih.2 c3, A.2 c2, B.2 c1, C.2 hb]
theorem txs_rel {s : ByteArray} (n : Nat) {r : Sh} {q : Rd} (h : Rel s r q) : Rel s (txsF s n r).2 (txtsF n q).2 ∧ ((txtsF n q).2.bad = false → (txsF s n r).1 = (txtsF n q).1) := by
  induction n with
  | zero => exact ⟨h, fun _ => rfl⟩
  | succ n ih =>
    have A := cut_rel ih.1 32
    rw [txsF, txtsF]
    refine ⟨A.1, fun hb => ?_⟩
    have hb : (takeF 32 (txtsF n q).2).2.bad = false := hb
    have c3 := (takeF_bad hb).1
    show (txsF s n r).1 ++ [_] = (txtsF n q).1 ++ [_]
    rw [ih.2 c3, A.2 hb]
def wok1 (s : ByteArray) : ByteArray × Sh := cutF s 2 ⟨0, true⟩
def wok2 (s : ByteArray) : ByteArray × Sh := cutF s 32 (wok1 s).2
def wok3 (s : ByteArray) : ByteArray × Sh := cutF s 32 (wok2 s).2
def wok4 (s : ByteArray) : ByteArray × Sh := mayF s (wok3 s).2
def wok5 (s : ByteArray) : ByteArray × Sh := mayF s (wok4 s).2
def wok6 (s : ByteArray) : ByteArray × Sh := mayF s (wok5 s).2
def wok7 (s : ByteArray) : Nat × Sh := upF s 2 300 (wok6 s).2
def wok8 (s : ByteArray) : Nat × Sh := upF s 2 300 (wok7 s).2
def wok9 (s : ByteArray) : Nat × Sh := upF s 2 300 (wok8 s).2
def wokA (s : ByteArray) : Nat × Sh := upF s 1 32 (wok9 s).2
def wokB (s : ByteArray) : List Kp × Sh := kysF s (wokA s).1 (wokA s).2
def wokC (s : ByteArray) : Nat × Sh := upF s 1 24 (wokB s).2
def wokD (s : ByteArray) : List ByteArray × Sh := txsF s (wokC s).1 (wokC s).2
def wokE (s : ByteArray) : Nat × Sh := upF s 1 8 (wokD s).2
def wokG (s : ByteArray) : List ByteArray × Sh := txsF s (wokE s).1 (wokE s).2
def wokS (s : ByteArray) : Sd := ⟨(wok2 s).1, (wok3 s).1, (wok4 s).1, (wok5 s).1, (wok6 s).1, (wok7 s).1, (wok8 s).1, (wok9 s).1, (wokB s).1, (wokD s).1, (wokG s).1⟩
def wokOk (s : ByteArray) : Prop := (wokG s).2.ok = true ∧ keptB (wokS s) = s ∧ ((wok6 s).1 = ⟨#[]⟩ ∨ (wok4 s).1 ≠ ⟨#[]⟩)
theorem wokS_read (s : ByteArray) : (wokS s).read = (wok6 s).1 := by simp only [wokS]
theorem wokS_theirs (s : ByteArray) : (wokS s).theirs = (wok4 s).1 := by simp only [wokS]
theorem sd_wf {a b c d e : ByteArray} {i j k : Nat} {l : List Kp} {m n : List ByteArray} (z2 : a.size = 32) (z3 : b.size = 32) (o4 : Opt c) (o5 : Opt d) (o6 : Opt e) (n7 : i ≤ 300) (n8 : j ≤ 300) (n9 : k ≤ 300) (lB : l.length ≤ 32) (wB : ∀ k ∈ l, k.Wf) (lD : m.length ≤ 24) (wD : ∀ k ∈ m, k.size = 32) (lG : n.length ≤ 8) (wG : ∀ k ∈ n, k.size = 32) (h : e = ⟨#[]⟩ ∨ c ≠ ⟨#[]⟩) : Sd.Wf ⟨a, b, c, d, e, i, j, k, l, m, n⟩ := by
  refine ⟨z2, z3, o4, o5, o6, n7, n8, n9, lB, wB, lD, wD, lG, wG, ?_⟩
  intro hr
  have hr : e.size ≠ 0 := hr
  rcases h with h | h
  · rw [h] at hr; exact absurd rfl hr
  · exact fun e => h (size_zero.1 e)
theorem wo4 (s : ByteArray) : Opt (wok4 s).1 := by unfold wok4; exact mayF_opt _ _
theorem wo5 (s : ByteArray) : Opt (wok5 s).1 := by unfold wok5; exact mayF_opt _ _
theorem wo6 (s : ByteArray) : Opt (wok6 s).1 := by unfold wok6; exact mayF_opt _ _
theorem wz2 (s : ByteArray) : (wok2 s).1.size = 32 := by unfold wok2; exact cutF_size _ _ _
theorem wz3 (s : ByteArray) : (wok3 s).1.size = 32 := by unfold wok3; exact cutF_size _ _ _
theorem wn7 (s : ByteArray) : (wok7 s).1 ≤ 300 := by unfold wok7; exact upF_le _ _ _ _
theorem wn8 (s : ByteArray) : (wok8 s).1 ≤ 300 := by unfold wok8; exact upF_le _ _ _ _
theorem wn9 (s : ByteArray) : (wok9 s).1 ≤ 300 := by unfold wok9; exact upF_le _ _ _ _
theorem wnA (s : ByteArray) : (wokA s).1 ≤ 32 := by unfold wokA; exact upF_le _ _ _ _
theorem wnC (s : ByteArray) : (wokC s).1 ≤ 24 := by unfold wokC; exact upF_le _ _ _ _
theorem wnE (s : ByteArray) : (wokE s).1 ≤ 8 := by unfold wokE; exact upF_le _ _ _ _
theorem wwB (s : ByteArray) : ∀ k ∈ (wokB s).1, k.Wf := by unfold wokB; exact kysF_wf _ _ _
theorem wwD (s : ByteArray) : ∀ k ∈ (wokD s).1, k.size = 32 := by unfold wokD; exact txsF_wf _ _ _
theorem wwG (s : ByteArray) : ∀ k ∈ (wokG s).1, k.size = 32 := by unfold wokG; exact txsF_wf _ _ _
theorem wlB (s : ByteArray) : (wokB s).1.length ≤ 32 := by have := wnA s; unfold wokB; rw [kysF_len]; exact this
theorem wlD (s : ByteArray) : (wokD s).1.length ≤ 24 := by have := wnC s; unfold wokD; rw [txsF_len]; exact this
theorem wlG (s : ByteArray) : (wokG s).1.length ≤ 8 := by have := wnE s; unfold wokG; rw [txsF_len]; exact this
theorem wokS_wf {s : ByteArray} (h : (wok6 s).1 = ⟨#[]⟩ ∨ (wok4 s).1 ≠ ⟨#[]⟩) : (wokS s).Wf := by
  unfold wokS
  exact sd_wf (wz2 s) (wz3 s) (wo4 s) (wo5 s) (wo6 s) (wn7 s) (wn8 s) (wn9 s) (wlB s) (wwB s) (wlD s) (wwD s) (wlG s) (wwG s) h
set_option maxHeartbeats 1000000 in
theorem wok_fwd (s : ByteArray) : importOk s → wokS s = (sesF ⟨s, false⟩).1 ∧ (wokG s).2.ok = true := by
    rintro ⟨hb, hr, _⟩
    unfold sesF at hb hr ⊢
    simp only at hb hr ⊢
    unfold keptKF listF at *
    have R0 : Rel s (wok1 s).2 (markF sRS ⟨s, false⟩) := by
      intro h
      obtain ⟨_, e⟩ := rd_mark_fwd _ h
      have e : s = sRS ++ (markF sRS ⟨s, false⟩).rest := e
      have hs : s.size = 2 + (markF sRS ⟨s, false⟩).rest.size := by
        have := congrArg ByteArray.size e
        rw [ByteArray.size_append] at this; exact this
      have hw : (wok1 s).2 = ⟨2, true⟩ := by
        unfold wok1 cutF; rw [if_neg (by simp; omega)]
      rw [hw]
      refine ⟨rfl, by show 2 ≤ s.size; omega, ?_⟩
      have := app_drop sRS (markF sRS ⟨s, false⟩).rest
      rw [← e] at this
      exact this.symm
    have R1 := cut_rel R0 32
    have R2 := cut_rel R1.1 32
    have R3 := may_rel R2.1
    have R4 := may_rel R3.1
    have R5 := may_rel R4.1
    have R6 := up_rel R5.1 2 300
    have R7 := up_rel R6.1 2 300
    have R8 := up_rel R7.1 2 300
    have R9 := up_rel R8.1 1 32
    generalize markF sRS ⟨s, false⟩ = a0 at *
    generalize ha1 : takeF 32 a0 = a1 at *
    generalize ha2 : takeF 32 a1.2 = a2 at *
    generalize ha3 : maybeF a2.2 = a3 at *
    generalize ha4 : maybeF a3.2 = a4 at *
    generalize ha5 : maybeF a4.2 = a5 at *
    generalize ha6 : numbF 2 300 a5.2 = a6 at *
    generalize ha7 : numbF 2 300 a6.2 = a7 at *
    generalize ha8 : numbF 2 300 a7.2 = a8 at *
    generalize ha9 : numbF 1 32 a8.2 = a9 at *
    have mb : ∀ {q : Rd}, (maybeF q).2.bad = false → q.bad = false := by
      intro q hq; exact (rd_maybe.fwd q hq).1
    generalize haB : keysF a9.1 a9.2 = aB at *
    generalize haC : numbF 1 24 aB.2 = aC at *
    generalize haD : txtsF aC.1 aC.2 = aD at *
    generalize haE : numbF 1 8 aD.2 = aE at *
    have bE : aE.2.bad = false := by rw [← haE] at hb ⊢; exact ((rd_txts _).fwd _ hb).1
    have bD : aD.2.bad = false := by rw [← haE] at bE; exact (takeF_bad (numbF_bad bE).1).1
    have bC : aC.2.bad = false := by rw [← haD] at bD; exact ((rd_txts _).fwd _ bD).1
    have bB : aB.2.bad = false := by rw [← haC] at bC; exact (takeF_bad (numbF_bad bC).1).1
    have b9 : a9.2.bad = false := by rw [← haB] at bB; exact ((rd_keys _).fwd _ bB).1
    have b8 : a8.2.bad = false := by rw [← ha9] at b9; exact (takeF_bad (numbF_bad b9).1).1
    have b7 : a7.2.bad = false := by rw [← ha8] at b8; exact (takeF_bad (numbF_bad b8).1).1
    have b6 : a6.2.bad = false := by rw [← ha7] at b7; exact (takeF_bad (numbF_bad b7).1).1
    have b5 : a5.2.bad = false := by rw [← ha6] at b6; exact (takeF_bad (numbF_bad b6).1).1
    have b4 : a4.2.bad = false := by rw [← ha5] at b5; exact mb b5
    have b3 : a3.2.bad = false := by rw [← ha4] at b4; exact mb b4
    have b2 : a2.2.bad = false := by rw [← ha3] at b3; exact mb b3
    have b1 : a1.2.bad = false := by rw [← ha2] at b2; exact (takeF_bad b2).1
    have e9 : (wokA s).1 = a9.1 := R9.2 b9
    have RB := kys_rel a9.1 R9.1
    rw [haB] at RB
    have hB : wokB s = kysF s a9.1 (wokA s).2 := by unfold wokB; rw [e9]
    have RB1 : Rel s (wokB s).2 aB.2 := by rw [hB]; exact RB.1
    have RB2 : (wokB s).1 = aB.1 := by rw [hB]; exact RB.2 bB
    have RC := up_rel RB1 1 24
    rw [haC] at RC
    have eC : (wokC s).1 = aC.1 := RC.2 bC
    have RD := txs_rel aC.1 RC.1
    rw [haD] at RD
    have hD : wokD s = txsF s aC.1 (wokC s).2 := by unfold wokD; rw [eC]
    have RD1 : Rel s (wokD s).2 aD.2 := by rw [hD]; exact RD.1
    have RD2 : (wokD s).1 = aD.1 := by rw [hD]; exact RD.2 bD
    have RE := up_rel RD1 1 8
    rw [haE] at RE
    have eE : (wokE s).1 = aE.1 := RE.2 bE
    have RG := txs_rel aE.1 RE.1
    have hG : wokG s = txsF s aE.1 (wokE s).2 := by unfold wokG; rw [eE]
    have RG2 : (wokG s).1 = (txtsF aE.1 aE.2).1 := by rw [hG]; exact RG.2 hb
    have RG1 : (wokG s).2.ok = true := by rw [hG]; exact (RG.1 hb).1
    refine ⟨?_, RG1⟩
    have q1 : (wok2 s).1 = a1.1 := R1.2 b1
    have q2 : (wok3 s).1 = a2.1 := R2.2 b2
    have q3 : (wok4 s).1 = a3.1 := R3.2 b3
    have q4 : (wok5 s).1 = a4.1 := R4.2 b4
    have q5 : (wok6 s).1 = a5.1 := R5.2 b5
    have q6 : (wok7 s).1 = a6.1 := R6.2 b6
    have q7 : (wok8 s).1 = a7.1 := R7.2 b7
    have q8 : (wok9 s).1 = a8.1 := R8.2 b8
    unfold wokS
    rw [q1, q2, q3, q4, q5, q6, q7, q8, RB2, RD2, RG2]
theorem wok_import (s : ByteArray) : (wokOk s ↔ importOk s) ∧ (importOk s → wokS s = (sesF ⟨s, false⟩).1) := by
  constructor
  · constructor
    · rintro ⟨_, h2, h3⟩
      have := (import_of (wokS s) (wokS_wf h3)).1
      rw [h2] at this; exact this
    · intro h
      obtain ⟨f1, f2⟩ := wok_fwd s h
      have g := (import_ok s h).2
      refine ⟨f2, ?_, ?_⟩
      · rw [f1]; exact g.symm
      · have e1 := congrArg Sd.read f1
        have e2 := congrArg Sd.theirs f1
        rw [wokS_read] at e1
        rw [wokS_theirs] at e2
        rw [e1, e2]; exact h.2.2
  · exact fun h => (wok_fwd s h).1
end Go.Msg
namespace Go.Proofs.YteghoooelgcpkaaGreatDoor
open Go.RowKit Go.Msg
def shC (s : ByteArray) (r : Sh) : Array Value := #[.string s, .int .i64 (r.at_ : Int), .bool r.ok]
theorem shC_size (s : ByteArray) (r : Sh) : (shC s r).size = 3 := rfl
theorem rowOf_drewN' (w : World) (n g : Nat) : (w.drewN n).rowOf g = w.rowOf g := rfl
theorem rowOf_new' (w : World) (c : Array Value) (t g : Nat) (h : w.heap.size = g) : (w.alloc (.cells c t)).rowOf g = c := by subst h; simp [go_sem]
theorem sh_c2 {w : World} {g : Nat} {s : ByteArray} {r : Sh} (h : w.rowOf g = shC s r) : w.cell? ⟨g, 2, none⟩ = some (.bool r.ok) := rowcell h 2 _ rfl
theorem sh_z2 {w : World} {g : Nat} {s : ByteArray} {r : Sh} (h : w.rowOf g = shC s r) : w.frozen? ⟨g, 2, none⟩ = false := rowfz2 h 2 (by rw [shC_size]; omega)
theorem sh_no {w : World} {g : Nat} {s : ByteArray} {r : Sh} (h : w.rowOf g = shC s r) : (w.setCell ⟨g, 2, none⟩ (.bool false)).rowOf g = shC s ⟨r.at_, false⟩ := rowOf_setCell h (by rw [shC_size]; omega) 2 _
theorem sh_to {w : World} {g : Nat} {s : ByteArray} {r : Sh} (h : w.rowOf g = shC s r) (k : Nat) : (w.setCell ⟨g, 1, none⟩ (.int .i64 (k : Int))).rowOf g = shC s ⟨k, r.ok⟩ := rowOf_setCell h (by rw [shC_size]; omega) 1 _
theorem sh_below {w w' : World} {g : Nat} {s : ByteArray} {r : Sh} (h : w.rowOf g = shC s r) (hb : Below w.heap.size w w') : w'.rowOf g = shC s r := (below_row hb (by rw [h, shC_size]; omega)).trans h
set_option maxRecDepth 4000 in
set_option maxHeartbeats 4000000 in
theorem cut_f (g : Nat) (s : ByteArray) (r : Sh) (n b : Nat) (hf : r.Far s b) (hb : b ≤ 100000) (hn : n ≤ 32) (w : World) (hr : w.rowOf g = shC s r) :
    Calls Tryz.prog 49 #[.pointer (some ⟨g, 0, none⟩), .int .i64 (n : Int)] w fun e w' => e = .returned (.string (cutF s n r).1) ∧ w'.rowOf g = shC s (cutF s n r).2 ∧ Tch g w w' := by
  obtain ⟨k, ok⟩ := r
  have h3 := rowcell hr 0 (.string s) rfl
  have h4 := rowcell hr 1 (.int .i64 (k : Int)) rfl
  have h5 := rowcell hr 2 (.bool ok) rfl
  have h7 := rowfz2 hr 1 (by rw [shC_size]; omega)
  have h8 := rowfz2 hr 2 (by rw [shC_size]; omega)
  have HS := Hid.mk hr
  obtain ⟨hk, hks⟩ : k ≤ b ∧ k ≤ s.size := hf
  have c0 : (n : Int) ≤ 32 := by omega
  have c1 : (k : Int) ≤ 100000 := by omega
  clear hr
  cases ok with
  | false =>
    have HE : Hid (cutF s n ⟨k, false⟩ = (zeros n, ⟨k, false⟩)) := Hid.mk (by unfold cutF; rw [if_pos (Or.inl rfl)])
    go_enter Tryz.func49, Tryz.ntmps49
    go_wp2_with fail
    go_quiet (fail)
    go_wp2_with (first
      | (at_make; refine wpl_make u8s rfl _ _ rfl n (n : Int) (n : Int) rfl rfl rfl rfl (by omega) ?_)
      | (refine wpl_convert rfl 112 9 5 _ rfl Tryz.underlying112 Tryz.underlying5 Tryz.underlying9 _ 0 n n rfl n (fun _ => 0) ?_ (by omega) ?_; (focus (first | exact rowOf_new' _ _ _ _ rfl | (rw [rowOf_drewN']; exact rowOf_new' _ _ _ _ (by simp)))))
      | fail)
    go_ret
    exact ⟨by rw [HE.out]; rfl, by rw [HE.out]; exact sh_below (sh_no HS.out) (below_drewN (by_alloc _ _) _), ((tch_refl g w).setCell 2 _).trans (tch_of (below_drewN (by_alloc _ _) _) g)⟩
  | true =>
    by_cases hlt : k + n ≤ s.size
    · have c2 : ¬ (k : Int) + n > s.size := by omega
      have c3 : (k : Int) + n ≤ s.size := by omega
      have c4 : (k : Int) ≤ s.size := by omega
      have HE : Hid (cutF s n ⟨k, true⟩ = (s.extract k (k + n), ⟨k + n, true⟩)) := Hid.mk (by unfold cutF; rw [if_neg (by simp; omega)])
      go_enter Tryz.func49, Tryz.ntmps49
      go_wp2_with fail
      go_quiet (fail)
      go_wp2_with fail
      go_quiet (fail)
      go_wp2
      go_ret
      refine ⟨?_, ?_, ?_⟩
      · rw [HE.out]; rfl
      · rw [HE.out]; exact sh_to HS.out (k + n)
      · exact ((tch_refl g w).setCell 1 _).trans (tch_of (below_drewN (Below.refl _ _) _) g)
    · have c2 : (k : Int) + n > s.size := by omega
      have HE : Hid (cutF s n ⟨k, true⟩ = (zeros n, ⟨k, false⟩)) := Hid.mk (by unfold cutF; rw [if_pos (Or.inr (by show s.size < k + n; omega))])
      go_enter Tryz.func49, Tryz.ntmps49
      go_wp2_with fail
      go_quiet (fail)
      go_wp2_with (first
        | (at_make; refine wpl_make u8s rfl _ _ rfl n (n : Int) (n : Int) rfl rfl rfl rfl (by omega) ?_)
        | (refine wpl_convert rfl 112 9 5 _ rfl Tryz.underlying112 Tryz.underlying5 Tryz.underlying9 _ 0 n n rfl n (fun _ => 0) ?_ (by omega) ?_; (focus (first | exact rowOf_new' _ _ _ _ rfl | (rw [rowOf_drewN']; exact rowOf_new' _ _ _ _ (by simp)))))
        | fail)
      go_ret
      exact ⟨by rw [HE.out]; rfl, by rw [HE.out]; exact sh_below (sh_no HS.out) (below_drewN (by_alloc _ _) _), ((tch_refl g w).setCell 2 _).trans (tch_of (below_drewN (by_alloc _ _) _) g)⟩
theorem cut1_f (g : Nat) (s : ByteArray) (r : Sh) (b : Nat) (hf : r.Far s b) (hb : b ≤ 100000) (w : World) (hr : w.rowOf g = shC s r) :
    Calls Tryz.prog 49 #[.pointer (some ⟨g, 0, none⟩), .int .i64 1] w fun e w' => e = .returned (.string (cutF s 1 r).1) ∧ w'.rowOf g = shC s (cutF s 1 r).2 ∧ Tch g w w' := cut_f g s r 1 b hf hb (by omega) w hr
theorem cut2_f (g : Nat) (s : ByteArray) (r : Sh) (b : Nat) (hf : r.Far s b) (hb : b ≤ 100000) (w : World) (hr : w.rowOf g = shC s r) :
    Calls Tryz.prog 49 #[.pointer (some ⟨g, 0, none⟩), .int .i64 2] w fun e w' => e = .returned (.string (cutF s 2 r).1) ∧ w'.rowOf g = shC s (cutF s 2 r).2 ∧ Tch g w w' := cut_f g s r 2 b hf hb (by omega) w hr
theorem cut32_f (g : Nat) (s : ByteArray) (r : Sh) (b : Nat) (hf : r.Far s b) (hb : b ≤ 100000) (w : World) (hr : w.rowOf g = shC s r) :
    Calls Tryz.prog 49 #[.pointer (some ⟨g, 0, none⟩), .int .i64 32] w fun e w' => e = .returned (.string (cutF s 32 r).1) ∧ w'.rowOf g = shC s (cutF s 32 r).2 ∧ Tch g w w' := cut_f g s r 32 b hf hb (by omega) w hr
set_option maxHeartbeats 2000000 in
theorem count_f (g : Nat) (s : ByteArray) (r : Sh) (b m : Nat) (hf : r.Far s b) (hb : b ≤ 100000) (w : World) (hr : w.rowOf g = shC s r) :
    Calls Tryz.prog 50 #[.pointer (some ⟨g, 0, none⟩), .int .i64 (m : Int)] w fun e w' => e = .returned (.int .i64 ((upF s 1 m r).1 : Int)) ∧ w'.rowOf g = shC s (upF s 1 m r).2 ∧ Tch g w w' := by
  obtain ⟨x, hx⟩ : ∃ x, x = cutF s 1 r := ⟨_, rfl⟩
  have HX := Hid.mk hx
  have zx : x.1.size = 1 := by rw [hx]; exact cutF_size _ _ _
  have d0 : 0 < x.1.size := by omega
  have hnum : numF (sb x.1) x.1.size = sb x.1 0 := by rw [zx]; simp [numF]
  have HV : Hid ((valF x.1 : Int) = ((x.1[0]'d0).toNat : Int)) := Hid.mk (by rw [valF_cast, hnum, sb_at x.1 0 d0])
  have c0 : (0 : Int) < x.1.size := by omega
  have M := cut1_f g s r b hf hb w hr
  rw [← hx] at M
  have HM := Hid.mk M
  have hv0 : ((x.1[0]'d0).toNat : Int) ≤ 255 := by have := sb_bd x.1 0; rw [sb_at x.1 0 d0] at this; omega
  clear M hx hr zx hnum hf hb
  by_cases hlt : m < valF x.1
  · have HE : Hid (upF s 1 m r = (0, ⟨x.2.at_, false⟩)) := Hid.mk (by unfold upF; rw [← HX.out, if_pos hlt])
    have c1 : ((x.1[0]'d0).toNat : Int) > m := by have := HV.out; omega
    go_enter Tryz.func50, Tryz.ntmps50
    go_wp2_with (first | (go_at_call 49; with_reducible refine HM.out.mono ?_; rintro e w1 ⟨rfl, hr1, hB1⟩; have h5 := sh_c2 hr1; have h8 := sh_z2 hr1; have HR1 := Hid.mk hr1; clear hr1) | fail)
    go_ret
    exact ⟨by rw [HE.out]; rfl, by rw [HE.out]; exact sh_no HR1.out, hB1.setCell 2 _⟩
  · have HE : Hid (upF s 1 m r = (valF x.1, x.2)) := Hid.mk (by unfold upF; rw [← HX.out, if_neg hlt])
    have c1 : ¬ ((x.1[0]'d0).toNat : Int) > m := by have := HV.out; omega
    go_enter Tryz.func50, Tryz.ntmps50
    go_wp2_with (first | (go_at_call 49; with_reducible refine HM.out.mono ?_; rintro e w1 ⟨rfl, hr1, hB1⟩; have HR1 := Hid.mk hr1; clear hr1) | fail)
    go_ret
    exact ⟨by rw [HE.out, HV.out]; rfl, by rw [HE.out]; exact HR1.out, hB1⟩
set_option maxHeartbeats 2000000 in
theorem upTo_f (g : Nat) (s : ByteArray) (r : Sh) (b m : Nat) (hf : r.Far s b) (hb : b ≤ 100000) (w : World) (hr : w.rowOf g = shC s r) :
    Calls Tryz.prog 51 #[.pointer (some ⟨g, 0, none⟩), .int .i64 (m : Int)] w fun e w' => e = .returned (.int .i64 ((upF s 2 m r).1 : Int)) ∧ w'.rowOf g = shC s (upF s 2 m r).2 ∧ Tch g w w' := by
  obtain ⟨x, hx⟩ : ∃ x, x = cutF s 2 r := ⟨_, rfl⟩
  have HX := Hid.mk hx
  have zx : x.1.size = 2 := by rw [hx]; exact cutF_size _ _ _
  have HV : Hid ((numF (sb x.1) 2) = (valF x.1 : Int)) := Hid.mk (by rw [valF_cast, zx])
  have M := cut2_f g s r b hf hb w hr
  rw [← hx] at M
  have HM := Hid.mk M
  have HZ := Hid.mk zx
  clear M hx hr zx hf hb
  obtain ⟨v, hv⟩ : ∃ v, v = valF x.1 := ⟨_, rfl⟩
  rw [← hv] at HV
  by_cases hlt : m < v
  · have HE : Hid (upF s 2 m r = (0, ⟨x.2.at_, false⟩)) := Hid.mk (by unfold upF; rw [← HX.out, ← hv, if_pos hlt])
    have c1 : (v : Int) > m := by omega
    clear hv hlt
    go_enter Tryz.func51, Tryz.ntmps51
    go_wp2_with (first
      | (go_at_call 49; with_reducible refine HM.out.mono ?_; rintro e w1 ⟨rfl, hr1, hB1⟩; have HR1 := Hid.mk hr1; clear hr1)
      | (go_at_call 86; have M := value_any x.1 HZ.out w1; with_reducible refine M.mono ?_; clear M; rintro e w2 ⟨rfl, q, rfl⟩; rw [HV.out]; have hr2 := row_drewN (n := q) HR1.out; have h5 := sh_c2 hr2; have h8 := sh_z2 hr2; have HR2 := Hid.mk hr2; clear hr2)
      | fail)
    go_ret
    exact ⟨by rw [HE.out]; rfl, by rw [HE.out]; exact sh_no HR2.out, (hB1.trans (tch_of (below_drewN (Below.refl _ _) _) g)).setCell 2 _⟩
  · have HE : Hid (upF s 2 m r = (v, x.2)) := Hid.mk (by unfold upF; rw [← HX.out, ← hv, if_neg hlt])
    have c1 : ¬ (v : Int) > m := by omega
    clear hv hlt
    go_enter Tryz.func51, Tryz.ntmps51
    go_wp2_with (first
      | (go_at_call 49; with_reducible refine HM.out.mono ?_; rintro e w1 ⟨rfl, hr1, hB1⟩; have HR1 := Hid.mk hr1; clear hr1)
      | (go_at_call 86; have M := value_any x.1 HZ.out w1; with_reducible refine M.mono ?_; clear M; rintro e w2 ⟨rfl, q, rfl⟩; rw [HV.out])
      | fail)
    go_ret
    exact ⟨by rw [HE.out]; rfl, by rw [HE.out]; exact HR1.out, hB1.trans (tch_of (below_drewN (Below.refl _ _) _) g)⟩
end Go.Proofs.YteghoooelgcpkaaGreatDoor
