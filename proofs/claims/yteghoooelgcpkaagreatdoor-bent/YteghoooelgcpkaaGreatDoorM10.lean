import Derived.Test.YteghoooelgcpkaaGreatDoorM09
namespace Go.Msg
open Go.RowKit Go.Proofs.YteghoooelgcpkaaGreatDoor
theorem newSaved_len {x : Sd} (h : x.Wf) (p : Pt) : (newSaved x p).length ≤ 32 := by
  unfold newSaved; split
  · exact h.saved
  · exact lastL_length _ _
theorem theirs32 {x : Sd} (h : x.Wf) (h0 : x.theirs.size ≠ 0) : x.theirs.size = 32 := by
  rcases h.theirs with e | e
  · exact absurd e h0
  · exact e
theorem newSaved_wf {x : Sd} (h : x.Wf) {p : Pt} (hp : PtOk p) : ∀ k ∈ newSaved x p, k.Wf := by
  unfold newSaved
  split
  · exact h.savedW
  · next hr =>
    have := hp.ahead
    exact lastL_wf h.savedW (leftL_wf (theirs32 h (h.both hr)) (by have := h.nr; omega))
theorem turnR_wf {x : Sd} (h : x.Wf) {p : Pt} (hp : PtOk p) (s : ByteArray) (hfull : ¬ (x.theirs.size ≠ 0 ∧ 24 ≤ x.past.length)) : (turnR x p s).Wf := by
  have hpast : (newPast x).length ≤ 24 := by
    unfold newPast; split
    · exact h.past
    · have := h.past; simp; omega
  have hpw : ∀ t ∈ newPast x, t.size = 32 := by
    unfold newPast; split
    · exact h.pastW
    · next hr =>
      intro t ht
      rcases List.mem_append.1 ht with q | q
      · exact h.pastW t q
      · simp at q; subst q; exact theirs32 h hr
  unfold turnR
  exact ⟨rootA_size _ _, h.self, Or.inr hp.point, h.send, Or.inr (rootC_size _ _), h.ns, Nat.zero_le _, h.pn, newSaved_len h p, newSaved_wf h hp, hpast, hpw, h.draws, h.drawsW, fun _ => by show p.point.size ≠ 0; rw [hp.point]; omega⟩
theorem chainS_wf {x : Sd} (h : x.Wf) {p : Pt} (hp : PtOk p) (ht : x.theirs.size ≠ 0) : (chainS x p).Wf := by
  have hn := hp.n
  have hxn := h.nr
  unfold chainS
  exact ⟨h.root, h.self, h.theirs, h.send, Or.inr (behF_size _), h.ns, hn, h.pn, lastL_length _ _, lastL_wf h.savedW (leftL_wf (theirs32 h ht) (by omega)), h.past, h.pastW, h.draws, h.drawsW, fun _ => ht⟩
theorem new_side (x : Sd) (p : Pt) (d : ByteArray) (l : List ByteArray) (hd : x.draws = d :: l) : turnS (chainS (turnR x p (dhF x.self p.point)) p) d l = newSide x p d := by
  simp only [turnS, chainS, turnR, newSide, hd, List.drop_succ_cons, List.drop_zero, Nat.sub_zero]
def newS (x : Sd) (p : Pt) (data : ByteArray) : Sd × ByteArray × Int :=
  if x.read.size ≠ 0 ∧ p.ahead > x.nr + 20 then (x, ⟨#[]⟩, 7)
  else if p.n > 20 then (x, ⟨#[]⟩, 7)
  else if x.theirs.size ≠ 0 ∧ 24 ≤ x.past.length then (x, ⟨#[]⟩, 4)
  else match x.draws with
    | [] => (x, ⟨#[]⟩, 8)
    | d :: _ => if dhF x.self p.point = zeros 32 then (x, ⟨#[]⟩, 9) else hearN x p data d
end Go.Msg
namespace Go.Proofs.YteghoooelgcpkaaGreatDoor
open Go.RowKit Go.Msg
def Outs (g : Nat) (w : World) (vK vP vD : Value) (r : Sd × ByteArray × Int) (e : Ending) (w' : World) : Prop :=
  e = .returned (.tuple #[.string r.2.1, .int .i64 r.2.2]) ∧ Tch g w w' ∧ (r.2.2 = 0 → ∃ vK' vP' vD', SesAt w' g r.1 vK' vP' vD' ∧ ∀ k, k < w.heap.size → Offs k vK vP vD → Offs k vK' vP' vD')
theorem outs_err {g : Nat} {w w' : World} {vK vP vD : Value} {r : Sd × ByteArray × Int} {x : Sd} {er : Int} (h : r = (x, ⟨#[]⟩, er)) (h0 : er ≠ 0) (t : Tch g w w') {e : Ending} (he : e = .returned (.tuple #[.string ⟨#[]⟩, .int .i64 er])) : Outs g w vK vP vD r e w' := by
  subst h; exact ⟨he, t, fun h => absurd h h0⟩
set_option maxRecDepth 8000 in
set_option maxHeartbeats 16000000 in
theorem readNew_f (x : Sd) (hx : x.Wf) (g : Nat) (vK vP vD : Value) (p : Pt) (hp : PtOk p) (data : ByteArray) (hd : (data ++ p.head).size ≤ 200) (w : World) (hs : SesAt w g x vK vP vD) (ho : Offs g vK vP vD) (hT : Tbl w) (hg2 : 2 ≤ g) :
    Calls Tryz.prog 92 #[.pointer (some ⟨g, 0, none⟩), .agg (ptC p), .string (data ++ p.head)] w fun e w' => Outs g w vK vP vD (newS x p data) e w' := by
  obtain ⟨V, hV, R0, B0, z0⟩ := box_pt w p
  have hgl := hs.lt
  have hgb : w.heap.size ≠ g := by omega
  have S0 := hs.below B0
  obtain ⟨aP, mP, cP, gP, hvP, _⟩ := hs.vp
  obtain ⟨aD, mD, cD, gD, hvD, _⟩ := hs.vd
  have HVPD := Hid.mk (And.intro hvP hvD)
  have hpn := hp.n
  have hpa := hp.ahead
  have hxn := hx.nr
  have cn : (p.n : Int) < 300 := by omega
  have ca : (p.ahead : Int) ≤ 300 := by omega
  have cr : (x.nr : Int) ≤ 300 := by omega
  have HR0 := Hid.mk R0
  have HS0 := Hid.mk S0
  have HO := Hid.mk ho
  have HT := Hid.mk hT
  have HX := Hid.mk hx
  have HP := Hid.mk hp
  obtain ⟨c1, hc1⟩ : ∃ c : Bool, c = decide (x.read.size ≠ 0 ∧ p.ahead > x.nr + 20) := ⟨_, rfl⟩
  obtain ⟨c3, hc3⟩ : ∃ c : Bool, c = decide (x.theirs.size ≠ 0 ∧ 24 ≤ x.past.length) := ⟨_, rfl⟩
  have HC1 := Hid.mk hc1
  have HC3 := Hid.mk hc3
  have f1 := pt_c1 R0
  have g4 := ses_c4 S0
  have g6 : V.cell? ⟨g, 6, none⟩ = some (.int .i64 (x.nr : Int)) := rowcell S0.row 6 _ rfl
  obtain ⟨DD, hDD⟩ : ∃ D, D = data ++ p.head := ⟨_, rfl⟩
  have HDD := Hid.mk hDD
  rw [← hDD] at hd ⊢
  obtain ⟨RES, hRES⟩ : ∃ r, r = newS x p data := ⟨_, rfl⟩
  have HRES := Hid.mk hRES
  rw [← hRES]
  clear R0 S0 hs ho hT hx hp hc1 hc3 hvP hvD hDD hRES
  rw [box_ptC]
  go_enter Tryz.func92, Tryz.ntmps92
  go_upto_region 1 with fail
  rw [← hV]
  clear hV
  go_cut [25] from 11 to 24 (fun b wx => b = .bool c1 ∧ Below w.heap.size w wx ∧ SesAt wx g x vK vP vD ∧ wx.rowOf w.heap.size = ptC p)
  case first =>
    by_cases h1 : x.read.toList = []
    · have b1 : x.read.toList.isEmpty = true := by rw [h1]; rfl
      have hz : x.read.size = 0 := size_zero.2 (toList_nil.1 h1)
      have HF : Hid (c1 = false) := Hid.mk (by rw [HC1.out]; simp [hz])
      clear hz
      go_quiet (fail)
      go_wp2_with fail
      go_meet
      case rel => exact ⟨by rw [HF.out], below_drewN B0 _, HS0.out.below (below_drewN (Below.refl _ _) _), HR0.out⟩
    · have b1 : x.read.toList.isEmpty = false := by cases h : x.read.toList <;> simp_all
      have hz : ¬ x.read.size = 0 := fun e => h1 (toList_nil.2 (size_zero.1 e))
      by_cases h2 : p.ahead > x.nr + 20
      · have b2 : (p.ahead : Int) > (x.nr : Int) + 20 := by omega
        have HF : Hid (c1 = true) := Hid.mk (by rw [HC1.out]; simp [hz]; omega)
        clear hz
        go_quiet (fail)
        go_wp2_with fail
        go_meet
        case rel => exact ⟨by rw [HF.out], below_drewN B0 _, HS0.out.below (below_drewN (Below.refl _ _) _), HR0.out⟩
      · have b2 : ¬ (p.ahead : Int) > (x.nr : Int) + 20 := by omega
        have HF : Hid (c1 = false) := Hid.mk (by rw [HC1.out]; simp [hz]; omega)
        clear hz
        go_quiet (fail)
        go_wp2_with fail
        go_meet
        case rel => exact ⟨by rw [HF.out], below_drewN B0 _, HS0.out.below (below_drewN (Below.refl _ _) _), HR0.out⟩
  case rest =>
    obtain ⟨rfl, B1, S1, R1⟩ := hcut
    clear f1 g4 g6 HR0 HS0 B0 z0
    cases c1 with
    | true =>
      have hE := HC1.out
      have HE : Hid (RES = (x, ⟨#[]⟩, 7)) := Hid.mk (by rw [HRES.out]; unfold newS; rw [if_pos (by simpa using hE.symm)])
      clear hE S1 R1
      go_wp2
      go_ret2
      exact outs_err HE.out (by decide) (tch_of B1 g) rfl
    | false =>
      have HN1 : Hid (¬ (x.read.size ≠ 0 ∧ p.ahead > x.nr + 20)) := Hid.mk (by have := HC1.out; simpa using this)
      have f2 := pt_c2 R1
      by_cases h2 : p.n > 20
      · have b2 : (p.n : Int) > 20 := by omega
        have HE : Hid (RES = (x, ⟨#[]⟩, 7)) := Hid.mk (by rw [HRES.out]; unfold newS; rw [if_neg HN1.out, if_pos h2])
        clear S1 R1
        go_wp2
        go_ret2
        exact outs_err HE.out (by decide) (tch_of B1 g) rfl
      · have b2 : ¬ (p.n : Int) > 20 := by omega
        have HN2 := Hid.mk h2
        have g2 := ses_c2 S1
        have g9 : wc.cell? ⟨g, 9, none⟩ = some vP := rowcell S1.row 9 _ rfl
        have HS1 := Hid.mk S1
        have HR1 := Hid.mk R1
        clear S1 R1
        obtain ⟨W1, hW1⟩ : ∃ W, W = wc := ⟨_, rfl⟩
        subst hW1
        go_upto_region 5 with fail
        go_cut [41] from 29 to 40 (fun b wx => b = .bool c3 ∧ wx = W1)
        case first =>
          rw [HVPD.out.1] at g9
          obtain ⟨nP, hnP⟩ : ∃ n, n = x.past.length := ⟨_, rfl⟩
          rw [← hnP] at g9
          by_cases h1 : x.theirs.toList = []
          · have b1 : x.theirs.toList.isEmpty = true := by rw [h1]; rfl
            have hz : x.theirs.size = 0 := size_zero.2 (toList_nil.1 h1)
            have HF : Hid (c3 = false) := Hid.mk (by rw [HC3.out]; simp [hz])
            clear hz hnP
            go_wp2
            go_meet
            case rel => exact ⟨by rw [HF.out], rfl⟩
          · have b1 : x.theirs.toList.isEmpty = false := by cases h : x.theirs.toList <;> simp_all
            have hz : ¬ x.theirs.size = 0 := fun e => h1 (toList_nil.2 (size_zero.1 e))
            by_cases h24 : 24 ≤ nP
            · have b4 : (nP : Int) ≥ 24 := by omega
              have HF : Hid (c3 = true) := Hid.mk (by rw [HC3.out, ← hnP]; simp [hz, h24])
              clear hz hnP
              go_wp2
              go_meet
              case rel => exact ⟨by rw [HF.out], rfl⟩
            · have b4 : ¬ (nP : Int) ≥ 24 := by omega
              have HF : Hid (c3 = false) := Hid.mk (by rw [HC3.out, ← hnP]; simp [h24])
              clear hz hnP
              go_wp2
              go_meet
              case rel => exact ⟨by rw [HF.out], rfl⟩
        case rest =>
          obtain ⟨rfl, rfl⟩ := hcut
          clear g2 g9 f2
          cases c3 with
          | true =>
            have hE := HC3.out
            have HE : Hid (RES = (x, ⟨#[]⟩, 4)) := Hid.mk (by rw [HRES.out]; unfold newS; rw [if_neg HN1.out, if_neg HN2.out, if_pos (by simpa using hE.symm)])
            clear hE
            go_wp2
            go_ret2
            exact outs_err HE.out (by decide) (tch_of B1 g) rfl
          | false =>
            have HN3 : Hid (¬ (x.theirs.size ≠ 0 ∧ 24 ≤ x.past.length)) := Hid.mk (by have := HC3.out; simpa using this)
            have g10 : wc.cell? ⟨g, 10, none⟩ = some vD := rowcell HS1.out.row 10 _ rfl
            rw [HVPD.out.2] at g10
            cases hdr : x.draws with
            | nil =>
              have HE : Hid (RES = (x, ⟨#[]⟩, 8)) := Hid.mk (by rw [HRES.out]; unfold newS; rw [if_neg HN1.out, if_neg HN2.out, if_neg HN3.out, hdr])
              rw [hdr, show ([] : List ByteArray).length = 0 from rfl] at g10
              clear hdr
              go_wp2
              go_ret2
              exact outs_err HE.out (by decide) (tch_of B1 g) rfl
            | cons d l =>
              rw [hdr, show (d :: l).length = l.length + 1 from rfl] at g10
              obtain ⟨N, hN⟩ : ∃ N, N = l.length + 1 := ⟨_, rfl⟩
              rw [← hN] at g10
              have hNb : ¬ (N : Int) = 0 := by omega
              have hNc : ((N : Int) == 0) = false := by simp; omega
              have HDR := Hid.mk hdr
              have HN4 : Hid (newS x p data = if dhF x.self p.point = zeros 32 then (x, ⟨#[]⟩, 9) else hearN x p data d) := Hid.mk (by unfold newS; rw [if_neg HN1.out, if_neg HN2.out, if_neg HN3.out, hdr])
              clear hdr hN
              go_wp2_with fail
              clear g10 hNb hNc
              have s1 := B1.size
              have E1 : ∀ W, Below wc.heap.size wc W → W.cell? ⟨g, 1, none⟩ = some (.string x.self) := fun W hW => rowcell (HS1.out.below hW).row 1 _ rfl
              have E2 : ∀ W, Below wc.heap.size wc W → W.cell? ⟨w.heap.size, 0, none⟩ = some (.string p.point) := fun W hW => pt_c0 (pt_below HR1.out hW)
              have zs := HX.out.self
              have zp := HP.out.point
              refine wp_region_quiet (C := fun W => Below wc.heap.size wc W) mixed_any (by kernel_rfl) (Below.refl _ _).drew ?_
              simp only
              refine quiet_move rfl _ rfl (.pointer (some ⟨g, 0, none⟩)) rfl ?_
              simp only [Act.put, List.setIfInBounds_toArray, List.set_cons_succ, List.set_cons_zero]
              refine quiet_nil rfl _ rfl ⟨g, 0, none⟩ rfl ?_
              simp only [Act.put, List.setIfInBounds_toArray, List.set_cons_succ, List.set_cons_zero]
              refine quiet_value rfl (.pointer (some ⟨g, 1, none⟩)) (fun W hW => ⟨W, by unfold execOp; simp [go_sem, Act.eval], rfl⟩) ?_
              simp only [Act.put, List.setIfInBounds_toArray, List.set_cons_succ, List.set_cons_zero]
              refine quiet_value rfl (.string x.self) (fun W hW => ⟨W, by have E := E1 W hW; unfold execOp; simp [go_sem, Act.eval, E], rfl⟩) ?_
              simp only [Act.put, List.setIfInBounds_toArray, List.set_cons_succ, List.set_cons_zero]
              refine quiet_value rfl (.pointer (some ⟨w.heap.size, 0, none⟩)) (fun W hW => ⟨W, by unfold execOp; simp [go_sem, Act.eval], rfl⟩) ?_
              simp only [Act.put, List.setIfInBounds_toArray, List.set_cons_succ, List.set_cons_zero]
              refine quiet_value rfl (.string p.point) (fun W hW => ⟨W, by have E := E2 W hW; unfold execOp; simp [go_sem, Act.eval, E], rfl⟩) ?_
              simp only [Act.put, List.setIfInBounds_toArray, List.set_cons_succ, List.set_cons_zero]
              refine quiet_call rfl (.string (dhF x.self p.point)) 101 #[.string x.self, .string p.point] (fun W => by unfold execOp; simp [go_sem, Act.eval]) (fun W hW => (cshared_f x.self p.point (by omega) (by omega) W).mono fun _ _ h => ⟨h.1, below_lift hW hW.size h.2⟩) ?_
              simp only [Act.put, List.setIfInBounds_toArray, List.set_cons_succ, List.set_cons_zero]
              refine quiet_assign rfl _ rfl (.string (dhF x.self p.point)) rfl ?_
              simp only [Act.put, List.setIfInBounds_toArray, List.set_cons_succ, List.set_cons_zero]
              refine wpQuiet_nil ?_
              intro W3 B3
              clear E1 E2 zs zp
              have B13 := below_lift B1 s1 B3
              have HS3 := Hid.mk (HS1.out.below B3)
              have HR3 := Hid.mk (pt_below HR1.out B3)
              clear HS1 HR1 B3 B1 s1
              obtain ⟨sh, hsh⟩ : ∃ s, s = dhF x.self p.point := ⟨_, rfl⟩
              have zsh : sh.size = 32 := by rw [hsh]; exact dhF_size _ _
              rw [← hsh]
              rw [← hsh] at HN4
              have HSH := Hid.mk hsh
              clear hsh
              by_cases hz : sh = zeros 32
              · have HD : Hid (decide (sh = zeros 32) = true) := Hid.mk (by simp [hz])
                have HE : Hid (RES = (x, ⟨#[]⟩, 9)) := Hid.mk (by rw [HRES.out, HN4.out, if_pos hz])
                clear hz
                go_wp2_with (first
                  | (go_at_call 116; have M := allNoughts_any sh zsh W3; with_reducible refine M.mono ?_; clear M; rintro e w4 ⟨rfl, rfl⟩; rw [HD.out])
                  | fail)
                go_ret2
                exact outs_err HE.out (by decide) (tch_of B13 g) rfl
              · have HD : Hid (decide (sh = zeros 32) = false) := Hid.mk (by simp [hz])
                have HE : Hid (RES = hearN x p data d) := Hid.mk (by rw [HRES.out, HN4.out, if_neg hz])
                clear hz
                have W1f : (turnR x p sh).Wf := turnR_wf HX.out HP.out sh HN3.out
                have HM1 := Hid.mk (turnReading_f x HX.out g vK vP vD p HP.out sh zsh W3 HS3.out HO.out (HT.out.below B13) hg2)
                have hrr : (turnR x p sh).read = rootC x.root sh := by simp only [turnR]
                have hrn : (turnR x p sh).nr = 0 := by simp only [turnR]
                have hrt : (turnR x p sh).theirs = p.point := by simp only [turnR]
                have W2f : (chainS (turnR x p sh) p).Wf := chainS_wf W1f HP.out (by rw [hrt, HP.out.point]; omega)
                have hc2d : (chainS (turnR x p sh) p).draws = d :: l := by simp only [chainS, turnR]; exact HDR.out
                have hc2t : (chainS (turnR x p sh) p).theirs.size = 32 := by simp only [chainS, turnR]; exact HP.out.point
                obtain ⟨K, hK⟩ : ∃ K, K = keyF (chn (rootC x.root sh) p.n) := ⟨_, rfl⟩
                have HM2 : Hid (∀ W v vp, SesAt W g (turnR x p sh) v vp vD → Offs g v vp vD → Tbl W → Calls Tryz.prog 123 #[.pointer (some ⟨g, 0, none⟩), .agg (ptC p), .string DD] W fun e w' =>
                    ((tagF K DD p.turned = p.tag ∧ e = .returned (.tuple #[.string (turnF K p.turned), .int .i64 0])) ∨ (tagF K DD p.turned ≠ p.tag ∧ e = .returned (.tuple #[.string ⟨#[]⟩, .int .i64 10]))) ∧ ∃ v', SesAt w' g (chainS (turnR x p sh) p) v' vp vD ∧ (∀ k, k < W.heap.size → Off k v') ∧ Tch g W w') := Hid.mk (fun W v vp S O T => by
                  have M := readInChain_f (turnR x p sh) W1f (by rw [hrr]; exact rootC_size _ _) g v vp vD p HP.out DD hd W S O T hg2
                  rw [hrr, hrn, Nat.sub_zero, ← hK] at M
                  exact M)
                have HM3 : Hid (∀ W v vp, SesAt W g (chainS (turnR x p sh) p) v vp vD → Offs g v vp vD → Tbl W → Calls Tryz.prog 125 #[.pointer (some ⟨g, 0, none⟩)] W fun e w' => e = .returned (.tuple #[]) ∧ ∃ v', SesAt w' g (newSide x p d) v vp v' ∧ (∀ k, k < W.heap.size → Off k v') ∧ Tch g W w') := Hid.mk (fun W v vp S O T => by
                  have M := turnSending_f (chainS (turnR x p sh) p) W2f hc2t d l hc2d g v vp vD W S O T hg2
                  rw [show turnS (chainS (turnR x p sh) p) d l = newSide x p d by rw [HSH.out]; exact new_side x p d l HDR.out] at M
                  exact M)
                have HOK : Hid (hearN x p data d = if tagF K DD p.turned = p.tag then (newSide x p d, turnF K p.turned, 0) else (x, ⟨#[]⟩, 10)) := Hid.mk (by
                  unfold hearN okK
                  rw [← HSH.out, ← hK, HDD.out]; simp)
                have HGL : Hid (g < W3.heap.size) := Hid.mk (by have := B13.size; omega)
                have HGL5 : Hid (∀ W : World, Tch g w W → g < W.heap.size) := Hid.mk (fun W t => by have := t.size; omega)
                clear W1f W2f hrr hrn hrt hc2d hc2t hK
                by_cases hq : tagF K DD p.turned = p.tag
                · have HRS : Hid (RES = (newSide x p d, turnF K p.turned, 0)) := Hid.mk (by rw [HE.out, HOK.out, if_pos hq])
                  have HQ := Hid.mk hq
                  clear hq
                  go_wp2_with (first
                    | (go_at_call 116; have M := allNoughts_any sh zsh W3; with_reducible refine M.mono ?_; clear M; rintro e w4 ⟨rfl, rfl⟩; rw [HD.out])
                    | (refine wpl_load rtPt rfl _ rfl w.heap.size rfl (ptC p) HR3.out (ptC_size p) ?_)
                    | (go_at_call 124; with_reducible refine HM1.out.mono ?_; rintro e w5 ⟨rfl, v5, p5, S5, o5, t5⟩; have HS5 := Hid.mk S5; have HO5 := Hid.mk o5; clear S5 o5; have R5 := pt_tch HR3.out t5 hgb; have T5 := (tch_of B13 g).trans t5; clear HR3)
                    | (refine wpl_load rtPt rfl _ rfl w.heap.size rfl (ptC p) R5 (ptC_size p) ?_)
                    | (go_at_call 123; have M := HM2.out w5 v5 p5 HS5.out (HO5.out g HGL.out HO.out) (HT.out.tch T5 hg2); with_reducible refine M.mono ?_; clear M; rintro e w6 ⟨h6, v6, S6, o6, t6⟩; have he6 := h6.elim (fun q => q.2) (fun q => absurd HQ.out q.1); subst he6; clear h6; have HS6 := Hid.mk S6; have HO6 := Hid.mk o6; clear S6 o6; have T6 := T5.trans t6)
                    | (go_at_call 125; have M := HM3.out w6 v6 p5 HS6.out ((HO5.out g HGL.out HO.out).new (HO6.out g (HGL5.out _ T5))) (HT.out.tch T6 hg2); with_reducible refine M.mono ?_; clear M; rintro e w7 ⟨rfl, v7, S7, o7, t7⟩; have HS7 := Hid.mk S7; have HO7 := Hid.mk o7; clear S7 o7)
                    | fail)
                  go_ret2
                  rw [HRS.out]
                  exact ⟨rfl, T6.trans t7, fun _ => ⟨v6, p5, v7, HS7.out, fun k hk h => ⟨HO6.out k (by have := T5.size; omega), (HO5.out k (by have := B13.size; omega) h).p, HO7.out k (by have := T6.size; omega)⟩⟩⟩
                · have HRS : Hid (RES = (x, ⟨#[]⟩, 10)) := Hid.mk (by rw [HE.out, HOK.out, if_neg hq])
                  have HQ := Hid.mk hq
                  clear hq
                  go_wp2_with (first
                    | (go_at_call 116; have M := allNoughts_any sh zsh W3; with_reducible refine M.mono ?_; clear M; rintro e w4 ⟨rfl, rfl⟩; rw [HD.out])
                    | (refine wpl_load rtPt rfl _ rfl w.heap.size rfl (ptC p) HR3.out (ptC_size p) ?_)
                    | (go_at_call 124; with_reducible refine HM1.out.mono ?_; rintro e w5 ⟨rfl, v5, p5, S5, o5, t5⟩; have HS5 := Hid.mk S5; have HO5 := Hid.mk o5; clear S5 o5; have R5 := pt_tch HR3.out t5 hgb; have T5 := (tch_of B13 g).trans t5; clear HR3)
                    | (refine wpl_load rtPt rfl _ rfl w.heap.size rfl (ptC p) R5 (ptC_size p) ?_)
                    | (go_at_call 123; have M := HM2.out w5 v5 p5 HS5.out (HO5.out g HGL.out HO.out) (HT.out.tch T5 hg2); with_reducible refine M.mono ?_; clear M; rintro e w6 ⟨h6, v6, S6, o6, t6⟩; have he6 := h6.elim (fun q => absurd q.1 HQ.out) (fun q => q.2); subst he6; clear h6 S6 o6; have T6 := T5.trans t6)
                    | fail)
                  go_ret2
                  exact outs_err HRS.out (by decide) T6 rfl
end Go.Proofs.YteghoooelgcpkaaGreatDoor
namespace Go.Msg
open Go.RowKit Go.Proofs.YteghoooelgcpkaaGreatDoor
def hearP (x : Sd) (p : Pt) (data : ByteArray) : Sd × ByteArray × Int :=
  match x.saved.findIdx? (isK p.point p.n) with
  | some i => match x.saved[i]? with
    | some k => hearK x p data i k
    | none => (x, ⟨#[]⟩, 5)
  | none => if x.theirs = p.point then onS x p data else if been x p.point = true then (x, ⟨#[]⟩, 6) else newS x p data
theorem hearS_eq {x : Sd} {m data : ByteArray} (h : IsMsg m) : hearS x m data = hearP x (ptF m) data := by
  unfold hearS hearP onS newS
  rw [if_neg (by simpa using h)]
  generalize ptF m = p
  cases x.saved.findIdx? (isK p.point p.n) with
  | some i => cases x.saved[i]? <;> rfl
  | none =>
    cases x.draws with
    | nil => rfl
    | cons d l => rfl
theorem hearP_text (x : Sd) (p : Pt) (data : ByteArray) (h : (hearP x p data).2.2 ≠ 0) : (hearP x p data).2.1 = ⟨#[]⟩ := by
  revert h
  unfold hearP
  split
  · split
    · unfold hearK; split
      · intro h; exact absurd rfl h
      · intro _; rfl
    · intro _; rfl
  · split
    · unfold onS; split
      · intro _; rfl
      · split
        · intro _; rfl
        · unfold hearC; split
          · intro h; exact absurd rfl h
          · intro _; rfl
    · split
      · intro _; rfl
      · unfold newS; split
        · intro _; rfl
        · split
          · intro _; rfl
          · split
            · intro _; rfl
            · split
              · intro _; rfl
              · split
                · intro _; rfl
                · unfold hearN; split
                  · intro h; exact absurd rfl h
                  · intro _; rfl
end Go.Msg
namespace Go.Proofs.YteghoooelgcpkaaGreatDoor
open Go.RowKit Go.Msg
theorem rtSes : RowTy Tryz.prog 82 11 := ⟨by decide, by kernel_rfl, _, Tryz.underlying82, rfl⟩
theorem outs_tch {g : Nat} {w W w' : World} {vK vP vD : Value} {r : Sd × ByteArray × Int} {e : Ending} (h : Outs g W vK vP vD r e w') (t : Tch g w W) : Outs g w vK vP vD r e w' := by
  obtain ⟨h1, h2, h3⟩ := h
  refine ⟨h1, t.trans h2, fun h => ?_⟩
  obtain ⟨a, b, c, h4, h5⟩ := h3 h
  exact ⟨a, b, c, h4, fun k hk => h5 k (Nat.lt_of_lt_of_le hk t.size)⟩
theorem readOn_o (x : Sd) (hx : x.Wf) (g : Nat) (vK vP vD : Value) (p : Pt) (hp : PtOk p) (hth : x.theirs = p.point) (data : ByteArray) (hd : (data ++ p.head).size ≤ 200) (w : World) (hs : SesAt w g x vK vP vD) (ho : Offs g vK vP vD) (hT : Tbl w) (hg2 : 2 ≤ g) :
    Calls Tryz.prog 90 #[.pointer (some ⟨g, 0, none⟩), .agg (ptC p), .string (data ++ p.head)] w fun e w' => Outs g w vK vP vD (onS x p data) e w' :=
  (readOn_f x hx g vK vP vD p hp hth data hd w hs ho hT hg2).mono (fun e w' h => by
    obtain ⟨x', t, er, h1, h2, h3, h4⟩ := h
    rw [h1]
    refine ⟨h2, h3, fun h0 => ?_⟩
    obtain ⟨v, h5, h6⟩ := h4 h0
    exact ⟨v, vP, vD, h5, fun k hk ho => ⟨h6 k hk, ho.p, ho.d⟩⟩)
theorem outs_ret {g : Nat} {w w' : World} {vK vP vD : Value} {r : Sd × ByteArray × Int} {e : Ending} (h : Outs g w vK vP vD r e w') : e = .returned (.tuple #[.string r.2.1, .int .i64 r.2.2]) := h.1
set_option maxRecDepth 8000 in
set_option maxHeartbeats 16000000 in
theorem sread_f (x : Sd) (hx : x.Wf) (g : Nat) (vK vP vD : Value) (p : Pt) (hp : PtOk p) (data : ByteArray) (hd : (data ++ p.head).size ≤ 200) (w : World) (hs : SesAt w g x vK vP vD) (ho : Offs g vK vP vD) (hT : Tbl w) (hg2 : 2 ≤ g) :
    Calls Tryz.prog 55 #[.pointer (some ⟨g, 0, none⟩), .agg (ptC p), .string (data ++ p.head)] w fun e w' => Outs g w vK vP vD (hearP x p data) e w' := by
  obtain ⟨V, hV, R0, B0, z0⟩ := box_pt w p
  have hgl := hs.lt
  have hgb : w.heap.size ≠ g := by omega
  have S0 := hs.below B0
  have s0 := B0.size
  obtain ⟨kf, hkf⟩ : ∃ a, a = kfS p.point p.n x.saved := ⟨_, rfl⟩
  have HKF := Hid.mk hkf
  have hsl := hx.saved
  have HM : Hid (∀ W, Below V.heap.size V W → Calls Tryz.prog 88 #[vK, .string p.point, .int .i64 (p.n : Int)] W fun e w' => ∃ v', e = .returned (.tuple #[.string kf.1, v']) ∧ KpsAt w' v' kf.2 ∧ (∀ k, k < w.heap.size → Off k v') ∧ Below V.heap.size V w') := Hid.mk (fun W b => (keptFor_f vK x.saved (by omega) p.point p.n W (S0.vk.below b)).mono (fun e w' h => by
    obtain ⟨v', h1, h2, h3, h4⟩ := h
    rw [← hkf] at h1 h2
    exact ⟨v', h1, h2, fun k hk => h3 k (by have := b.size; omega), below_lift b b.size h4⟩))
  obtain ⟨DD, hDD⟩ : ∃ D, D = data ++ p.head := ⟨_, rfl⟩
  have HON : Hid (x.theirs = p.point → ∀ W, SesAt W g x vK vP vD → Tbl W → Calls Tryz.prog 90 #[.pointer (some ⟨g, 0, none⟩), .agg (ptC p), .string DD] W fun e w' => Outs g W vK vP vD (onS x p data) e w') := Hid.mk (fun h W S T => by rw [hDD]; exact readOn_o x hx g vK vP vD p hp h data hd W S ho T hg2)
  have HNW : Hid (∀ W, SesAt W g x vK vP vD → Tbl W → Calls Tryz.prog 92 #[.pointer (some ⟨g, 0, none⟩), .agg (ptC p), .string DD] W fun e w' => Outs g W vK vP vD (newS x p data) e w') := Hid.mk (fun W S T => by rw [hDD]; exact readNew_f x hx g vK vP vD p hp data hd W S ho T hg2)
  have HDD := Hid.mk hDD
  rw [← hDD] at hd ⊢
  obtain ⟨RES, hRES⟩ : ∃ r, r = hearP x p data := ⟨_, rfl⟩
  have HRES := Hid.mk hRES
  rw [← hRES]
  have HR0 := Hid.mk R0
  have HS0 := Hid.mk S0
  have HO := Hid.mk ho
  have HT := Hid.mk hT
  have HX := Hid.mk hx
  have HP := Hid.mk hp
  obtain ⟨aK, mK, cK, eK⟩ := hs.vk.slice
  have g8 : V.cell? ⟨g, 8, none⟩ = some vK := rowcell S0.row 8 _ rfl
  have p0 := pt_c0 R0
  have p2 := pt_c2 R0
  clear R0 S0 hs ho hT hx hp hkf hDD hRES
  rw [eK] at g8 HM
  rw [box_ptC]
  go_enter Tryz.func55, Tryz.ntmps55
  go_upto_region 1 with fail
  rw [← hV]
  clear hV
  go_cut [8, 9] from 10 to 21 (fun key oth wx => key = .string kf.1 ∧ KpsAt wx oth kf.2 ∧ (∀ k, k < w.heap.size → Off k oth) ∧ Below V.heap.size V wx)
  case first =>
    go_region_with (first | (go_at_call 88; with_reducible refine (HM.out _ (by first | exact (Below.refl _ _).drew | exact below_drewN (Below.refl _ _) _)).mono ?_; rintro e w1 ⟨v1, rfl, hv1, hoff, b1⟩) | fail)
    all_goals go_wp2_with fail
    all_goals go_meet
    all_goals exact ⟨rfl, hv1, hoff, b1⟩
  case rest =>
    obtain ⟨rfl, hv1, hoff, b1⟩ := hcut
    obtain ⟨aV, mV, cV, eV⟩ := hv1.slice
    subst eV
    have B1 := below_lift B0 s0 b1
    have HV1 := Hid.mk hv1
    have HOF := Hid.mk hoff
    have HS1 := Hid.mk (HS0.out.below b1)
    have HR1 := Hid.mk (pt_below HR0.out b1)
    clear hv1 hoff g8 p0 p2 HS0 HR0
    obtain ⟨W1, hW1⟩ : ∃ W, W = wc := ⟨_, rfl⟩
    subst hW1
    cases hfi : x.saved.findIdx? (isK p.point p.n) with
    | some i =>
      obtain ⟨k, hk⟩ := idx_some hfi
      have hkk := kfS_some HX.out.savedW hfi hk
      rw [← HKF.out] at hkk
      have hkey : k.key.size = 32 := (HX.out.savedW k (List.mem_of_getElem? hk)).key
      have e1 : kf.1 = k.key := by rw [hkk]
      have e2 : kf.2 = x.saved.take i ++ x.saved.drop (i + 1) := by rw [hkk]
      rw [e1]
      rw [e2] at HV1
      have hne : k.key.toList.isEmpty = false := by
        cases h : k.key.toList with
        | nil => have := size_zero.2 (toList_nil.1 h); omega
        | cons _ _ => rfl
      have hne2 : ¬ k.key.toList = [] := fun h => by rw [h] at hne; cases hne
      have HRK : Hid (RES = hearK x p data i k) := Hid.mk (by rw [HRES.out]; unfold hearP; rw [hfi]; simp only [hk])
      have g8 : W1.cell? ⟨g, 8, none⟩ = some vK := rowcell HS1.out.row 8 _ rfl
      rw [eK] at g8
      have y8 := rowfz2 HS1.out.row 8 (by rw [sesC_size]; omega)
      have HR2 : Hid ((W1.setCell ⟨g, 8, none⟩ (.slice aV mV cV)).rowOf w.heap.size = ptC p) := Hid.mk (pt_tch HR1.out ((tch_refl g W1).setCell 8 _) hgb)
      have t2 : Tch g W1 (W1.setCell ⟨g, 8, none⟩ (.slice aV mV cV)) := (tch_refl g W1).setCell 8 _
      have T2 : Tch g w (W1.setCell ⟨g, 8, none⟩ (.slice aV mV cV)) := (tch_of B1 g).trans t2
      have HMO := Hid.mk (opened_f k.key hkey p HP.out DD hd (W1.setCell ⟨g, 8, none⟩ (.slice aV mV cV)) (HT.out.tch T2 hg2))
      clear hfi hk hkk e1 e2 hkey
      by_cases hq : tagF k.key DD p.turned = p.tag
      · have HQ := Hid.mk hq
        have HRS : Hid (RES = ({ x with saved := x.saved.take i ++ x.saved.drop (i + 1) }, turnF k.key p.turned, 0)) := Hid.mk (by rw [HRK.out]; unfold hearK okK; rw [← HDD.out, if_pos (by simp [hq])])
        clear hq
        go_wp2_with (first
          | (refine wpl_load rtPt rfl _ rfl w.heap.size rfl (ptC p) HR2.out (ptC_size p) ?_)
          | (go_at_call 89; with_reducible refine HMO.out.mono ?_; rintro e w6 ⟨h6, b6⟩; have he6 := h6.elim (fun q => q.2) (fun q => absurd HQ.out q.1); subst he6; clear h6)
          | fail)
        go_ret2
        rw [HRS.out]
        have S2 : SesAt (W1.setCell ⟨g, 8, none⟩ (.slice aV mV cV)) g { x with saved := x.saved.take i ++ x.saved.drop (i + 1) } (.slice aV mV cV) vP vD := ⟨rowOf_setCell HS1.out.row (by rw [sesC_size]; omega) 8 _, HV1.out.tch t2 (HOF.out g hgl), HS1.out.vp.tch t2 HO.out.p, HS1.out.vd.tch t2 HO.out.d⟩
        exact ⟨rfl, T2.trans (tch_of b6 g), fun _ => ⟨.slice aV mV cV, vP, vD, S2.below b6, fun k hk h => h.new (HOF.out k hk)⟩⟩
      · have HQ := Hid.mk hq
        have HRS : Hid (RES = (x, ⟨#[]⟩, 10)) := Hid.mk (by rw [HRK.out]; unfold hearK okK; rw [← HDD.out, if_neg (by simp [hq])])
        clear hq
        go_wp2_with (first
          | (refine wpl_load rtPt rfl _ rfl w.heap.size rfl (ptC p) HR2.out (ptC_size p) ?_)
          | (go_at_call 89; with_reducible refine HMO.out.mono ?_; rintro e w6 ⟨h6, b6⟩; have he6 := h6.elim (fun q => absurd q.1 HQ.out) (fun q => q.2); subst he6; clear h6)
          | fail)
        go_ret2
        exact outs_err HRS.out (by decide) (T2.trans (tch_of b6 g)) rfl
    | none =>
      have hkk := kfS_none hfi
      rw [← HKF.out] at hkk
      have e1 : kf.1 = ⟨#[]⟩ := by rw [hkk]
      rw [e1]
      have HRN : Hid (RES = if x.theirs = p.point then onS x p data else if been x p.point = true then (x, ⟨#[]⟩, 6) else newS x p data) := Hid.mk (by rw [HRES.out]; unfold hearP; rw [hfi])
      have g2 := ses_c2 HS1.out
      have p0 := pt_c0 HR1.out
      clear hfi hkk e1
      by_cases hth : p.point.toList = x.theirs.toList
      · have bth : (p.point.toList == x.theirs.toList) = true := by rw [hth]; simp
        have hte : x.theirs = p.point := (toList_inj.1 hth).symm
        have HRS : Hid (RES = onS x p data) := Hid.mk (by rw [HRN.out, if_pos hte])
        have HM2 := HON.out hte
        have HMM := Hid.mk HM2
        clear HM2 hte
        go_wp2_with fail
        go_quiet (fail)
        have B2 := below_drewN B1 nq
        have R2 : (W1.drewN nq).rowOf w.heap.size = ptC p := HR1.out
        have S2 := Hid.mk (HS1.out.below (below_drewN (Below.refl _ _) nq))
        generalize W1.drewN nq = W2 at B2 R2 S2 ⊢
        clear g2 p0
        go_wp2_with (first
          | (refine wpl_load rtPt rfl _ rfl w.heap.size rfl (ptC p) R2 (ptC_size p) ?_)
          | (go_at_call 90; have M := HMM.out W2 S2.out (HT.out.below B2); with_reducible refine M.mono ?_; clear M; rintro e w6 h6; have he6 := outs_ret h6; subst he6; have H6 := Hid.mk h6; clear h6)
          | fail)
        go_ret2
        rw [HRS.out]
        exact outs_tch H6.out (tch_of B2 g)
      · have bth : (p.point.toList == x.theirs.toList) = false := by simpa using hth
        have hte : ¬ x.theirs = p.point := fun e => hth (by rw [e])
        obtain ⟨aP, mP, cP, eP⟩ := HS1.out.vp.slice
        go_wp2_with fail
        go_quiet (fail)
        have B2 := below_drewN B1 nq
        have R2 := Hid.mk (show (W1.drewN nq).rowOf w.heap.size = ptC p from HR1.out)
        have S2 := Hid.mk (HS1.out.below (below_drewN (Below.refl _ _) nq))
        generalize W1.drewN nq = W2 at B2 R2 S2 ⊢
        have s2 := B2.size
        clear g2 p0
        go_wp2_with fail
        have E9 : ∀ W, Below W2.heap.size W2 W → W.cell? ⟨g, 9, none⟩ = some vP := fun W hW => rowcell (S2.out.below hW).row 9 _ rfl
        have E0 : ∀ W, Below W2.heap.size W2 W → W.cell? ⟨w.heap.size, 0, none⟩ = some (.string p.point) := fun W hW => pt_c0 (pt_below R2.out hW)
        have hpl := HX.out.past
        refine wp_region_quiet (C := fun W => Below W2.heap.size W2 W) mixed_any (by kernel_rfl) (Below.refl _ _).drew ?_
        simp only
        refine quiet_move rfl _ rfl (.pointer (some ⟨g, 0, none⟩)) rfl ?_
        simp only [Act.put, List.setIfInBounds_toArray, List.set_cons_succ, List.set_cons_zero]
        refine quiet_nil rfl _ rfl ⟨g, 0, none⟩ rfl ?_
        simp only [Act.put, List.setIfInBounds_toArray, List.set_cons_succ, List.set_cons_zero]
        refine quiet_value rfl (.pointer (some ⟨g, 9, none⟩)) (fun W hW => ⟨W, by unfold execOp; simp [go_sem, Act.eval], rfl⟩) ?_
        simp only [Act.put, List.setIfInBounds_toArray, List.set_cons_succ, List.set_cons_zero]
        refine quiet_value rfl (.slice aP mP cP) (fun W hW => ⟨W, by have E := E9 W hW; rw [eP] at E; unfold execOp; simp [go_sem, Act.eval, E], rfl⟩) ?_
        simp only [Act.put, List.setIfInBounds_toArray, List.set_cons_succ, List.set_cons_zero]
        refine quiet_value rfl (.pointer (some ⟨w.heap.size, 0, none⟩)) (fun W hW => ⟨W, by unfold execOp; simp [go_sem, Act.eval], rfl⟩) ?_
        simp only [Act.put, List.setIfInBounds_toArray, List.set_cons_succ, List.set_cons_zero]
        refine quiet_value rfl (.string p.point) (fun W hW => ⟨W, by have E := E0 W hW; unfold execOp; simp [go_sem, Act.eval, E], rfl⟩) ?_
        simp only [Act.put, List.setIfInBounds_toArray, List.set_cons_succ, List.set_cons_zero]
        refine quiet_call rfl (.bool (been x p.point)) 91 #[.slice aP mP cP, .string p.point] (fun W => by unfold execOp; simp [go_sem, Act.eval]) (fun W hW => (has_f (.slice aP mP cP) x.past (by omega) p.point W (by rw [← eP]; exact (S2.out.below hW).vp)).mono fun _ _ h => ⟨h.1, by rw [h.2]; exact hW⟩) ?_
        simp only [Act.put, List.setIfInBounds_toArray, List.set_cons_succ, List.set_cons_zero]
        refine wpQuiet_nil ?_
        intro W3 b3
        have B3 := below_lift B2 s2 b3
        have HS3 := Hid.mk (S2.out.below b3)
        have R3 := pt_below R2.out b3
        clear E9 E0 b3 S2 R2
        cases hbn : been x p.point with
        | true =>
          have HRS : Hid (RES = (x, ⟨#[]⟩, 6)) := Hid.mk (by rw [HRN.out, if_neg hte, if_pos hbn])
          clear hbn hte
          go_wp2
          go_ret2
          exact outs_err HRS.out (by decide) (tch_of B3 g) rfl
        | false =>
          have HRS : Hid (RES = newS x p data) := Hid.mk (by rw [HRN.out, if_neg hte, if_neg (by rw [hbn]; simp)])
          clear hbn hte
          go_wp2_with (first
            | (refine wpl_load rtPt rfl _ rfl w.heap.size rfl (ptC p) R3 (ptC_size p) ?_)
            | (go_at_call 92; have M := HNW.out W3 HS3.out (HT.out.below B3); with_reducible refine M.mono ?_; clear M; rintro e w6 h6; have he6 := outs_ret h6; subst he6; have H6 := Hid.mk h6; clear h6)
            | fail)
          go_ret2
          rw [HRS.out]
          exact outs_tch H6.out (tch_of B3 g)
end Go.Proofs.YteghoooelgcpkaaGreatDoor
