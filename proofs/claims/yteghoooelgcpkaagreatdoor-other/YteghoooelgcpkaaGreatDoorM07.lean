import Derived.Test.YteghoooelgcpkaaGreatDoorM06
namespace Go.Proofs.YteghoooelgcpkaaGreatDoor
open Go.RowKit Go.Msg
set_option maxRecDepth 4000 in
set_option maxHeartbeats 4000000 in
theorem export_f (x : Sd) (hx : x.Wf) (g : Nat) (vK vP vD : Value) (w : World) (hs : SesAt w g x vK vP vD) :
    Calls Tryz.prog 32 #[.pointer (some ⟨g, 0, none⟩)] w fun e w' => e = .returned (.string (keptB x)) ∧ Below w.heap.size w w' := by
  have HK : Hid (keptB x = optP x 3 ++ (be 2 (x.ns : Int) ++ be 2 (x.nr : Int) ++ be 2 (x.pn : Int)) ++ (Proofs.YteghoooelgcpkaaGreatDoor.b1 (x.saved.length : Int) ++ kpsB x.saved) ++ (Proofs.YteghoooelgcpkaaGreatDoor.b1 (x.past.length : Int) ++ strsB x.past) ++ (Proofs.YteghoooelgcpkaaGreatDoor.b1 (x.draws.length : Int) ++ strsB x.draws)) := Hid.mk (by simp only [keptB, optP, ByteArray.append_assoc])
  have H0 : Hid (optP x 0 = (⟨#[82, 83]⟩ : ByteArray) ++ x.root ++ x.self) := Hid.mk rfl
  have H1 : Hid (optP x 1 = optP x 0 ++ optB x.theirs) := Hid.mk rfl
  have H2 : Hid (optP x 2 = optP x 1 ++ optB x.send) := Hid.mk rfl
  have H3 : Hid (optP x 3 = optP x 2 ++ optB x.read) := Hid.mk rfl
  have p0 := optP_size hx 0
  have p1 := optP_size hx 1
  have p2 := optP_size hx 2
  have p3 := optP_size hx 3
  have z0 := hx.root
  have z1 := hx.self
  have o2 := optB_size hx.theirs
  have o3 := optB_size hx.send
  have o4 := optB_size hx.read
  have kS := kpsB_size x.saved hx.savedW
  have kP := strsB_size x.past hx.pastW
  have kD := strsB_size x.draws hx.drawsW
  have lS := hx.saved
  have lP := hx.past
  have lD := hx.draws
  have x1 : (be 2 (x.ns : Int)).size = 2 := be_size _ _
  have x2 : (be 2 (x.nr : Int)).size = 2 := be_size _ _
  have x3 : (be 2 (x.pn : Int)).size = 2 := be_size _ _
  have b300 : 0 ≤ (x.ns : Int) ∧ (x.ns : Int) < 65536 := by have := hx.ns; omega
  have b301 : 0 ≤ (x.nr : Int) ∧ (x.nr : Int) < 65536 := by have := hx.nr; omega
  have b302 : 0 ≤ (x.pn : Int) ∧ (x.pn : Int) < 65536 := by have := hx.pn; omega
  have HX := Hid.mk hx
  have HS := Hid.mk hs
  have hrow := hs.row
  have E : ∀ W, Below w.heap.size w W → ∀ i v, (sesC x vK vP vD)[i]? = some v → W.cell? ⟨g, i, none⟩ = some v := fun W hW i v hi => rowcell (hs.below hW).row i v hi
  have HE := Hid.mk E
  have f0 : w.cell? ⟨g, 0, none⟩ = some (.string x.root) := E w (Below.refl _ _) 0 _ rfl
  have f1 : w.cell? ⟨g, 1, none⟩ = some (.string x.self) := E w (Below.refl _ _) 1 _ rfl
  have B0 : ∀ q, Below w.heap.size w (w.drewN q) := fun q => below_drewN (Below.refl _ _) q
  have HB0 := Hid.mk B0
  clear hx hs E hrow B0
  go_enter Tryz.func32, Tryz.ntmps32
  go_wp2
  go_quiet (fail)
  rw [← H0.out]
  have B1 := HB0.out nq
  generalize w.drewN nq = W1 at B1 ⊢
  have f2 : W1.cell? ⟨g, 2, none⟩ = some (.string x.theirs) := HE.out W1 B1 2 _ rfl
  clear f0 f1
  have s1 := B1.size
  go_wp2_with (first
    | (go_at_call 63; have M := maybeText_f x.theirs HX.out.theirs W1; with_reducible refine M.mono ?_; clear M; rintro e w2 ⟨rfl, b2⟩; have B2 := below_lift B1 s1 b2; have s2 := B2.size; have f3 : w2.cell? ⟨g, 3, none⟩ = some (.string x.send) := HE.out w2 B2 3 _ rfl; clear b2)
    | (go_at_call 63; rw [← H1.out]; have M := maybeText_f x.send HX.out.send w2; with_reducible refine M.mono ?_; clear M; rintro e w3 ⟨rfl, b3⟩; have B3 := below_lift B2 s2 b3; have s3 := B3.size; have f4 : w3.cell? ⟨g, 4, none⟩ = some (.string x.read) := HE.out w3 B3 4 _ rfl; clear b3)
    | (go_at_call 63; rw [← H2.out]; have M := maybeText_f x.read HX.out.read w3; with_reducible refine M.mono ?_; clear M; rintro e w4 ⟨rfl, b4⟩; have B4 := below_lift B3 s3 b4; have s4 := B4.size; clear b4)
    | fail)
  rw [← H3.out]
  clear f2 f3 f4 B1 B2 B3 s1 s2 s3
  have E5 : ∀ W, Below w.heap.size w W → W.cell? ⟨g, 5, none⟩ = some (.int .i64 (x.ns : Int)) := fun W hW => HE.out W hW 5 _ rfl
  have E6 : ∀ W, Below w.heap.size w W → W.cell? ⟨g, 6, none⟩ = some (.int .i64 (x.nr : Int)) := fun W hW => HE.out W hW 6 _ rfl
  have E7 : ∀ W, Below w.heap.size w W → W.cell? ⟨g, 7, none⟩ = some (.int .i64 (x.pn : Int)) := fun W hW => HE.out W hW 7 _ rfl
  refine wp_region_quiet (C := fun W => Below w.heap.size w W) mixed_any (by kernel_rfl) B4.drew ?_
  simp only
  refine quiet_move rfl _ rfl (.string (optP x 3)) rfl ?_
  simp only [Act.put, List.setIfInBounds_toArray, List.set_cons_succ, List.set_cons_zero]
  refine quiet_move rfl _ rfl (.pointer (some ⟨g, 0, none⟩)) rfl ?_
  simp only [Act.put, List.setIfInBounds_toArray, List.set_cons_succ, List.set_cons_zero]
  refine quiet_nil rfl _ rfl ⟨g, 0, none⟩ rfl ?_
  simp only [Act.put, List.setIfInBounds_toArray, List.set_cons_succ, List.set_cons_zero]
  refine quiet_value rfl (.pointer (some ⟨g, 5, none⟩)) (fun W hW => ⟨W, by unfold execOp; simp [go_sem, Act.eval], rfl⟩) ?_
  simp only [Act.put, List.setIfInBounds_toArray, List.set_cons_succ, List.set_cons_zero]
  refine quiet_value rfl (.int .i64 (x.ns : Int)) (fun W hW => ⟨W, by have E := E5 W hW; unfold execOp; simp [go_sem, Act.eval, E], rfl⟩) ?_
  simp only [Act.put, List.setIfInBounds_toArray, List.set_cons_succ, List.set_cons_zero]
  refine quiet_call rfl (.string (be 2 (x.ns : Int))) 64 #[.int .i64 (x.ns : Int)] (fun W => by unfold execOp; simp [go_sem, Act.eval]) (fun W hW => (u16_f (x.ns : Int) b300 W).mono fun _ _ h => ⟨h.1, below_lift hW hW.size h.2⟩) ?_
  simp only [Act.put, List.setIfInBounds_toArray, List.set_cons_succ, List.set_cons_zero]
  refine quiet_move rfl _ rfl (.pointer (some ⟨g, 0, none⟩)) rfl ?_
  simp only [Act.put, List.setIfInBounds_toArray, List.set_cons_succ, List.set_cons_zero]
  refine quiet_nil rfl _ rfl ⟨g, 0, none⟩ rfl ?_
  simp only [Act.put, List.setIfInBounds_toArray, List.set_cons_succ, List.set_cons_zero]
  refine quiet_value rfl (.pointer (some ⟨g, 6, none⟩)) (fun W hW => ⟨W, by unfold execOp; simp [go_sem, Act.eval], rfl⟩) ?_
  simp only [Act.put, List.setIfInBounds_toArray, List.set_cons_succ, List.set_cons_zero]
  refine quiet_value rfl (.int .i64 (x.nr : Int)) (fun W hW => ⟨W, by have E := E6 W hW; unfold execOp; simp [go_sem, Act.eval, E], rfl⟩) ?_
  simp only [Act.put, List.setIfInBounds_toArray, List.set_cons_succ, List.set_cons_zero]
  refine quiet_call rfl (.string (be 2 (x.nr : Int))) 64 #[.int .i64 (x.nr : Int)] (fun W => by unfold execOp; simp [go_sem, Act.eval]) (fun W hW => (u16_f (x.nr : Int) b301 W).mono fun _ _ h => ⟨h.1, below_lift hW hW.size h.2⟩) ?_
  simp only [Act.put, List.setIfInBounds_toArray, List.set_cons_succ, List.set_cons_zero]
  refine quiet_cat rfl _ _ _ _ rfl (be 2 (x.ns : Int)) (be 2 (x.nr : Int)) rfl rfl (by first | omega | (simp only [ByteArray.size_append]; omega)) ?_
  simp only [Act.put, List.setIfInBounds_toArray, List.set_cons_succ, List.set_cons_zero]
  refine quiet_move rfl _ rfl (.pointer (some ⟨g, 0, none⟩)) rfl ?_
  simp only [Act.put, List.setIfInBounds_toArray, List.set_cons_succ, List.set_cons_zero]
  refine quiet_nil rfl _ rfl ⟨g, 0, none⟩ rfl ?_
  simp only [Act.put, List.setIfInBounds_toArray, List.set_cons_succ, List.set_cons_zero]
  refine quiet_value rfl (.pointer (some ⟨g, 7, none⟩)) (fun W hW => ⟨W, by unfold execOp; simp [go_sem, Act.eval], rfl⟩) ?_
  simp only [Act.put, List.setIfInBounds_toArray, List.set_cons_succ, List.set_cons_zero]
  refine quiet_value rfl (.int .i64 (x.pn : Int)) (fun W hW => ⟨W, by have E := E7 W hW; unfold execOp; simp [go_sem, Act.eval, E], rfl⟩) ?_
  simp only [Act.put, List.setIfInBounds_toArray, List.set_cons_succ, List.set_cons_zero]
  refine quiet_call rfl (.string (be 2 (x.pn : Int))) 64 #[.int .i64 (x.pn : Int)] (fun W => by unfold execOp; simp [go_sem, Act.eval]) (fun W hW => (u16_f (x.pn : Int) b302 W).mono fun _ _ h => ⟨h.1, below_lift hW hW.size h.2⟩) ?_
  simp only [Act.put, List.setIfInBounds_toArray, List.set_cons_succ, List.set_cons_zero]
  refine quiet_cat rfl _ _ _ _ rfl (be 2 (x.ns : Int) ++ be 2 (x.nr : Int)) (be 2 (x.pn : Int)) rfl rfl (by first | omega | (simp only [ByteArray.size_append]; omega)) ?_
  simp only [Act.put, List.setIfInBounds_toArray, List.set_cons_succ, List.set_cons_zero]
  refine quiet_cat rfl _ _ _ _ rfl (optP x 3) (be 2 (x.ns : Int) ++ be 2 (x.nr : Int) ++ be 2 (x.pn : Int)) rfl rfl (by first | omega | (simp only [ByteArray.size_append]; omega)) ?_
  simp only [Act.put, List.setIfInBounds_toArray, List.set_cons_succ, List.set_cons_zero]
  refine quiet_assign rfl _ rfl (.string (optP x 3 ++ (be 2 (x.ns : Int) ++ be 2 (x.nr : Int) ++ be 2 (x.pn : Int)))) rfl ?_
  simp only [Act.put, List.setIfInBounds_toArray, List.set_cons_succ, List.set_cons_zero]
  refine wpQuiet_nil ?_
  intro w5 B5
  have zt : (optP x 3 ++ (be 2 (x.ns : Int) ++ be 2 (x.nr : Int) ++ be 2 (x.pn : Int))).size ≤ 300 := by simp only [ByteArray.size_append]; omega
  generalize optP x 3 ++ (be 2 (x.ns : Int) ++ be 2 (x.nr : Int) ++ be 2 (x.pn : Int)) = t5 at HK zt ⊢
  have zS : (Proofs.YteghoooelgcpkaaGreatDoor.b1 (x.saved.length : Int) ++ kpsB x.saved).size ≤ 2200 := by rw [ByteArray.size_append, b1_size, kS]; omega
  have zP : (Proofs.YteghoooelgcpkaaGreatDoor.b1 (x.past.length : Int) ++ strsB x.past).size ≤ 2200 := by rw [ByteArray.size_append, b1_size, kP]; omega
  have zD : (Proofs.YteghoooelgcpkaaGreatDoor.b1 (x.draws.length : Int) ++ strsB x.draws).size ≤ 2200 := by rw [ByteArray.size_append, b1_size, kD]; omega
  have f8 : w5.cell? ⟨g, 8, none⟩ = some vK := HE.out w5 B5 8 _ rfl
  have s5 := B5.size
  have q1 := (HS.out.below B5).vk
  have HMS : Hid _ := Hid.mk (keptText_f vK x.saved (by omega) HX.out.savedW w5 q1)
  clear q1 E5 E6 E7 B4 s4 kS kP kD
  obtain ⟨tS, hS⟩ : ∃ t, t = Proofs.YteghoooelgcpkaaGreatDoor.b1 (x.saved.length : Int) ++ kpsB x.saved := ⟨_, rfl⟩
  obtain ⟨tP, hP⟩ : ∃ t, t = Proofs.YteghoooelgcpkaaGreatDoor.b1 (x.past.length : Int) ++ strsB x.past := ⟨_, rfl⟩
  obtain ⟨tD, hD⟩ : ∃ t, t = Proofs.YteghoooelgcpkaaGreatDoor.b1 (x.draws.length : Int) ++ strsB x.draws := ⟨_, rfl⟩
  rw [← hS] at zS
  rw [← hP] at zP
  rw [← hD] at zD
  rw [← hS, ← hP, ← hD] at HK
  have HTS := Hid.mk hS
  have HTP := Hid.mk hP
  have HTD := Hid.mk hD
  clear hS hP hD
  go_wp2_with (first
    | (go_at_call 65; have M := HMS.out; with_reducible refine M.mono ?_; clear M; rintro e w6 ⟨rfl, b6⟩; rw [← HTS.out]; have B6 := below_lift B5 s5 b6; have s6 := B6.size; have f9 : w6.cell? ⟨g, 9, none⟩ = some vP := HE.out w6 B6 9 _ rfl; clear b6)
    | (go_at_call 66; have M := listText_f vP x.past (by omega) HX.out.pastW w6 (HS.out.below B6).vp; with_reducible refine M.mono ?_; clear M; rintro e w7 ⟨rfl, b7⟩; rw [← HTP.out]; have B7 := below_lift B6 s6 b7; have s7 := B7.size; have f10 : w7.cell? ⟨g, 10, none⟩ = some vD := HE.out w7 B7 10 _ rfl; clear b7)
    | (go_at_call 66; have M := listText_f vD x.draws (by omega) HX.out.drawsW w7 (HS.out.below B7).vd; with_reducible refine M.mono ?_; clear M; rintro e w8 ⟨rfl, b8⟩; rw [← HTD.out]; have B8 := below_lift B7 s7 b8; clear b8)
    | fail)
  go_ret
  exact ⟨congrArg (fun z => Ending.returned (Value.string z)) HK.out.symm, B8⟩
end Go.Proofs.YteghoooelgcpkaaGreatDoor
namespace Go
open Go.RowKit
structure Tch (g : Nat) (w w' : World) : Prop where
  os : w'.os = w.os
  tape : w'.tape = w.tape
  output : w'.output = w.output
  size : w.heap.size ≤ w'.heap.size
  block : ∀ k, k < w.heap.size → k ≠ g → w'.heap[k]? = w.heap[k]?
theorem tch_of {w w' : World} (h : Below w.heap.size w w') (g : Nat) : Tch g w w' := ⟨h.os, h.tape, h.output, h.size, fun k hk _ => h.block k hk⟩
theorem Tch.trans {g : Nat} {a b c : World} (h : Tch g a b) (k : Tch g b c) : Tch g a c :=
  ⟨k.os.trans h.os, k.tape.trans h.tape, k.output.trans h.output, Nat.le_trans h.size k.size, fun i hi hg => (k.block i (Nat.lt_of_lt_of_le hi h.size) hg).trans (h.block i hi hg)⟩
theorem Tch.setCell {g : Nat} {w w' : World} (h : Tch g w w') (i : Nat) (v : Value) : Tch g w (w'.setCell ⟨g, i, none⟩ v) :=
  ⟨h.os, h.tape, h.output, by simpa using h.size, fun k hk hg => (heap_setCell_other w' ⟨g, i, none⟩ k v hg).trans (h.block k hk hg)⟩
theorem Tch.cell {g : Nat} {w w' : World} (h : Tch g w w') {p : Addr} (hp : p.block < w.heap.size) (hg : p.block ≠ g) : w'.cell? p = w.cell? p := World.cell?_of_block (w := w) (h.block p.block hp hg)
theorem Tch.row {g : Nat} {w w' : World} (h : Tch g w w') {k : Nat} (hs : 0 < (w.rowOf k).size) (hg : k ≠ g) : w'.rowOf k = w.rowOf k := by
  have := h.block k (rowOf_lt hs) hg
  simp only [World.rowOf, this]
theorem rowOf_setCell {w : World} {g : Nat} {c : Array Value} (h : w.rowOf g = c) (hc : 0 < c.size) (i : Nat) (v : Value) : (w.setCell ⟨g, i, none⟩ v).rowOf g = c.setIfInBounds i v := by
  obtain ⟨t, ht⟩ := rowOf_heap (n := c.size) (by rw [h]) hc
  have := heap_setCell_same w g i _ t v ht
  rw [rowOf_block this, h]
end Go
namespace Go.Proofs.YteghoooelgcpkaaGreatDoor
open Go.RowKit Go.Msg
theorem StrsAt.tch {g : Nat} {w w' : World} {v : Value} {l : List ByteArray} (h : StrsAt w v l) (hb : Tch g w w') (ho : Off g v) : StrsAt w' v l := by
  obtain ⟨ao, cap, k, o, rfl, h2, h3, h4⟩ := h
  refine ⟨ao, cap, k, o, rfl, h2, h3, fun i t hi => ?_⟩
  have hl : 0 < l.length := Nat.lt_of_le_of_lt (Nat.zero_le _) (List.getElem?_eq_some_iff.1 hi).1
  have hk : k ≠ g := ho ⟨k, o, none⟩ l.length cap (by rw [h3 hl]) hl
  rw [hb.cell (World.block_lt_of_cell? w _ (h4 i t hi)) hk]; exact h4 i t hi
theorem KpsAt.tch {g : Nat} {w w' : World} {v : Value} {l : List Kp} (h : KpsAt w v l) (hb : Tch g w w') (ho : Off g v) : KpsAt w' v l := by
  obtain ⟨ao, cap, k, o, rfl, h2, h3, h4⟩ := h
  refine ⟨ao, cap, k, o, rfl, h2, h3, fun i t hi => ?_⟩
  have hl : 0 < l.length := Nat.lt_of_le_of_lt (Nat.zero_le _) (List.getElem?_eq_some_iff.1 hi).1
  have hk : k ≠ g := ho ⟨k, o, none⟩ l.length cap (by rw [h3 hl]) hl
  obtain ⟨a, b, c⟩ := h4 i t hi
  exact ⟨by rw [hb.cell (World.block_lt_of_cell? w _ a) hk]; exact a, by rw [hb.cell (World.block_lt_of_cell? w _ b) hk]; exact b, by rw [hb.cell (World.block_lt_of_cell? w _ c) hk]; exact c⟩
theorem StrsAt.fresh {w : World} {v : Value} {l : List ByteArray} (h : StrsAt w v l) {g : Nat} (hg : w.heap.size ≤ g) : Off g v := by
  obtain ⟨ao, cap, k, o, rfl, h2, h3, h4⟩ := h
  intro a m c e hm
  have hl : 0 < l.length := by simp only [Value.slice.injEq] at e; omega
  rw [h3 hl] at e
  cases e
  have := World.block_lt_of_cell? w _ (h4 0 l[0] (List.getElem?_eq_getElem hl))
  show k ≠ g
  have h5 : k < w.heap.size := this
  omega
theorem KpsAt.fresh {w : World} {v : Value} {l : List Kp} (h : KpsAt w v l) {g : Nat} (hg : w.heap.size ≤ g) : Off g v := by
  obtain ⟨ao, cap, k, o, rfl, h2, h3, h4⟩ := h
  intro a m c e hm
  have hl : 0 < l.length := by simp only [Value.slice.injEq] at e; omega
  rw [h3 hl] at e
  cases e
  have := World.block_lt_of_cell? w _ (h4 0 l[0] (List.getElem?_eq_getElem hl)).1
  show k ≠ g
  have h5 : k < w.heap.size := this
  omega
theorem StrsAt.slice {w : World} {v : Value} {l : List ByteArray} (h : StrsAt w v l) : ∃ a m c, v = .slice a m c := by obtain ⟨a, c, _, _, h, _⟩ := h; exact ⟨a, _, c, h⟩
theorem KpsAt.slice {w : World} {v : Value} {l : List Kp} (h : KpsAt w v l) : ∃ a m c, v = .slice a m c := by obtain ⟨a, c, _, _, h, _⟩ := h; exact ⟨a, _, c, h⟩
theorem Tbl.tch {g : Nat} {w w' : World} (h : Tbl w) (t : Tch g w w') (hg : 2 ≤ g) : Tbl w' := by
  have := h.lt
  exact ⟨fun i hi => by rw [t.cell (by show 0 < _; omega) (by show 0 ≠ g; omega)]; exact h.sq i hi, fun i hi => by rw [t.cell (by show 1 < _; omega) (by show 1 ≠ g; omega)]; exact h.cu i hi⟩
structure Offs (g : Nat) (vK vP vD : Value) : Prop where
  k : Off g vK
  p : Off g vP
  d : Off g vD
theorem SesAt.tch {g k : Nat} {w w' : World} {x : Sd} {vK vP vD : Value} (h : SesAt w k x vK vP vD) (hb : Tch g w w') (hk : k ≠ g) (ho : Offs g vK vP vD) : SesAt w' k x vK vP vD :=
  ⟨by rw [hb.row (by rw [h.row, sesC_size]; omega) hk]; exact h.row, h.vk.tch hb ho.k, h.vp.tch hb ho.p, h.vd.tch hb ho.d⟩
theorem SesAt.lt {w : World} {g : Nat} {x : Sd} {vK vP vD : Value} (h : SesAt w g x vK vP vD) : g < w.heap.size := rowOf_lt (by rw [h.row, sesC_size]; omega)
set_option maxHeartbeats 2000000 in
theorem joined_g (v : Value) (l : List ByteArray) (t : ByteArray) (hl : l.length ≤ 1000) (w : World) (hv : StrsAt w v l) :
    Calls Tryz.prog 118 #[v, .string t] w fun e w' => ∃ v', e = .returned v' ∧ StrsAt w' v' (l ++ [t]) ∧ (∀ g, g < w.heap.size → Off g v') ∧ Below w.heap.size w w' := by
  obtain ⟨ao, cap, ad, rfl, ha2, ha3⟩ := hv.src
  obtain ⟨n, hn⟩ : ∃ n, n = l.length := ⟨_, rfl⟩
  have HN := Hid.mk hn
  rw [← hn] at hl ha2 ⊢
  have HA := Hid.mk ha3
  clear ha3 hv hn
  go_enter Tryz.func118, Tryz.ntmps118
  go_wp2_with (first
    | (at_builtin; refine wpl_appendL Tryz.underlying32 iStr (by omega) (by omega) rfl _ _ rfl w.heap.size _ 0 [] rfl ?_ ao ad n cap (strCells l) rfl ha2 ?_ HA.out (strCells_one l) (by omega) (by omega) (Nat.le_refl _) ?_; (focus (exact World.ownsRow_nil _ _ _ _)); (focus (rw [strCells_length, HN.out])); intro v1 w1 hown1 hbel1 hsz1; have B1 := hbel1 w (Below.refl _ _))
    | (at_builtin; refine wpl_appendL Tryz.underlying32 iStr (by omega) (by omega) rfl _ _ rfl w.heap.size _ (0 + n) ([] ++ strCells l) rfl ?_ _ ⟨w1.heap.size, 0, none⟩ 1 1 [.string t] rfl (fun _ => rfl) rfl ?_ ?_ (by omega) (by omega) ?_ ?_; (focus (exact hown1.alloc _)); (focus (intro q u hq; rw [Addr.add_mid, Nat.zero_add]; exact rowcell (by simp [go_sem]; exact rfl) q u (by simpa using hq))); (focus (intro u hu; simp at hu; subst hu; rfl)); (focus (simp; omega)); intro v2 w2 hown2 hbel2 hsz2; have B2 := hbel2 w (B1.alloc hsz1 _))
    | fail)
  go_ret
  have HO : w2.ownsRow w.heap.size 9 1 v2 (l ++ [t]).length (strCells (l ++ [t])) := by
    rw [strCells_append, List.length_append, ← HN.out]; rw [Nat.zero_add, List.nil_append] at hown2; exact hown2
  exact ⟨_, rfl, StrsAt.of_owns HO, fun g hg => off_of_owns HO hg, B2⟩
def laidS (x : Sd) (t : ByteArray) : Sd := { x with draws := x.draws ++ [t] }
theorem laidS_wf {x : Sd} (h : x.Wf) (t : ByteArray) (ht : t.size = 32) (hn : x.draws.length < 8) : (laidS x t).Wf :=
  ⟨h.root, h.self, h.theirs, h.send, h.read, h.ns, h.nr, h.pn, h.saved, h.savedW, h.past, h.pastW, (by show (x.draws ++ [t]).length ≤ 8; simp; omega), (fun u hu => by
    have hu' : u ∈ x.draws ++ [t] := hu
    rcases List.mem_append.1 hu' with h1 | h1
    · exact h.drawsW u h1
    · simp at h1; subst h1; exact ht), h.both⟩
set_option maxHeartbeats 2000000 in
theorem lay_f (x : Sd) (hx : x.Wf) (g : Nat) (vK vP vD : Value) (t : ByteArray) (w : World) (hs : SesAt w g x vK vP vD) (ho : Offs g vK vP vD) :
    Calls Tryz.prog 78 #[.pointer (some ⟨g, 0, none⟩), .string t] w fun e w' =>
      (t.size ≠ 32 ∧ e = .returned (.int .i64 1) ∧ Below w.heap.size w w') ∨ (t.size = 32 ∧ x.draws.length = 8 ∧ e = .returned (.int .i64 4) ∧ Below w.heap.size w w') ∨
      (t.size = 32 ∧ x.draws.length < 8 ∧ e = .returned (.int .i64 0) ∧ ∃ v, SesAt w' g (laidS x t) vK vP v ∧ (∀ k, k < w.heap.size → Off k v) ∧ Tch g w w') := by
  have hd := hx.draws
  have hg := hs.lt
  have f10 := rowcell hs.row 10 vD rfl
  have z10 := rowfz2 hs.row 10 (by rw [sesC_size]; omega)
  obtain ⟨aoD, capD, gD, oD, hvD, hcD, haD, hxD⟩ := hs.vd
  have HS := Hid.mk hs
  have HO := Hid.mk ho
  have HV := Hid.mk hvD
  obtain ⟨n, hn⟩ : ∃ n, n = x.draws.length := ⟨_, rfl⟩
  have HN := Hid.mk hn
  rw [← hn] at hd hcD haD
  rw [hvD, ← hn] at f10
  have HM : Hid _ := Hid.mk (joined_g vD x.draws t (by omega) w hs.vd)
  rw [hvD] at HM
  rw [← hn] at HM
  clear hs ho hx hxD haD
  by_cases h1 : t.size = 32
  · have c1 : (t.size : Int) = 32 := by omega
    by_cases h2 : n < 8
    · have c2 : ¬ (n : Int) ≥ 8 := by omega
      have HH := Hid.mk (And.intro h1 h2)
      clear h1 h2 hn
      go_enter Tryz.func78, Tryz.ntmps78
      go_wp2_with (first | (go_at_call 118; have M := HM.out; with_reducible refine M.mono ?_; clear M; rintro e w1 ⟨v1, rfl, hv1, hoff, B1⟩; obtain ⟨aV, mV, cV, rfl⟩ : ∃ a m c, v1 = .slice a m c := hv1.slice; have HV1 := Hid.mk hv1; have HOF := Hid.mk hoff; clear hv1 hoff; have S1 := HS.out.below B1; have f11 := rowcell S1.row 10 vD rfl; have z11 := rowfz2 S1.row 10 (by rw [sesC_size]; omega); have HS1 := Hid.mk S1; clear S1) | fail)
      go_ret
      have S1 := HS1.out
      have T1 : Tch g w w1 := tch_of B1 g
      have T2 := T1.setCell 10 (.slice aV mV cV)
      exact Or.inr (Or.inr ⟨HH.out.1, by rw [← HN.out]; exact HH.out.2, rfl, .slice aV mV cV, ⟨rowOf_setCell S1.row (by rw [sesC_size]; omega) 10 _, HS.out.vk.tch T2 HO.out.k, HS.out.vp.tch T2 HO.out.p, HV1.out.tch ((tch_of (Below.refl w1.heap.size w1) g).setCell 10 _) (HOF.out g hg)⟩, HOF.out, T2⟩)
    · have c2 : (n : Int) ≥ 8 := by omega
      have HH := Hid.mk (And.intro h1 (show x.draws.length = 8 by omega))
      clear h1 h2 hn
      go_enter Tryz.func78, Tryz.ntmps78
      go_wp2
      go_ret
      exact Or.inr (Or.inl ⟨HH.out.1, HH.out.2, rfl, Below.refl _ _⟩)
  · have c3 : ((t.size : Int) != 32) = true := by simp; omega
    have c4 : ¬ (t.size : Int) = 32 := by omega
    have HH := Hid.mk h1
    clear h1 hn
    go_enter Tryz.func78, Tryz.ntmps78
    go_wp2
    go_ret
    exact Or.inl ⟨HH.out, rfl, Below.refl _ _⟩
end Go.Proofs.YteghoooelgcpkaaGreatDoor
namespace Go.Proofs.YteghoooelgcpkaaGreatDoor
open Go.RowKit Go.Msg
theorem head_f (p : ByteArray) (hp : p.size = 32) (a n : Int) (ha : 0 ≤ a ∧ a < 65536) (hn : 0 ≤ n ∧ n < 65536) (w : World) :
    Calls Tryz.prog 54 #[.string p, .int .i64 a, .int .i64 n] w fun e w' => e = .returned (.string ((⟨#[82, 77]⟩ : ByteArray) ++ p ++ be 2 a ++ be 2 n)) ∧ Below w.heap.size w w' := by
  have x1 : (be 2 a).size = 2 := be_size _ _
  have x2 : (be 2 n).size = 2 := be_size _ _
  have HA := Hid.mk ha
  have HN := Hid.mk hn
  clear ha hn
  go_enter Tryz.func54, Tryz.ntmps54
  go_wp2_with (first
    | (go_at_call 64; have M := u16_f a HA.out w; with_reducible refine M.mono ?_; clear M; rintro e w1 ⟨rfl, b1⟩; have s1 := b1.size)
    | (go_at_call 64; have M := u16_f n HN.out w1; with_reducible refine M.mono ?_; clear M; rintro e w2 ⟨rfl, b2⟩)
    | fail)
  go_ret
  exact ⟨rfl, below_lift b1 s1 b2⟩
set_option maxHeartbeats 1000000 in
theorem send_long (p : Value) (t d : ByteArray) (h : 200 < t.size ∨ 100 < d.size) (w : World) :
    Calls Tryz.prog 34 #[p, .string t, .string d] w fun e w' => e = .returned (.tuple #[.string ⟨#[]⟩, .int .i64 2]) ∧ Below w.heap.size w w' := by
  by_cases h1 : 200 < t.size
  · have c1 : (t.size : Int) > 200 := by omega
    clear h h1
    go_enter Tryz.func34, Tryz.ntmps34
    go_wp2
    go_ret2
    exact ⟨rfl, Below.refl _ _⟩
  · have c1 : ¬ (t.size : Int) > 200 := by omega
    have c2 : (d.size : Int) > 100 := by omega
    clear h h1
    go_enter Tryz.func34, Tryz.ntmps34
    go_wp2
    go_ret2
    exact ⟨rfl, Below.refl _ _⟩
set_option maxHeartbeats 1000000 in
theorem send_nil (t d : ByteArray) (ht : t.size ≤ 200) (hd : d.size ≤ 100) (w : World) :
    Calls Tryz.prog 34 #[.pointer none, .string t, .string d] w fun e w' => e = .returned (.tuple #[.string ⟨#[]⟩, .int .i64 3]) ∧ Below w.heap.size w w' := by
  have c1 : ¬ (t.size : Int) > 200 := by omega
  have c2 : ¬ (d.size : Int) > 100 := by omega
  go_enter Tryz.func34, Tryz.ntmps34
  go_wp2
  go_ret2
  exact ⟨rfl, Below.refl _ _⟩
set_option maxRecDepth 4000 in
set_option maxHeartbeats 4000000 in
theorem send_f (x : Sd) (hx : x.Wf) (g : Nat) (vK vP vD : Value) (t d : ByteArray) (ht : t.size ≤ 200) (hd : d.size ≤ 100) (w : World) (hT : Tbl w) (hs : SesAt w g x vK vP vD) (ho : Offs g vK vP vD) :
    Calls Tryz.prog 34 #[.pointer (some ⟨g, 0, none⟩), .string t, .string d] w fun e w' =>
      (x.send = ⟨#[]⟩ ∧ e = .returned (.tuple #[.string ⟨#[]⟩, .int .i64 3]) ∧ Below w.heap.size w w') ∨ (x.send ≠ ⟨#[]⟩ ∧ x.ns = 300 ∧ e = .returned (.tuple #[.string ⟨#[]⟩, .int .i64 4]) ∧ Below w.heap.size w w') ∨
      (x.send ≠ ⟨#[]⟩ ∧ x.ns ≠ 300 ∧ e = .returned (.tuple #[.string (msgF x t d), .int .i64 0]) ∧ SesAt w' g (saidS x) vK vP vD ∧ Tch g w w') := by
  have c1 : ¬ (t.size : Int) > 200 := by omega
  have c2 : ¬ (d.size : Int) > 100 := by omega
  have E : ∀ W, Below w.heap.size w W → ∀ i v, (sesC x vK vP vD)[i]? = some v → W.cell? ⟨g, i, none⟩ = some v := fun W hW i v hi => rowcell (hs.below hW).row i v hi
  have HE := Hid.mk E
  have f3 : w.cell? ⟨g, 3, none⟩ = some (.string x.send) := E w (Below.refl _ _) 3 _ rfl
  have f5 : w.cell? ⟨g, 5, none⟩ = some (.int .i64 (x.ns : Int)) := E w (Below.refl _ _) 5 _ rfl
  have HX := Hid.mk hx
  have HS := Hid.mk hs
  have HO := Hid.mk ho
  have hns := hx.ns
  clear E hs ho hx
  by_cases he : x.send.toList = []
  · have hb : x.send.toList.isEmpty = true := by rw [he]; rfl
    have HH := Hid.mk (toList_nil.1 he)
    clear he
    go_enter Tryz.func34, Tryz.ntmps34
    go_wp2
    go_ret2
    exact Or.inl ⟨HH.out, rfl, Below.refl _ _⟩
  · have hb : x.send.toList.isEmpty = false := by cases h : x.send.toList <;> simp_all
    have HH : Hid (x.send ≠ ⟨#[]⟩) := Hid.mk (fun e => he (toList_nil.2 e))
    by_cases h3 : x.ns = 300
    · have c3 : (x.ns : Int) ≥ 300 := by omega
      have H3 := Hid.mk h3
      clear h3
      go_enter Tryz.func34, Tryz.ntmps34
      go_wp2
      go_ret2
      exact Or.inr (Or.inl ⟨HH.out, H3.out, rfl, Below.refl _ _⟩)
    · have c3 : ¬ (x.ns : Int) ≥ 300 := by omega
      have H3 := Hid.mk h3
      clear h3
      have f1 : w.cell? ⟨g, 1, none⟩ = some (.string x.self) := HE.out w (Below.refl _ _) 1 _ rfl
      have zself := HX.out.self
      have zsend : x.send.size = 32 := by rcases HX.out.send with h | h; exact absurd (size_zero.1 h) HH.out; exact h
      have bpn : 0 ≤ (x.pn : Int) ∧ (x.pn : Int) < 65536 := by have := HX.out.pn; omega
      have bns : 0 ≤ (x.ns : Int) ∧ (x.ns : Int) < 65536 := by omega
      have zp := pubF_size x.self
      have HHD : Hid ((⟨#[82, 77]⟩ : ByteArray) ++ pubF x.self ++ be 2 (x.pn : Int) ++ be 2 (x.ns : Int) = headF x) := Hid.mk rfl
      have zh := headF_size x
      have zk : (keyF x.send).size = 32 := keyF_size _
      have zt := turnF_size (keyF x.send) t
      have zda : (d ++ headF x).size ≤ 200 := by rw [ByteArray.size_append]; omega
      have HMS : Hid (msgF x t d = headF x ++ be 2 ((turnF (keyF x.send) t).size : Int) ++ turnF (keyF x.send) t ++ tagF (keyF x.send) (d ++ headF x) (turnF (keyF x.send) t)) := Hid.mk (by rw [zt]; rfl)
      have ztt : 0 ≤ ((turnF (keyF x.send) t).size : Int) ∧ ((turnF (keyF x.send) t).size : Int) < 65536 := by omega
      have ztg := tagF_size (keyF x.send) (d ++ headF x) (turnF (keyF x.send) t)
      have zu : (turnF (keyF x.send) t).size ≤ 200 := by omega
      clear zt
      have HT := Hid.mk hT
      have z3 := rowfz2 HS.out.row 3 (by rw [sesC_size]; omega)
      clear hT
      go_enter Tryz.func34, Tryz.ntmps34
      go_wp2_with (first
        | (go_at_call 68; have M := cpoint_f x.self zself w; with_reducible refine M.mono ?_; clear M; rintro e w1 ⟨rfl, B1⟩; have s1 := B1.size)
        | fail)
      clear f1 f3 f5
      have E5 : ∀ W, Below w.heap.size w W → W.cell? ⟨g, 5, none⟩ = some (.int .i64 (x.ns : Int)) := fun W hW => HE.out W hW 5 _ rfl
      have E7 : ∀ W, Below w.heap.size w W → W.cell? ⟨g, 7, none⟩ = some (.int .i64 (x.pn : Int)) := fun W hW => HE.out W hW 7 _ rfl
      refine wp_region_quiet (C := fun W => Below w.heap.size w W) mixed_any (by kernel_rfl) B1.drew ?_
      simp only
      refine quiet_move rfl _ rfl (.string (pubF x.self)) rfl ?_
      simp only [Act.put, List.setIfInBounds_toArray, List.set_cons_succ, List.set_cons_zero]
      refine quiet_move rfl _ rfl (.pointer (some ⟨g, 0, none⟩)) rfl ?_
      simp only [Act.put, List.setIfInBounds_toArray, List.set_cons_succ, List.set_cons_zero]
      refine quiet_nil rfl _ rfl ⟨g, 0, none⟩ rfl ?_
      simp only [Act.put, List.setIfInBounds_toArray, List.set_cons_succ, List.set_cons_zero]
      refine quiet_value rfl (.pointer (some ⟨g, 7, none⟩)) (fun W hW => ⟨W, by unfold execOp; simp [go_sem, Act.eval], rfl⟩) ?_
      simp only [Act.put, List.setIfInBounds_toArray, List.set_cons_succ, List.set_cons_zero]
      refine quiet_value rfl (.int .i64 (x.pn : Int)) (fun W hW => ⟨W, by have E := E7 W hW; unfold execOp; simp [go_sem, Act.eval, E], rfl⟩) ?_
      simp only [Act.put, List.setIfInBounds_toArray, List.set_cons_succ, List.set_cons_zero]
      refine quiet_move rfl _ rfl (.pointer (some ⟨g, 0, none⟩)) rfl ?_
      simp only [Act.put, List.setIfInBounds_toArray, List.set_cons_succ, List.set_cons_zero]
      refine quiet_nil rfl _ rfl ⟨g, 0, none⟩ rfl ?_
      simp only [Act.put, List.setIfInBounds_toArray, List.set_cons_succ, List.set_cons_zero]
      refine quiet_value rfl (.pointer (some ⟨g, 5, none⟩)) (fun W hW => ⟨W, by unfold execOp; simp [go_sem, Act.eval], rfl⟩) ?_
      simp only [Act.put, List.setIfInBounds_toArray, List.set_cons_succ, List.set_cons_zero]
      refine quiet_value rfl (.int .i64 (x.ns : Int)) (fun W hW => ⟨W, by have E := E5 W hW; unfold execOp; simp [go_sem, Act.eval, E], rfl⟩) ?_
      simp only [Act.put, List.setIfInBounds_toArray, List.set_cons_succ, List.set_cons_zero]
      refine quiet_call rfl (.string (headF x)) 54 #[.string (pubF x.self), .int .i64 (x.pn : Int), .int .i64 (x.ns : Int)] (fun W => by unfold execOp; simp [go_sem, Act.eval]) (fun W hW => (head_f (pubF x.self) zp (x.pn : Int) (x.ns : Int) bpn bns W).mono fun _ _ h => ⟨by rw [h.1, HHD.out], below_lift hW hW.size h.2⟩) ?_
      simp only [Act.put, List.setIfInBounds_toArray, List.set_cons_succ, List.set_cons_zero]
      refine quiet_assign rfl _ rfl (.string (headF x)) rfl ?_
      simp only [Act.put, List.setIfInBounds_toArray, List.set_cons_succ, List.set_cons_zero]
      refine wpQuiet_nil ?_
      intro w2 B2
      clear E5 E7 B1 s1
      have s2 := B2.size
      have f3 : w2.cell? ⟨g, 3, none⟩ = some (.string x.send) := HE.out w2 B2 3 _ rfl
      have HT2 := Hid.mk (HT.out.below B2)
      clear HHD zp
      have x2 : (be 2 ((turnF (keyF x.send) t).size : Int)).size = 2 := be_size _ _
      generalize headF x = hd0 at *
      generalize hkk : keyF x.send = kk at *
      have HKK := Hid.mk hkk
      clear hkk
      generalize hut : turnF kk t = ut at *
      have HUT := Hid.mk hut
      clear hut
      generalize htg : tagF kk (d ++ hd0) ut = tg at *
      have HTG := Hid.mk htg
      clear htg
      go_wp2_with (first
        | (go_at_call 69; have M := messageKey_any x.send (by omega) w2 HT2.out; with_reducible refine M.mono ?_; clear M; rintro e w3 ⟨rfl, b3⟩; rw [HKK.out]; have B3 := below_lift B2 s2 b3; have s3 := B3.size; clear b3; have HT3 := Hid.mk (HT.out.below B3))
        | (go_at_call 70; have M := seal_any kk (d ++ hd0) t (by omega) zda ht w3 HT3.out; with_reducible refine M.mono ?_; clear M; rintro e w4 ⟨rfl, b4⟩; rw [HUT.out, HTG.out]; have B4 := below_lift B3 s3 b4; have s4 := B4.size; clear b4; have HT4 := Hid.mk (HT.out.below B4); have f3' : w4.cell? ⟨g, 3, none⟩ = some (.string x.send) := HE.out w4 B4 3 _ rfl)
        | (go_at_call 71; have M := behind_any x.send (by omega) w4 HT4.out; with_reducible refine M.mono ?_; clear M; rintro e w5 ⟨rfl, b5⟩; have B5 := below_lift B4 s4 b5; have s5 := B5.size; clear b5; have S5 := HS.out.below B5; have HS5 := Hid.mk S5; have f3'' : w5.cell? ⟨g, 3, none⟩ = some (.string x.send) := HE.out w5 B5 3 _ rfl; have f5'' : w5.cell? ⟨g, 5, none⟩ = some (.int .i64 (x.ns : Int)) := HE.out w5 B5 5 _ rfl; have z3' := rowfz2 S5.row 3 (by rw [sesC_size]; omega); have z5' := rowfz2 S5.row 5 (by rw [sesC_size]; omega); clear S5)
        | (go_at_call 64; have M := u16_f (ut.size : Int) ztt ((w5.setCell ⟨g, 3, none⟩ (.string (behF x.send))).setCell ⟨g, 5, none⟩ (.int .i64 ((x.ns : Int) + 1))); with_reducible refine M.mono ?_; clear M; rintro e w8 ⟨rfl, b8⟩)
        | fail)
      go_ret2
      have S5 := HS5.out
      have T5 : Tch g w w5 := tch_of B5 g
      have T7 := (T5.setCell 3 (.string (behF x.send))).setCell 5 (.int .i64 ((x.ns : Int) + 1))
      have R6 := rowOf_setCell S5.row (by rw [sesC_size]; omega) 3 (.string (behF x.send))
      have R7 := rowOf_setCell R6 (by rw [Array.size_setIfInBounds, sesC_size]; omega) 5 (.int .i64 ((x.ns : Int) + 1))
      have S7 : SesAt ((w5.setCell ⟨g, 3, none⟩ (.string (behF x.send))).setCell ⟨g, 5, none⟩ (.int .i64 ((x.ns : Int) + 1))) g (saidS x) vK vP vD := ⟨R7, HS.out.vk.tch T7 HO.out.k, HS.out.vp.tch T7 HO.out.p, HS.out.vd.tch T7 HO.out.d⟩
      exact Or.inr (Or.inr ⟨HH.out, H3.out, congrArg (fun z => Ending.returned (Value.tuple #[Value.string z, Value.int IntKind.i64 0])) HMS.out.symm, S7.below b8, T7.trans (tch_of b8 g)⟩)
end Go.Proofs.YteghoooelgcpkaaGreatDoor
namespace Go.Msg
open Go.RowKit Go.Proofs.YteghoooelgcpkaaGreatDoor
structure Rd where
  rest : ByteArray
  bad : Bool
def takeF (n : Nat) (r : Rd) : ByteArray × Rd := if r.bad = true ∨ r.rest.size < n then (⟨#[]⟩, ⟨r.rest, true⟩) else (r.rest.extract 0 n, ⟨r.rest.extract n r.rest.size, false⟩)
def markF (m : ByteArray) (r : Rd) : Rd := if (takeF m.size r).1 = m then (takeF m.size r).2 else ⟨(takeF m.size r).2.rest, true⟩
def valF (t : ByteArray) : Nat := (numF (sb t) t.size).toNat
def numbF (s most : Nat) (r : Rd) : Nat × Rd := if most < valF (takeF s r).1 then (0, ⟨(takeF s r).2.rest, true⟩) else (valF (takeF s r).1, (takeF s r).2)
def maybeF (r : Rd) : ByteArray × Rd := if (numbF 1 1 r).1 = 0 then (⟨#[]⟩, (numbF 1 1 r).2) else takeF 32 (numbF 1 1 r).2
def keysF : Nat → Rd → List Kp × Rd
  | 0, r => ([], r)
  | k + 1, r => ((keysF k r).1 ++ [⟨(takeF 32 (keysF k r).2).1, (numbF 2 299 (takeF 32 (keysF k r).2).2).1, (takeF 32 (numbF 2 299 (takeF 32 (keysF k r).2).2).2).1⟩], (takeF 32 (numbF 2 299 (takeF 32 (keysF k r).2).2).2).2)
def txtsF : Nat → Rd → List ByteArray × Rd
  | 0, r => ([], r)
  | k + 1, r => ((txtsF k r).1 ++ [(takeF 32 (txtsF k r).2).1], (takeF 32 (txtsF k r).2).2)
def keptKF (r : Rd) : List Kp × Rd := keysF (numbF 1 32 r).1 (numbF 1 32 r).2
def listF (most : Nat) (r : Rd) : List ByteArray × Rd := txtsF (numbF 1 most r).1 (numbF 1 most r).2
theorem takeF_size (n : Nat) (r : Rd) : (takeF n r).1.size ≤ n := by
  unfold takeF; split
  · exact Nat.zero_le _
  · rw [ext_size (by omega)]; omega
theorem sb_B8' (t : ByteArray) : B8 (sb t) := sb_B8 t
theorem valF_cast (t : ByteArray) : (valF t : Int) = numF (sb t) t.size := by
  have := (numF_bd (sb_B8' t) t.size).1
  unfold valF; omega
theorem numbF_le (s m : Nat) (r : Rd) : (numbF s m r).1 ≤ m := by
  unfold numbF; split
  · exact Nat.zero_le _
  · show valF _ ≤ m; omega
theorem keysF_len (k : Nat) (r : Rd) : (keysF k r).1.length = k := by
  induction k with
  | zero => rfl
  | succ k ih => rw [keysF, List.length_append, ih]; rfl
theorem txtsF_len (k : Nat) (r : Rd) : (txtsF k r).1.length = k := by
  induction k with
  | zero => rfl
  | succ k ih => rw [txtsF, List.length_append, ih]; rfl
end Go.Msg
namespace Go.Proofs.YteghoooelgcpkaaGreatDoor
open Go.RowKit Go.Msg
def rdC (r : Rd) : Array Value := #[.string r.rest, .bool r.bad]
theorem rdC_size (r : Rd) : (rdC r).size = 2 := rfl
theorem tch_refl (g : Nat) (w : World) : Tch g w w := tch_of (Below.refl _ _) g
set_option maxHeartbeats 1000000 in
theorem take_f (k n : Nat) (r : Rd) (hn : n ≤ 200) (w : World) (hr : w.rowOf k = rdC r) :
    Calls Tryz.prog 119 #[.pointer (some ⟨k, 0, none⟩), .int .i64 (n : Int)] w fun e w' => e = .returned (.string (takeF n r).1) ∧ w'.rowOf k = rdC (takeF n r).2 ∧ Tch k w w' := by
  have f0 := rowcell hr 0 (.string r.rest) rfl
  have f1 := rowcell hr 1 (.bool r.bad) rfl
  have z0 := rowfz2 hr 0 (by rw [rdC_size]; omega)
  have z1 := rowfz2 hr 1 (by rw [rdC_size]; omega)
  have HR := Hid.mk hr
  clear hr
  cases hb : r.bad with
  | true =>
    have HE : Hid (takeF n r = (⟨#[]⟩, ⟨r.rest, true⟩)) := Hid.mk (by unfold takeF; rw [if_pos (Or.inl hb)])
    rw [hb] at f1
    clear hb
    go_enter Tryz.func119, Tryz.ntmps119
    go_wp2
    go_ret
    exact ⟨by rw [HE.out]; rfl, by rw [HE.out]; exact rowOf_setCell HR.out (by rw [rdC_size]; omega) 1 _, (tch_refl k w).setCell 1 _⟩
  | false =>
    rw [hb] at f1
    have c0 : ¬ (n : Int) < 0 := by omega
    by_cases h1 : r.rest.size < n
    · have c1 : (n : Int) > r.rest.size := by omega
      have HE : Hid (takeF n r = (⟨#[]⟩, ⟨r.rest, true⟩)) := Hid.mk (by unfold takeF; rw [if_pos (Or.inr h1)])
      clear hb h1
      go_enter Tryz.func119, Tryz.ntmps119
      go_wp2
      go_ret
      exact ⟨by rw [HE.out]; rfl, by rw [HE.out]; exact rowOf_setCell HR.out (by rw [rdC_size]; omega) 1 _, (tch_refl k w).setCell 1 _⟩
    · have c1 : ¬ (n : Int) > r.rest.size := by omega
      have c2 : (n : Int) ≤ r.rest.size := by omega
      have c3 : (0 : Int) ≤ n := by omega
      have HE : Hid (takeF n r = (r.rest.extract 0 n, ⟨r.rest.extract n r.rest.size, false⟩)) := Hid.mk (by unfold takeF; rw [if_neg (by rw [hb]; simp; omega)])
      have HF : Hid (rdC ⟨r.rest.extract n r.rest.size, false⟩ = (rdC r).setIfInBounds 0 (.string (r.rest.extract n r.rest.size))) := Hid.mk (by simp [rdC, hb])
      clear hb h1
      go_enter Tryz.func119, Tryz.ntmps119
      go_wp2
      go_ret
      exact ⟨by rw [HE.out]; rfl, by rw [HE.out, HF.out]; exact rowOf_setCell HR.out (by rw [rdC_size]; omega) 0 _, (tch_refl k w).setCell 0 _⟩
theorem take32 (k : Nat) (r : Rd) (w : World) (hr : w.rowOf k = rdC r) :
    Calls Tryz.prog 119 #[.pointer (some ⟨k, 0, none⟩), .int .i64 32] w fun e w' => e = .returned (.string (takeF 32 r).1) ∧ w'.rowOf k = rdC (takeF 32 r).2 ∧ Tch k w w' := take_f k 32 r (by omega) w hr
theorem take2 (k : Nat) (r : Rd) (w : World) (hr : w.rowOf k = rdC r) :
    Calls Tryz.prog 119 #[.pointer (some ⟨k, 0, none⟩), .int .i64 2] w fun e w' => e = .returned (.string (takeF 2 r).1) ∧ w'.rowOf k = rdC (takeF 2 r).2 ∧ Tch k w w' := take_f k 2 r (by omega) w hr
theorem key_f (k : Nat) (r : Rd) (w : World) (hr : w.rowOf k = rdC r) :
    Calls Tryz.prog 81 #[.pointer (some ⟨k, 0, none⟩)] w fun e w' => e = .returned (.string (takeF 32 r).1) ∧ w'.rowOf k = rdC (takeF 32 r).2 ∧ Tch k w w' := by
  go_enter Tryz.func81, Tryz.ntmps81
  go_wp2_with (first | (go_at_call 119; have M := take32 k r w hr; with_reducible refine M.mono ?_; clear M; rintro e w1 ⟨rfl, r1, t1⟩) | fail)
  go_ret
  exact ⟨rfl, r1, t1⟩
theorem rs_list : sRS.toList = [82, 83] := by rw [sRS, ByteArray.toList_eq]
set_option maxHeartbeats 1000000 in
theorem mark_f (k : Nat) (r : Rd) (w : World) (hr : w.rowOf k = rdC r) :
    Calls Tryz.prog 80 #[.pointer (some ⟨k, 0, none⟩), .string ⟨#[82, 83]⟩] w fun e w' => e = .returned (.tuple #[]) ∧ w'.rowOf k = rdC (markF sRS r) ∧ Tch k w w' := by
  have HD : Hid (markF sRS r = if (takeF 2 r).1 = sRS then (takeF 2 r).2 else ⟨(takeF 2 r).2.rest, true⟩) := Hid.mk rfl
  by_cases he : (takeF 2 r).1.toList = [82, 83]
  · have HE : Hid (markF sRS r = (takeF 2 r).2) := Hid.mk (by rw [HD.out, if_pos (toList_inj.1 (by rw [he, rs_list]))])
    clear HD
    go_enter Tryz.func80, Tryz.ntmps80
    go_wp2_with (first | (go_at_call 119; have M := take2 k r w hr; with_reducible refine M.mono ?_; clear M; rintro e w1 ⟨rfl, r1, t1⟩) | fail)
    go_end0
    exact ⟨rfl, by rw [HE.out]; exact r1, t1⟩
  · have HE : Hid (markF sRS r = ⟨(takeF 2 r).2.rest, true⟩) := Hid.mk (by rw [HD.out, if_neg (fun e => he (by rw [e, rs_list]))])
    have heB : ((takeF 2 r).1.toList == [82, 83]) = false := by simp [he]
    clear HD
    go_enter Tryz.func80, Tryz.ntmps80
    go_wp2_with (first | (go_at_call 119; have M := take2 k r w hr; with_reducible refine M.mono ?_; clear M; rintro e w1 ⟨rfl, r1, t1⟩; have f1 := rowcell r1 1 (.bool (takeF 2 r).2.bad) rfl; have z1 := rowfz2 r1 1 (by rw [rdC_size]; omega); have HR1 := Hid.mk r1; clear r1) | fail)
    go_end0
    exact ⟨rfl, by rw [HE.out]; exact rowOf_setCell HR1.out (by rw [rdC_size]; omega) 1 _, t1.setCell 1 _⟩
set_option maxHeartbeats 1000000 in
theorem number_f (k s m : Nat) (hs : s ≤ 2) (hm : m ≤ 1000) (r : Rd) (w : World) (hr : w.rowOf k = rdC r) :
    Calls Tryz.prog 121 #[.pointer (some ⟨k, 0, none⟩), .int .i64 (s : Int), .int .i64 (m : Int)] w fun e w' => e = .returned (.int .i64 ((numbF s m r).1 : Int)) ∧ w'.rowOf k = rdC (numbF s m r).2 ∧ Tch k w w' := by
  have zt := takeF_size s r
  have HV := Hid.mk (valF_cast (takeF s r).1)
  have hv : valF (takeF s r).1 < 65536 := by
    have h1 := numF_lt (sb_B8' (takeF s r).1) (show (takeF s r).1.size < 4 by omega)
    have h2 := valF_cast (takeF s r).1
    have h3 := numF_bd (sb_B8' (takeF s r).1) (takeF s r).1.size
    generalize numF (sb (takeF s r).1) (takeF s r).1.size = y at *
    generalize (takeF s r).1.size = z at *
    obtain rfl | rfl | rfl : z = 0 ∨ z = 1 ∨ z = 2 := by omega
    all_goals (simp at h3; omega)
  have cm : (m : Int) % 4294967296 = m := by omega
  obtain ⟨n, hn⟩ : ∃ n, n = valF (takeF s r).1 := ⟨_, rfl⟩
  rw [← hn] at hv
  have HN := Hid.mk hn
  have q : (n : Int) % 18446744073709551616 = n := by omega
  by_cases hc : m < n
  · have HE : Hid (numbF s m r = (0, ⟨(takeF s r).2.rest, true⟩)) := Hid.mk (by unfold numbF; rw [if_pos (by rw [← hn]; exact hc)])
    have c1 : (n : Int) > m := by omega
    clear hn hc
    go_enter Tryz.func121, Tryz.ntmps121
    go_wp2_with (first
      | (go_at_call 119; have M := take_f k s r (by omega) w hr; with_reducible refine M.mono ?_; clear M; rintro e w1 ⟨rfl, r1, t1⟩; have f1 := rowcell r1 1 (.bool (takeF s r).2.bad) rfl; have z1 := rowfz2 r1 1 (by rw [rdC_size]; omega); have HR1 := Hid.mk r1; clear r1)
      | (go_at_call 150; have M := onumber_any (takeF s r).1 (by omega) w1; with_reducible refine M.mono ?_; clear M; rintro e w2 ⟨rfl, rfl⟩; rw [← HV.out, ← HN.out])
      | fail)
    go_ret
    exact ⟨by rw [HE.out]; rfl, by rw [HE.out]; exact rowOf_setCell HR1.out (by rw [rdC_size]; omega) 1 _, t1.setCell 1 _⟩
  · have HE : Hid (numbF s m r = (n, (takeF s r).2)) := Hid.mk (by unfold numbF; rw [if_neg (by rw [← hn]; exact hc), ← hn])
    have c1 : ¬ (n : Int) > m := by omega
    clear hn hc
    go_enter Tryz.func121, Tryz.ntmps121
    go_wp2_with (first
      | (go_at_call 119; have M := take_f k s r (by omega) w hr; with_reducible refine M.mono ?_; clear M; rintro e w1 ⟨rfl, r1, t1⟩; have HR1 := Hid.mk r1; clear r1)
      | (go_at_call 150; have M := onumber_any (takeF s r).1 (by omega) w1; with_reducible refine M.mono ?_; clear M; rintro e w2 ⟨rfl, rfl⟩; rw [← HV.out, ← HN.out])
      | fail)
    go_ret
    exact ⟨by rw [HE.out]; rfl, by rw [HE.out]; exact HR1.out, t1⟩
theorem number2 (k m : Nat) (hm : m ≤ 1000) (r : Rd) (w : World) (hr : w.rowOf k = rdC r) :
    Calls Tryz.prog 121 #[.pointer (some ⟨k, 0, none⟩), .int .i64 2, .int .i64 (m : Int)] w fun e w' => e = .returned (.int .i64 ((numbF 2 m r).1 : Int)) ∧ w'.rowOf k = rdC (numbF 2 m r).2 ∧ Tch k w w' := number_f k 2 m (by omega) hm r w hr
theorem number1 (k m : Nat) (hm : m ≤ 1000) (r : Rd) (w : World) (hr : w.rowOf k = rdC r) :
    Calls Tryz.prog 121 #[.pointer (some ⟨k, 0, none⟩), .int .i64 1, .int .i64 (m : Int)] w fun e w' => e = .returned (.int .i64 ((numbF 1 m r).1 : Int)) ∧ w'.rowOf k = rdC (numbF 1 m r).2 ∧ Tch k w w' := number_f k 1 m (by omega) hm r w hr
theorem ru16_f (k m : Nat) (hm : m ≤ 1000) (r : Rd) (w : World) (hr : w.rowOf k = rdC r) :
    Calls Tryz.prog 83 #[.pointer (some ⟨k, 0, none⟩), .int .i64 (m : Int)] w fun e w' => e = .returned (.int .i64 ((numbF 2 m r).1 : Int)) ∧ w'.rowOf k = rdC (numbF 2 m r).2 ∧ Tch k w w' := by
  go_enter Tryz.func83, Tryz.ntmps83
  go_wp2_with (first | (go_at_call 121; have M := number2 k m hm r w hr; with_reducible refine M.mono ?_; clear M; rintro e w1 ⟨rfl, r1, t1⟩) | fail)
  go_ret
  exact ⟨rfl, r1, t1⟩
theorem rone_f (k m : Nat) (hm : m ≤ 1000) (r : Rd) (w : World) (hr : w.rowOf k = rdC r) :
    Calls Tryz.prog 120 #[.pointer (some ⟨k, 0, none⟩), .int .i64 (m : Int)] w fun e w' => e = .returned (.int .i64 ((numbF 1 m r).1 : Int)) ∧ w'.rowOf k = rdC (numbF 1 m r).2 ∧ Tch k w w' := by
  go_enter Tryz.func120, Tryz.ntmps120
  go_wp2_with (first | (go_at_call 121; have M := number1 k m hm r w hr; with_reducible refine M.mono ?_; clear M; rintro e w1 ⟨rfl, r1, t1⟩) | fail)
  go_ret
  exact ⟨rfl, r1, t1⟩
theorem rone1 (k : Nat) (r : Rd) (w : World) (hr : w.rowOf k = rdC r) :
    Calls Tryz.prog 120 #[.pointer (some ⟨k, 0, none⟩), .int .i64 1] w fun e w' => e = .returned (.int .i64 ((numbF 1 1 r).1 : Int)) ∧ w'.rowOf k = rdC (numbF 1 1 r).2 ∧ Tch k w w' := rone_f k 1 (by omega) r w hr
theorem rone32 (k : Nat) (r : Rd) (w : World) (hr : w.rowOf k = rdC r) :
    Calls Tryz.prog 120 #[.pointer (some ⟨k, 0, none⟩), .int .i64 32] w fun e w' => e = .returned (.int .i64 ((numbF 1 32 r).1 : Int)) ∧ w'.rowOf k = rdC (numbF 1 32 r).2 ∧ Tch k w w' := rone_f k 32 (by omega) r w hr
theorem ru299 (k : Nat) (r : Rd) (w : World) (hr : w.rowOf k = rdC r) :
    Calls Tryz.prog 83 #[.pointer (some ⟨k, 0, none⟩), .int .i64 299] w fun e w' => e = .returned (.int .i64 ((numbF 2 299 r).1 : Int)) ∧ w'.rowOf k = rdC (numbF 2 299 r).2 ∧ Tch k w w' := ru16_f k 299 (by omega) r w hr
theorem ru300 (k : Nat) (r : Rd) (w : World) (hr : w.rowOf k = rdC r) :
    Calls Tryz.prog 83 #[.pointer (some ⟨k, 0, none⟩), .int .i64 300] w fun e w' => e = .returned (.int .i64 ((numbF 2 300 r).1 : Int)) ∧ w'.rowOf k = rdC (numbF 2 300 r).2 ∧ Tch k w w' := ru16_f k 300 (by omega) r w hr
set_option maxHeartbeats 1000000 in
theorem rmaybe_f (k : Nat) (r : Rd) (w : World) (hr : w.rowOf k = rdC r) :
    Calls Tryz.prog 82 #[.pointer (some ⟨k, 0, none⟩)] w fun e w' => e = .returned (.string (maybeF r).1) ∧ w'.rowOf k = rdC (maybeF r).2 ∧ Tch k w w' := by
  by_cases h : (numbF 1 1 r).1 = 0
  · have HE : Hid (maybeF r = (⟨#[]⟩, (numbF 1 1 r).2)) := Hid.mk (by unfold maybeF; rw [if_pos h])
    go_enter Tryz.func82, Tryz.ntmps82
    go_wp2_with (first | (go_at_call 120; have M := rone1 k r w hr; with_reducible refine M.mono ?_; clear M; rintro e w1 ⟨rfl, r1, t1⟩; rw [h]; have HR1 := Hid.mk r1; clear r1) | fail)
    go_ret
    exact ⟨by rw [HE.out]; rfl, by rw [HE.out]; exact HR1.out, t1⟩
  · have HE : Hid (maybeF r = takeF 32 (numbF 1 1 r).2) := Hid.mk (by unfold maybeF; rw [if_neg h])
    have c : ¬ ((numbF 1 1 r).1 : Int) = 0 := by omega
    have c' : (((numbF 1 1 r).1 : Int) == 0) = false := by simp; omega
    go_enter Tryz.func82, Tryz.ntmps82
    go_wp2_with (first
      | (go_at_call 120; have M := rone1 k r w hr; with_reducible refine M.mono ?_; clear M; rintro e w1 ⟨rfl, r1, t1⟩; have HR1 := Hid.mk r1; clear r1)
      | (go_at_call 81; have M := key_f k (numbF 1 1 r).2 w1 HR1.out; with_reducible refine M.mono ?_; clear M; rintro e w2 ⟨rfl, r2, t2⟩; have HR2 := Hid.mk r2; clear r2)
      | fail)
    go_ret
    exact ⟨by rw [HE.out]; rfl, by rw [HE.out]; exact HR2.out, t1.trans t2⟩
end Go.Proofs.YteghoooelgcpkaaGreatDoor
namespace Go
open Go.RowKit
theorem tch_grow {k : Nat} {w a b : World} (h : Tch k w a) (g : Below w.heap.size a b) : Tch k w b :=
  ⟨g.os.trans h.os, g.tape.trans h.tape, g.output.trans h.output, Nat.le_trans h.size g.size, fun i hi hk => (g.block i hi).trans (h.block i hi hk)⟩
theorem owns_tch {k B e s n : Nat} {a b : World} {v : Value} {xs : List Value} (h : a.ownsRow B e s v n xs) (t : Tch k a b) (hk : k < B) : b.ownsRow B e s v n xs := by
  refine ⟨h.1, ?_⟩
  rcases h.2 with h1 | ⟨g, cap, cur, hv, hb, hg, rest⟩
  · exact Or.inl h1
  · refine Or.inr ⟨g, cap, cur, hv, hb, ?_, rest⟩
    have hlt : g < a.heap.size := (Array.getElem?_eq_some_iff.1 hg).1
    rw [t.block g hlt (by omega)]; exact hg
end Go
namespace Go.Proofs.YteghoooelgcpkaaGreatDoor
open Go.RowKit Go.Msg
set_option maxHeartbeats 2000000 in
theorem rlist_f (k m : Nat) (hm : m ≤ 200) (r : Rd) (w : World) (hr : w.rowOf k = rdC r) :
    Calls Tryz.prog 85 #[.pointer (some ⟨k, 0, none⟩), .int .i64 (m : Int)] w fun e w' => ∃ v, e = .returned v ∧ StrsAt w' v (listF m r).1 ∧ (∀ g, g < w.heap.size → Off g v) ∧ w'.rowOf k = rdC (listF m r).2 ∧ Tch k w w' := by
  have hk : k < w.heap.size := rowOf_lt (by rw [hr, rdC_size]; omega)
  have hn0 := numbF_le 1 m r
  have HL : Hid (listF m r = txtsF (numbF 1 m r).1 (numbF 1 m r).2) := Hid.mk rfl
  obtain ⟨n, hn⟩ : ∃ n, n = (numbF 1 m r).1 := ⟨_, rfl⟩
  obtain ⟨r1, hr1⟩ : ∃ r1, r1 = (numbF 1 m r).2 := ⟨_, rfl⟩
  have HN := Hid.mk hn
  have HR1 := Hid.mk hr1
  rw [← hn] at hn0
  rw [← hn, ← hr1] at HL
  clear hn hr1
  have hnn : (n : Int) ≤ 200 := by omega
  go_enter Tryz.func85, Tryz.ntmps85
  go_wp2_with (first | (go_at_call 120; have M := rone_f k m (by omega) r w hr; with_reducible refine M.mono ?_; clear M; rintro e w1 ⟨rfl, q1, t1⟩; rw [← HN.out]; rw [← HR1.out] at q1; have Q1 := Hid.mk q1; clear q1) | fail)
  go_loopw [5, 7] (fun v i wq => ∃ j : Nat, i = .int .i64 j ∧ j ≤ n ∧ Hid (wq.ownsRow w.heap.size 9 1 v j (strCells (txtsF j r1).1)) ∧ Hid (wq.rowOf k = rdC (txtsF j r1).2) ∧ Tch k w wq) (fun _ i _ => n - (intOf i).toNat)
  case atStart => exact ⟨0, rfl, by omega, Hid.mk (World.ownsRow_nil _ _ _ _), Q1, t1⟩
  case round =>
    obtain ⟨j, rfl, hj, HOW, HRW, tq⟩ := hrel
    by_cases hlt : j < n
    · have c5 : (j : Int) < n := by omega
      have jb : j ≤ 200 := by omega
      obtain ⟨p, hp⟩ : ∃ p, p = (takeF 32 (txtsF j r1).2).1 := ⟨_, rfl⟩
      have HP := Hid.mk hp
      clear hp
      go_wp2_with (first
        | (go_at_call 81; have M := key_f k (txtsF j r1).2 wr HRW.out; with_reducible refine M.mono ?_; clear M; rintro e w2 ⟨rfl, q2, t2⟩; rw [← HP.out]; have Q2 := Hid.mk q2; clear q2; have O2 := Hid.mk (owns_tch HOW.out t2 hk); have T2 := tq.trans t2; have s2 := T2.size)
        | (at_builtin; refine wpl_appendL Tryz.underlying32 iStr (by omega) (by omega) rfl _ _ rfl w.heap.size _ j (strCells (txtsF j r1).1) rfl ?_ _ ⟨w2.heap.size, 0, none⟩ 1 1 [.string p] rfl (fun _ => rfl) rfl ?_ ?_ (by omega) (by omega) ?_ ?_; (focus (exact O2.out.alloc _)); (focus (intro q u hq; rw [Addr.add_mid, Nat.zero_add]; exact rowcell (by simp [go_sem]; exact rfl) q u (by simpa using hq))); (focus (intro u hu; simp at hu; subst hu; rfl)); (focus (simp; omega)); intro v3 w3 hown3 hbel3 hsz3; have B3 := hbel3 w2 ((Below.refl _ _).alloc s2 _); have O3 := Hid.mk hown3; clear hown3 hbel3 hsz3)
        | fail)
      go_roundw
      case rel => exact ⟨j + 1, by go_num, by omega, Hid.mk (by rw [txtsF, strCells_append, ← HP.out]; exact O3.out), Hid.mk (by rw [txtsF]; show w3.rowOf k = _; rw [← Q2.out]; have := B3.block k hk; simp only [World.rowOf, this]), tch_grow T2 B3⟩
      case measure => simp [intOf]; omega
    · have c5 : ¬ (j : Int) < n := by omega
      have hjn : j = n := by omega
      subst hjn
      go_wp2
      go_ret
      exact ⟨_, rfl, by rw [HL.out]; exact StrsAt.of_owns (by rw [txtsF_len]; exact HOW.out), fun g hg => off_of_owns HOW.out hg, by rw [HL.out]; exact HRW.out, tq⟩
end Go.Proofs.YteghoooelgcpkaaGreatDoor
namespace Go
open Go.RowKit
theorem owns_off {k B e s n : Nat} {a b : World} {v : Value} {xs : List Value} (h : a.ownsRow B e s v n xs) (t : Tch k a b) (ho : OffS k v) : b.ownsRow B e s v n xs := by
  refine ⟨h.1, ?_⟩
  rcases h.2 with h1 | ⟨g, cap, cur, hv, hb, hg, rest⟩
  · exact Or.inl h1
  · refine Or.inr ⟨g, cap, cur, hv, hb, ?_, rest⟩
    have hlt : g < a.heap.size := (Array.getElem?_eq_some_iff.1 hg).1
    have hgk : g ≠ k := fun e => ho (by rw [hv, e]; rfl)
    rw [t.block g hlt hgk]; exact hg
theorem off_new {w : World} {B e s n : Nat} {v : Value} {xs : List Value} (h : w.ownsRow B e s v n xs) : OffS w.heap.size v := fun e => by
  have := (h.lt _ e).2; omega
theorem rowOf_setCell_other {w : World} {b i k : Nat} {v : Value} (h : k ≠ b) : (w.setCell ⟨b, i, none⟩ v).rowOf k = w.rowOf k := by
  have := heap_setCell_other w ⟨b, i, none⟩ k v h
  simp only [World.rowOf, this]
theorem tch_set {k i : Nat} {w a : World} (h : Tch k w a) {b : Nat} (hb : w.heap.size ≤ b) (v : Value) : Tch k w (a.setCell ⟨b, i, none⟩ v) := tch_grow h ((Below.refl _ _).setCell (p := ⟨b, i, none⟩) hb v)
theorem tch_own (b i : Nat) (a : World) (v : Value) : Tch b a (a.setCell ⟨b, i, none⟩ v) := (tch_of (Below.refl _ _) b).setCell i v
end Go
namespace Go.Proofs.YteghoooelgcpkaaGreatDoor
open Go.RowKit Go.Msg
theorem iKpS : (Tryz.prog.info? 140).map (fun i => (i.zero.map (fun z => z.cells.size), i.size, i.bytes)) = some (some 3, 3, 40) := by kernel_rfl
def kC (a : ByteArray) (n : Int) (z : ByteArray) : Array Value := #[.string a, .int .i64 n, .string z]
theorem kC_size (a : ByteArray) (n : Int) (z : ByteArray) : (kC a n z).size = 3 := rfl
section
variable {w w' : World} {b k : Nat} {a z : ByteArray} {n : Int}
theorem k3_tch (h : w.rowOf b = kC a n z) (t : Tch k w w') (hb : b ≠ k) : w'.rowOf b = kC a n z := (t.row (by rw [h, kC_size]; omega) hb).trans h
theorem k3_set0 (h : w.rowOf b = kC a n z) (v : ByteArray) : (w.setCell ⟨b, 0, none⟩ (.string v)).rowOf b = kC v n z := rowOf_setCell h (by rw [kC_size]; omega) 0 _
theorem k3_set1 (h : w.rowOf b = kC a n z) (v : Int) : (w.setCell ⟨b, 1, none⟩ (.int .i64 v)).rowOf b = kC a v z := rowOf_setCell h (by rw [kC_size]; omega) 1 _
theorem k3_c0 (h : w.rowOf b = kC a n z) : w.cell? ⟨b, 0, none⟩ = some (.string a) := rowcell h 0 _ rfl
theorem k3_c1 (h : w.rowOf b = kC a n z) : w.cell? ⟨b, 1, none⟩ = some (.int .i64 n) := rowcell h 1 _ rfl
theorem k3_c2 (h : w.rowOf b = kC a n z) : w.cell? ⟨b, 2, none⟩ = some (.string z) := rowcell h 2 _ rfl
theorem k3_z (h : w.rowOf b = kC a n z) (i : Nat) (hi : i < 3) : w.frozen? ⟨b, i, none⟩ = false := rowfz2 h i (by rw [kC_size]; exact hi)
end
set_option maxHeartbeats 4000000 in
theorem rkept_f (k : Nat) (r : Rd) (w : World) (hr : w.rowOf k = rdC r) :
    Calls Tryz.prog 84 #[.pointer (some ⟨k, 0, none⟩)] w fun e w' => ∃ v, e = .returned v ∧ KpsAt w' v (keptKF r).1 ∧ (∀ g, g < w.heap.size → Off g v) ∧ w'.rowOf k = rdC (keptKF r).2 ∧ Tch k w w' := by
  have hk : k < w.heap.size := rowOf_lt (by rw [hr, rdC_size]; omega)
  have hn0 := numbF_le 1 32 r
  have HL : Hid (keptKF r = keysF (numbF 1 32 r).1 (numbF 1 32 r).2) := Hid.mk rfl
  obtain ⟨n, hn⟩ : ∃ n, n = (numbF 1 32 r).1 := ⟨_, rfl⟩
  obtain ⟨r1, hr1⟩ : ∃ r1, r1 = (numbF 1 32 r).2 := ⟨_, rfl⟩
  have HN := Hid.mk hn
  have HR1 := Hid.mk hr1
  rw [← hn] at hn0
  rw [← hn, ← hr1] at HL
  clear hn hr1
  have hnn : (n : Int) ≤ 32 := by omega
  go_enter Tryz.func84, Tryz.ntmps84
  go_wp2_with (first | (go_at_call 120; have M := rone32 k r w hr; with_reducible refine M.mono ?_; clear M; rintro e w1 ⟨rfl, q1, t1⟩; rw [← HN.out]; rw [← HR1.out] at q1; have Q1 := Hid.mk q1; clear q1) | fail)
  go_loopw [3, 5] (fun v i wq => ∃ j : Nat, i = .int .i64 j ∧ j ≤ n ∧ Hid (wq.ownsRow w.heap.size 140 3 v j (kpCells (keysF j r1).1)) ∧ Hid (wq.rowOf k = rdC (keysF j r1).2) ∧ Tch k w wq) (fun _ i _ => n - (intOf i).toNat)
  case atStart => exact ⟨0, rfl, by omega, Hid.mk (World.ownsRow_nil _ _ _ _), Q1, t1⟩
  case round =>
    obtain ⟨j, rfl, hj, HOW, HRW, tq⟩ := hrel
    by_cases hlt : j < n
    · have c5 : (j : Int) < n := by omega
      have jb : j ≤ 200 := by omega
      have yq := tq.size
      have hkb : k ≠ wr.heap.size := by omega
      obtain ⟨p, hp⟩ : ∃ p, p = takeF 32 (keysF j r1).2 := ⟨_, rfl⟩
      obtain ⟨m, hm⟩ : ∃ m, m = numbF 2 299 p.2 := ⟨_, rfl⟩
      obtain ⟨z, hz⟩ : ∃ z, z = takeF 32 m.2 := ⟨_, rfl⟩
      have HK : Hid (keysF (j + 1) r1 = ((keysF j r1).1 ++ [⟨p.1, m.1, z.1⟩], z.2)) := Hid.mk (by rw [hz, hm, hp]; rfl)
      have HP := Hid.mk hp
      have HM := Hid.mk hm
      have HZ := Hid.mk hz
      clear hp hm hz
      have OKk : Hid (OffS k u3) := Hid.mk (offS_of_owns HOW.out hk)
      have OKb : Hid (OffS wr.heap.size u3) := Hid.mk (off_new HOW.out)
      have RA : Hid ((wr.alloc (.cells #[.string ⟨#[]⟩, .int .i64 0, .string ⟨#[]⟩] 140)).rowOf k = rdC (keysF j r1).2) := Hid.mk (by rw [below_row (by_alloc wr _) (by rw [HRW.out, rdC_size]; omega)]; exact HRW.out)
      have RB : Hid ((wr.alloc (.cells #[.string ⟨#[]⟩, .int .i64 0, .string ⟨#[]⟩] 140)).rowOf wr.heap.size = kC ⟨#[]⟩ 0 ⟨#[]⟩) := Hid.mk (by simp [go_sem]; rfl)
      have OA : Hid ((wr.alloc (.cells #[.string ⟨#[]⟩, .int .i64 0, .string ⟨#[]⟩] 140)).ownsRow w.heap.size 140 3 u3 j (kpCells (keysF j r1).1)) := Hid.mk (HOW.out.alloc _)
      have TA : Tch k w (wr.alloc (.cells #[.string ⟨#[]⟩, .int .i64 0, .string ⟨#[]⟩] 140)) := tch_grow tq ((Below.refl _ _).alloc yq _)
      go_wp2_with (first
        | (go_at_call 81; have M := key_f k (keysF j r1).2 (wr.alloc (.cells #[.string ⟨#[]⟩, .int .i64 0, .string ⟨#[]⟩] 140)) RA.out; with_reducible refine M.mono ?_; clear M; rintro e w2 ⟨rfl, q2, t2⟩; rw [← HP.out] at q2 ⊢; have Q2 := Hid.mk q2; clear q2; have RB2 := Hid.mk (k3_tch RB.out t2 (Ne.symm hkb)); have f2 := k3_c0 RB2.out; have z2 := k3_z RB2.out 0 (by omega); have O2 := Hid.mk (owns_off OA.out t2 OKk.out); have T2 := TA.trans t2)
        | (go_at_call 83; have M := ru299 k p.2 (w2.setCell ⟨wr.heap.size, 0, none⟩ (.string p.1)) (by rw [rowOf_setCell_other hkb]; exact Q2.out); with_reducible refine M.mono ?_; clear M; rintro e w3 ⟨rfl, q3, t3⟩; rw [← HM.out] at q3 ⊢; have Q3 := Hid.mk q3; clear q3; have RB3 := Hid.mk (k3_tch (k3_set0 RB2.out p.1) t3 (Ne.symm hkb)); have f3 := k3_c1 RB3.out; have z3 := k3_z RB3.out 1 (by omega); have O3 := Hid.mk (owns_off (owns_off O2.out (tch_own wr.heap.size 0 w2 (.string p.1)) OKb.out) t3 OKk.out); have T3 := (tch_set (i := 0) T2 yq (.string p.1)).trans t3)
        | (go_at_call 81; have M := key_f k m.2 (w3.setCell ⟨wr.heap.size, 1, none⟩ (.int .i64 (m.1 : Int))) (by rw [rowOf_setCell_other hkb]; exact Q3.out); with_reducible refine M.mono ?_; clear M; rintro e w4 ⟨rfl, q4, t4⟩; rw [← HZ.out] at q4 ⊢; have Q4 := Hid.mk q4; clear q4; have RB4 := Hid.mk (k3_tch (k3_set1 RB3.out (m.1 : Int)) t4 (Ne.symm hkb)); have f40 := k3_c0 RB4.out; have f41 := k3_c1 RB4.out; have f42 := k3_c2 RB4.out; have z4 := k3_z RB4.out 2 (by omega); have O4 := Hid.mk (owns_off (owns_off O3.out (tch_own wr.heap.size 1 w3 (.int .i64 (m.1 : Int))) OKb.out) t4 OKk.out); have T4 := (tch_set (i := 1) T3 yq (.int .i64 (m.1 : Int))).trans t4; have T5 := tch_set (i := 2) T4 yq (.string z.1); have O5 := Hid.mk (owns_off O4.out (tch_own wr.heap.size 2 w4 (.string z.1)) OKb.out); have s5 := T4.size)
        | (at_builtin; refine wpl_appendL Tryz.underlying80 iKpS (by omega) (by omega) rfl _ _ rfl w.heap.size _ j (kpCells (keysF j r1).1) rfl ?_ _ ⟨w4.heap.size, 0, none⟩ 1 1 [.string p.1, .int .i64 (m.1 : Int), .string z.1] rfl (fun _ => rfl) rfl ?_ ?_ (by omega) (by omega) ?_ ?_; (focus (exact O5.out.alloc _)); (focus (intro q u hq; rw [Addr.add_mid, Nat.zero_add]; exact rowcell (by simp [go_sem]; exact rfl) q u (by simpa using hq))); (focus (intro u hu; simp at hu; rcases hu with rfl | rfl | rfl <;> rfl)); (focus (simp; omega)); intro v6 w6 hown6 hbel6 hsz6; have B6 := hbel6 (w4.setCell ⟨wr.heap.size, 2, none⟩ (.string z.1)) ((Below.refl _ _).alloc (by simpa using s5) _); have O6 := Hid.mk hown6; clear hown6 hbel6 hsz6)
        | fail)
      go_roundw
      case rel => exact ⟨j + 1, by go_num, by omega, Hid.mk (by rw [HK.out, kpCells_append]; exact O6.out), Hid.mk (by rw [HK.out]; show w6.rowOf k = rdC z.2; rw [← Q4.out, ← rowOf_setCell_other (w := w4) (i := 2) (v := .string z.1) hkb]; have := B6.block k hk; simp only [World.rowOf, this]), tch_grow T5 B6⟩
      case measure => simp [intOf]; omega
    · have c5 : ¬ (j : Int) < n := by omega
      have hjn : j = n := by omega
      subst hjn
      go_wp2
      go_ret
      exact ⟨_, rfl, by rw [HL.out]; exact KpsAt.of_owns (by rw [keysF_len]; exact HOW.out), fun g hg => off_of_owns HOW.out hg, by rw [HL.out]; exact HRW.out, tq⟩
end Go.Proofs.YteghoooelgcpkaaGreatDoor
namespace Go.Msg
open Go.RowKit Go.Proofs.YteghoooelgcpkaaGreatDoor
def sesF (r : Rd) : Sd × Rd :=
  let a0 := markF sRS r
  let a1 := takeF 32 a0
  let a2 := takeF 32 a1.2
  let a3 := maybeF a2.2
  let a4 := maybeF a3.2
  let a5 := maybeF a4.2
  let a6 := numbF 2 300 a5.2
  let a7 := numbF 2 300 a6.2
  let a8 := numbF 2 300 a7.2
  let a9 := keptKF a8.2
  let aA := listF 24 a9.2
  let aB := listF 8 aA.2
  (⟨a1.1, a2.1, a3.1, a4.1, a5.1, a6.1, a7.1, a8.1, a9.1, aA.1, aB.1⟩, aB.2)
end Go.Msg
namespace Go.Proofs.YteghoooelgcpkaaGreatDoor
open Go.RowKit Go.Msg
def sC (root self theirs send read : ByteArray) (ns nr pn : Int) (vK vP vD : Value) : Array Value := #[.string root, .string self, .string theirs, .string send, .string read, .int .i64 ns, .int .i64 nr, .int .i64 pn, vK, vP, vD]
section
variable {w w' : World} {b k : Nat} {root self theirs send read : ByteArray} {ns nr pn : Int} {vK vP vD : Value}
theorem sC_size : (sC root self theirs send read ns nr pn vK vP vD).size = 11 := rfl
theorem s_tch (h : w.rowOf b = sC root self theirs send read ns nr pn vK vP vD) (t : Tch k w w') (hb : b ≠ k) : w'.rowOf b = sC root self theirs send read ns nr pn vK vP vD := (t.row (by rw [h, sC_size]; omega) hb).trans h
theorem s_z (h : w.rowOf b = sC root self theirs send read ns nr pn vK vP vD) (i : Nat) (hi : i < 11) : w.frozen? ⟨b, i, none⟩ = false := rowfz2 h i (by rw [sC_size]; exact hi)
theorem s_set0 (h : w.rowOf b = sC root self theirs send read ns nr pn vK vP vD) (u : ByteArray) : (w.setCell ⟨b, 0, none⟩ (.string u)).rowOf b = sC u self theirs send read ns nr pn vK vP vD := rowOf_setCell h (by rw [sC_size]; omega) 0 _
theorem s_c0 (h : w.rowOf b = sC root self theirs send read ns nr pn vK vP vD) : w.cell? ⟨b, 0, none⟩ = some (.string root) := rowcell h 0 _ rfl
theorem s_set1 (h : w.rowOf b = sC root self theirs send read ns nr pn vK vP vD) (u : ByteArray) : (w.setCell ⟨b, 1, none⟩ (.string u)).rowOf b = sC root u theirs send read ns nr pn vK vP vD := rowOf_setCell h (by rw [sC_size]; omega) 1 _
theorem s_c1 (h : w.rowOf b = sC root self theirs send read ns nr pn vK vP vD) : w.cell? ⟨b, 1, none⟩ = some (.string self) := rowcell h 1 _ rfl
theorem s_set2 (h : w.rowOf b = sC root self theirs send read ns nr pn vK vP vD) (u : ByteArray) : (w.setCell ⟨b, 2, none⟩ (.string u)).rowOf b = sC root self u send read ns nr pn vK vP vD := rowOf_setCell h (by rw [sC_size]; omega) 2 _
theorem s_c2 (h : w.rowOf b = sC root self theirs send read ns nr pn vK vP vD) : w.cell? ⟨b, 2, none⟩ = some (.string theirs) := rowcell h 2 _ rfl
theorem s_set3 (h : w.rowOf b = sC root self theirs send read ns nr pn vK vP vD) (u : ByteArray) : (w.setCell ⟨b, 3, none⟩ (.string u)).rowOf b = sC root self theirs u read ns nr pn vK vP vD := rowOf_setCell h (by rw [sC_size]; omega) 3 _
theorem s_c3 (h : w.rowOf b = sC root self theirs send read ns nr pn vK vP vD) : w.cell? ⟨b, 3, none⟩ = some (.string send) := rowcell h 3 _ rfl
theorem s_set4 (h : w.rowOf b = sC root self theirs send read ns nr pn vK vP vD) (u : ByteArray) : (w.setCell ⟨b, 4, none⟩ (.string u)).rowOf b = sC root self theirs send u ns nr pn vK vP vD := rowOf_setCell h (by rw [sC_size]; omega) 4 _
theorem s_c4 (h : w.rowOf b = sC root self theirs send read ns nr pn vK vP vD) : w.cell? ⟨b, 4, none⟩ = some (.string read) := rowcell h 4 _ rfl
theorem s_set5 (h : w.rowOf b = sC root self theirs send read ns nr pn vK vP vD) (u : Int) : (w.setCell ⟨b, 5, none⟩ (.int .i64 u)).rowOf b = sC root self theirs send read u nr pn vK vP vD := rowOf_setCell h (by rw [sC_size]; omega) 5 _
theorem s_c5 (h : w.rowOf b = sC root self theirs send read ns nr pn vK vP vD) : w.cell? ⟨b, 5, none⟩ = some (.int .i64 ns) := rowcell h 5 _ rfl
theorem s_set6 (h : w.rowOf b = sC root self theirs send read ns nr pn vK vP vD) (u : Int) : (w.setCell ⟨b, 6, none⟩ (.int .i64 u)).rowOf b = sC root self theirs send read ns u pn vK vP vD := rowOf_setCell h (by rw [sC_size]; omega) 6 _
theorem s_c6 (h : w.rowOf b = sC root self theirs send read ns nr pn vK vP vD) : w.cell? ⟨b, 6, none⟩ = some (.int .i64 nr) := rowcell h 6 _ rfl
theorem s_set7 (h : w.rowOf b = sC root self theirs send read ns nr pn vK vP vD) (u : Int) : (w.setCell ⟨b, 7, none⟩ (.int .i64 u)).rowOf b = sC root self theirs send read ns nr u vK vP vD := rowOf_setCell h (by rw [sC_size]; omega) 7 _
theorem s_c7 (h : w.rowOf b = sC root self theirs send read ns nr pn vK vP vD) : w.cell? ⟨b, 7, none⟩ = some (.int .i64 pn) := rowcell h 7 _ rfl
theorem s_set8 (h : w.rowOf b = sC root self theirs send read ns nr pn vK vP vD) (u : Value) : (w.setCell ⟨b, 8, none⟩ u).rowOf b = sC root self theirs send read ns nr pn u vP vD := rowOf_setCell h (by rw [sC_size]; omega) 8 _
theorem s_c8 (h : w.rowOf b = sC root self theirs send read ns nr pn vK vP vD) : w.cell? ⟨b, 8, none⟩ = some vK := rowcell h 8 _ rfl
theorem s_set9 (h : w.rowOf b = sC root self theirs send read ns nr pn vK vP vD) (u : Value) : (w.setCell ⟨b, 9, none⟩ u).rowOf b = sC root self theirs send read ns nr pn vK u vD := rowOf_setCell h (by rw [sC_size]; omega) 9 _
theorem s_c9 (h : w.rowOf b = sC root self theirs send read ns nr pn vK vP vD) : w.cell? ⟨b, 9, none⟩ = some vP := rowcell h 9 _ rfl
theorem s_set10 (h : w.rowOf b = sC root self theirs send read ns nr pn vK vP vD) (u : Value) : (w.setCell ⟨b, 10, none⟩ u).rowOf b = sC root self theirs send read ns nr pn vK vP u := rowOf_setCell h (by rw [sC_size]; omega) 10 _
theorem s_c10 (h : w.rowOf b = sC root self theirs send read ns nr pn vK vP vD) : w.cell? ⟨b, 10, none⟩ = some vD := rowcell h 10 _ rfl
end
theorem rlist24 (k : Nat) (r : Rd) (w : World) (hr : w.rowOf k = rdC r) :
    Calls Tryz.prog 85 #[.pointer (some ⟨k, 0, none⟩), .int .i64 24] w fun e w' => ∃ v, e = .returned v ∧ StrsAt w' v (listF 24 r).1 ∧ (∀ g, g < w.heap.size → Off g v) ∧ w'.rowOf k = rdC (listF 24 r).2 ∧ Tch k w w' := rlist_f k 24 (by omega) r w hr
theorem rlist8 (k : Nat) (r : Rd) (w : World) (hr : w.rowOf k = rdC r) :
    Calls Tryz.prog 85 #[.pointer (some ⟨k, 0, none⟩), .int .i64 8] w fun e w' => ∃ v, e = .returned v ∧ StrsAt w' v (listF 8 r).1 ∧ (∀ g, g < w.heap.size → Off g v) ∧ w'.rowOf k = rdC (listF 8 r).2 ∧ Tch k w w' := rlist_f k 8 (by omega) r w hr
set_option maxRecDepth 4000 in
set_option maxHeartbeats 8000000 in
theorem rsession_f (k : Nat) (r : Rd) (w : World) (hr : w.rowOf k = rdC r) :
    Calls Tryz.prog 48 #[.pointer (some ⟨k, 0, none⟩)] w fun e w' => ∃ vK vP vD, e = .returned (.pointer (some ⟨w.heap.size, 0, none⟩)) ∧ SesAt w' w.heap.size (sesF r).1 vK vP vD ∧ (∀ g, g ≤ w.heap.size → Offs g vK vP vD) ∧ w'.rowOf k = rdC (sesF r).2 ∧ Tch k w w' := by
  have hk : k < w.heap.size := rowOf_lt (by rw [hr, rdC_size]; omega)
  have hkb : k ≠ w.heap.size := by omega
  obtain ⟨a0, h0⟩ : ∃ a, a = markF sRS r := ⟨_, rfl⟩
  obtain ⟨a1, h1⟩ : ∃ a, a = takeF 32 a0 := ⟨_, rfl⟩
  obtain ⟨a2, h2⟩ : ∃ a, a = takeF 32 a1.2 := ⟨_, rfl⟩
  obtain ⟨a3, h3⟩ : ∃ a, a = maybeF a2.2 := ⟨_, rfl⟩
  obtain ⟨a4, h4⟩ : ∃ a, a = maybeF a3.2 := ⟨_, rfl⟩
  obtain ⟨a5, h5⟩ : ∃ a, a = maybeF a4.2 := ⟨_, rfl⟩
  obtain ⟨a6, h6⟩ : ∃ a, a = numbF 2 300 a5.2 := ⟨_, rfl⟩
  obtain ⟨a7, h7⟩ : ∃ a, a = numbF 2 300 a6.2 := ⟨_, rfl⟩
  obtain ⟨a8, h8⟩ : ∃ a, a = numbF 2 300 a7.2 := ⟨_, rfl⟩
  obtain ⟨a9, h9⟩ : ∃ a, a = keptKF a8.2 := ⟨_, rfl⟩
  obtain ⟨a10, h10⟩ : ∃ a, a = listF 24 a9.2 := ⟨_, rfl⟩
  obtain ⟨a11, h11⟩ : ∃ a, a = listF 8 a10.2 := ⟨_, rfl⟩
  have HF : Hid (sesF r = (⟨a1.1, a2.1, a3.1, a4.1, a5.1, a6.1, a7.1, a8.1, a9.1, a10.1, a11.1⟩, a11.2)) := Hid.mk (by rw [h11, h10, h9, h8, h7, h6, h5, h4, h3, h2, h1, h0]; rfl)
  have H0 := Hid.mk h0
  have H1 := Hid.mk h1
  have H2 := Hid.mk h2
  have H3 := Hid.mk h3
  have H4 := Hid.mk h4
  have H5 := Hid.mk h5
  have H6 := Hid.mk h6
  have H7 := Hid.mk h7
  have H8 := Hid.mk h8
  have H9 := Hid.mk h9
  have H10 := Hid.mk h10
  have H11 := Hid.mk h11
  clear h0 h1 h2 h3 h4 h5 h6 h7 h8 h9 h10 h11
  have RA : Hid ((w.alloc (.cells #[.string ⟨#[]⟩, .string ⟨#[]⟩, .string ⟨#[]⟩, .string ⟨#[]⟩, .string ⟨#[]⟩, .int .i64 0, .int .i64 0, .int .i64 0, .slice none 0 0, .slice none 0 0, .slice none 0 0] 82)).rowOf k = rdC r) := Hid.mk (by rw [below_row (by_alloc w _) (by rw [hr, rdC_size]; omega)]; exact hr)
  have RB : Hid ((w.alloc (.cells #[.string ⟨#[]⟩, .string ⟨#[]⟩, .string ⟨#[]⟩, .string ⟨#[]⟩, .string ⟨#[]⟩, .int .i64 0, .int .i64 0, .int .i64 0, .slice none 0 0, .slice none 0 0, .slice none 0 0] 82)).rowOf w.heap.size = sC ⟨#[]⟩ ⟨#[]⟩ ⟨#[]⟩ ⟨#[]⟩ ⟨#[]⟩ 0 0 0 nilS nilS nilS) := Hid.mk (by simp [go_sem]; rfl)
  have TA : Tch k w (w.alloc (.cells #[.string ⟨#[]⟩, .string ⟨#[]⟩, .string ⟨#[]⟩, .string ⟨#[]⟩, .string ⟨#[]⟩, .int .i64 0, .int .i64 0, .int .i64 0, .slice none 0 0, .slice none 0 0, .slice none 0 0] 82)) := tch_of (by_alloc w _) k
  have ys : w.heap.size < (w.alloc (.cells #[.string ⟨#[]⟩, .string ⟨#[]⟩, .string ⟨#[]⟩, .string ⟨#[]⟩, .string ⟨#[]⟩, .int .i64 0, .int .i64 0, .int .i64 0, .slice none 0 0, .slice none 0 0, .slice none 0 0] 82)).heap.size := by simp
  clear hr
  go_enter Tryz.func48, Tryz.ntmps48
  go_wp2_with (first
    | (go_at_call 80; have M := mark_f k r (w.alloc (.cells #[.string ⟨#[]⟩, .string ⟨#[]⟩, .string ⟨#[]⟩, .string ⟨#[]⟩, .string ⟨#[]⟩, .int .i64 0, .int .i64 0, .int .i64 0, .slice none 0 0, .slice none 0 0, .slice none 0 0] 82)) RA.out; with_reducible refine M.mono ?_; clear M; rintro e w0 ⟨rfl, q0, t0⟩; rw [← H0.out] at q0; have Q0 := Hid.mk q0; clear q0; have RB0 := Hid.mk (s_tch RB.out t0 (Ne.symm hkb)); have T0 := TA.trans t0; have y0 : w.heap.size < w0.heap.size := Nat.lt_of_lt_of_le ys t0.size)
    | (go_at_call 81; have M := key_f k a0 w0 Q0.out; with_reducible refine M.mono ?_; clear M; rintro e w1 ⟨rfl, q1, t1⟩; rw [← H1.out] at q1 ⊢; have Q1 := Hid.mk q1; clear q1; have RB1 := Hid.mk (s_tch RB0.out t1 (Ne.symm hkb)); have T1 := T0.trans t1; have y1 : w.heap.size < w1.heap.size := Nat.lt_of_lt_of_le y0 t1.size; have f1 := s_c0 RB1.out; have z1 := s_z RB1.out 0 (by omega))
    | (go_at_call 81; have M := key_f k a1.2 (w1.setCell ⟨w.heap.size, 0, none⟩ (.string a1.1)) (by rw [rowOf_setCell_other hkb]; exact Q1.out); with_reducible refine M.mono ?_; clear M; rintro e w2 ⟨rfl, q2, t2⟩; rw [← H2.out] at q2 ⊢; have Q2 := Hid.mk q2; clear q2; have RB2 := Hid.mk (s_tch (s_set0 RB1.out a1.1) t2 (Ne.symm hkb)); have T2 := (tch_set (i := 0) T1 (Nat.le_refl _) (.string a1.1)).trans t2; have y2 : w.heap.size < w2.heap.size := Nat.lt_of_lt_of_le (by rw [World.size_setCell]; exact y1) t2.size; have f2 := s_c1 RB2.out; have z2 := s_z RB2.out 1 (by omega))
    | (go_at_call 82; have M := rmaybe_f k a2.2 (w2.setCell ⟨w.heap.size, 1, none⟩ (.string a2.1)) (by rw [rowOf_setCell_other hkb]; exact Q2.out); with_reducible refine M.mono ?_; clear M; rintro e w3 ⟨rfl, q3, t3⟩; rw [← H3.out] at q3 ⊢; have Q3 := Hid.mk q3; clear q3; have RB3 := Hid.mk (s_tch (s_set1 RB2.out a2.1) t3 (Ne.symm hkb)); have T3 := (tch_set (i := 1) T2 (Nat.le_refl _) (.string a2.1)).trans t3; have y3 : w.heap.size < w3.heap.size := Nat.lt_of_lt_of_le (by rw [World.size_setCell]; exact y2) t3.size; have f3 := s_c2 RB3.out; have z3 := s_z RB3.out 2 (by omega))
    | (go_at_call 82; have M := rmaybe_f k a3.2 (w3.setCell ⟨w.heap.size, 2, none⟩ (.string a3.1)) (by rw [rowOf_setCell_other hkb]; exact Q3.out); with_reducible refine M.mono ?_; clear M; rintro e w4 ⟨rfl, q4, t4⟩; rw [← H4.out] at q4 ⊢; have Q4 := Hid.mk q4; clear q4; have RB4 := Hid.mk (s_tch (s_set2 RB3.out a3.1) t4 (Ne.symm hkb)); have T4 := (tch_set (i := 2) T3 (Nat.le_refl _) (.string a3.1)).trans t4; have y4 : w.heap.size < w4.heap.size := Nat.lt_of_lt_of_le (by rw [World.size_setCell]; exact y3) t4.size; have f4 := s_c3 RB4.out; have z4 := s_z RB4.out 3 (by omega))
    | (go_at_call 82; have M := rmaybe_f k a4.2 (w4.setCell ⟨w.heap.size, 3, none⟩ (.string a4.1)) (by rw [rowOf_setCell_other hkb]; exact Q4.out); with_reducible refine M.mono ?_; clear M; rintro e w5 ⟨rfl, q5, t5⟩; rw [← H5.out] at q5 ⊢; have Q5 := Hid.mk q5; clear q5; have RB5 := Hid.mk (s_tch (s_set3 RB4.out a4.1) t5 (Ne.symm hkb)); have T5 := (tch_set (i := 3) T4 (Nat.le_refl _) (.string a4.1)).trans t5; have y5 : w.heap.size < w5.heap.size := Nat.lt_of_lt_of_le (by rw [World.size_setCell]; exact y4) t5.size; have f5 := s_c4 RB5.out; have z5 := s_z RB5.out 4 (by omega))
    | (go_at_call 83; have M := ru300 k a5.2 (w5.setCell ⟨w.heap.size, 4, none⟩ (.string a5.1)) (by rw [rowOf_setCell_other hkb]; exact Q5.out); with_reducible refine M.mono ?_; clear M; rintro e w6 ⟨rfl, q6, t6⟩; rw [← H6.out] at q6 ⊢; have Q6 := Hid.mk q6; clear q6; have RB6 := Hid.mk (s_tch (s_set4 RB5.out a5.1) t6 (Ne.symm hkb)); have T6 := (tch_set (i := 4) T5 (Nat.le_refl _) (.string a5.1)).trans t6; have y6 : w.heap.size < w6.heap.size := Nat.lt_of_lt_of_le (by rw [World.size_setCell]; exact y5) t6.size; have f6 := s_c5 RB6.out; have z6 := s_z RB6.out 5 (by omega))
    | (go_at_call 83; have M := ru300 k a6.2 (w6.setCell ⟨w.heap.size, 5, none⟩ (.int .i64 (a6.1 : Int))) (by rw [rowOf_setCell_other hkb]; exact Q6.out); with_reducible refine M.mono ?_; clear M; rintro e w7 ⟨rfl, q7, t7⟩; rw [← H7.out] at q7 ⊢; have Q7 := Hid.mk q7; clear q7; have RB7 := Hid.mk (s_tch (s_set5 RB6.out (a6.1 : Int)) t7 (Ne.symm hkb)); have T7 := (tch_set (i := 5) T6 (Nat.le_refl _) (.int .i64 (a6.1 : Int))).trans t7; have y7 : w.heap.size < w7.heap.size := Nat.lt_of_lt_of_le (by rw [World.size_setCell]; exact y6) t7.size; have f7 := s_c6 RB7.out; have z7 := s_z RB7.out 6 (by omega))
    | (go_at_call 83; have M := ru300 k a7.2 (w7.setCell ⟨w.heap.size, 6, none⟩ (.int .i64 (a7.1 : Int))) (by rw [rowOf_setCell_other hkb]; exact Q7.out); with_reducible refine M.mono ?_; clear M; rintro e w8 ⟨rfl, q8, t8⟩; rw [← H8.out] at q8 ⊢; have Q8 := Hid.mk q8; clear q8; have RB8 := Hid.mk (s_tch (s_set6 RB7.out (a7.1 : Int)) t8 (Ne.symm hkb)); have T8 := (tch_set (i := 6) T7 (Nat.le_refl _) (.int .i64 (a7.1 : Int))).trans t8; have y8 : w.heap.size < w8.heap.size := Nat.lt_of_lt_of_le (by rw [World.size_setCell]; exact y7) t8.size; have f8 := s_c7 RB8.out; have z8 := s_z RB8.out 7 (by omega))
    | (go_at_call 84; have M := rkept_f k a8.2 (w8.setCell ⟨w.heap.size, 7, none⟩ (.int .i64 (a8.1 : Int))) (by rw [rowOf_setCell_other hkb]; exact Q8.out); with_reducible refine M.mono ?_; clear M; rintro e w9 ⟨v9, rfl, l9, o9, q9, t9⟩; rw [← H9.out] at q9 l9; have L9 := Hid.mk l9; have O9 := Hid.mk o9; clear o9; obtain ⟨aa9, mm9, cc9, ee9⟩ := l9.slice; clear l9; have Q9 := Hid.mk q9; clear q9; have RB9 := Hid.mk (s_tch (s_set7 RB8.out (a8.1 : Int)) t9 (Ne.symm hkb)); have T9 := (tch_set (i := 7) T8 (Nat.le_refl _) (.int .i64 (a8.1 : Int))).trans t9; have y9 : w.heap.size < w9.heap.size := Nat.lt_of_lt_of_le (by rw [World.size_setCell]; exact y8) t9.size; have f9 := s_c8 RB9.out; have z9 := s_z RB9.out 8 (by omega); subst ee9)
    | (go_at_call 85; have M := rlist24 k a9.2 (w9.setCell ⟨w.heap.size, 8, none⟩ (.slice aa9 mm9 cc9)) (by rw [rowOf_setCell_other hkb]; exact Q9.out); with_reducible refine M.mono ?_; clear M; rintro e w10 ⟨v10, rfl, l10, o10, q10, t10⟩; rw [← H10.out] at q10 l10; have L10 := Hid.mk l10; have O10 := Hid.mk o10; clear o10; obtain ⟨aa10, mm10, cc10, ee10⟩ := l10.slice; clear l10; have Q10 := Hid.mk q10; clear q10; have RB10 := Hid.mk (s_tch (s_set8 RB9.out (.slice aa9 mm9 cc9)) t10 (Ne.symm hkb)); have T10 := (tch_set (i := 8) T9 (Nat.le_refl _) (.slice aa9 mm9 cc9)).trans t10; have y10 : w.heap.size < w10.heap.size := Nat.lt_of_lt_of_le (by rw [World.size_setCell]; exact y9) t10.size; have f10 := s_c9 RB10.out; have z10 := s_z RB10.out 9 (by omega); subst ee10)
    | (go_at_call 85; have M := rlist8 k a10.2 (w10.setCell ⟨w.heap.size, 9, none⟩ (.slice aa10 mm10 cc10)) (by rw [rowOf_setCell_other hkb]; exact Q10.out); with_reducible refine M.mono ?_; clear M; rintro e w11 ⟨v11, rfl, l11, o11, q11, t11⟩; rw [← H11.out] at q11 l11; have L11 := Hid.mk l11; have O11 := Hid.mk o11; clear o11; obtain ⟨aa11, mm11, cc11, ee11⟩ := l11.slice; clear l11; have Q11 := Hid.mk q11; clear q11; have RB11 := Hid.mk (s_tch (s_set9 RB10.out (.slice aa10 mm10 cc10)) t11 (Ne.symm hkb)); have T11 := (tch_set (i := 9) T10 (Nat.le_refl _) (.slice aa10 mm10 cc10)).trans t11; have y11 : w.heap.size < w11.heap.size := Nat.lt_of_lt_of_le (by rw [World.size_setCell]; exact y10) t11.size; have f11 := s_c10 RB11.out; have z11 := s_z RB11.out 10 (by omega); subst ee11)
    | fail)
  go_ret
  have OS9 : ∀ g, g ≤ w.heap.size → Off g (.slice aa9 mm9 cc9) := fun g hg => O9.out g (by rw [World.size_setCell]; omega)
  have OS10 : ∀ g, g ≤ w.heap.size → Off g (.slice aa10 mm10 cc10) := fun g hg => O10.out g (by rw [World.size_setCell]; omega)
  have OS11 : ∀ g, g ≤ w.heap.size → Off g (.slice aa11 mm11 cc11) := fun g hg => O11.out g (by rw [World.size_setCell]; omega)
  have K1 := (L9.out.tch (tch_own w.heap.size 8 w9 (.slice aa9 mm9 cc9)) (OS9 _ (Nat.le_refl _))).tch t10 (OS9 k (by omega))
  have K2 := (K1.tch (tch_own w.heap.size 9 w10 (.slice aa10 mm10 cc10)) (OS9 _ (Nat.le_refl _))).tch t11 (OS9 k (by omega))
  have K3 := K2.tch (tch_own w.heap.size 10 w11 (.slice aa11 mm11 cc11)) (OS9 _ (Nat.le_refl _))
  have P2 := (L10.out.tch (tch_own w.heap.size 9 w10 (.slice aa10 mm10 cc10)) (OS10 _ (Nat.le_refl _))).tch t11 (OS10 k (by omega))
  have P3 := P2.tch (tch_own w.heap.size 10 w11 (.slice aa11 mm11 cc11)) (OS10 _ (Nat.le_refl _))
  have D3 := L11.out.tch (tch_own w.heap.size 10 w11 (.slice aa11 mm11 cc11)) (OS11 _ (Nat.le_refl _))
  refine ⟨.slice aa9 mm9 cc9, .slice aa10 mm10 cc10, .slice aa11 mm11 cc11, rfl, ?_, fun g hg => ⟨OS9 g hg, OS10 g hg, OS11 g hg⟩, ?_, tch_set (i := 10) T11 (Nat.le_refl _) _⟩
  · rw [HF.out]; exact ⟨s_set10 RB11.out _, K3, P3, D3⟩
  · rw [HF.out]; exact (rowOf_setCell_other hkb).trans Q11.out
theorem rd_c0 {w : World} {k : Nat} {r : Rd} (h : w.rowOf k = rdC r) : w.cell? ⟨k, 0, none⟩ = some (.string r.rest) := rowcell h 0 _ rfl
theorem rd_c1 {w : World} {k : Nat} {r : Rd} (h : w.rowOf k = rdC r) : w.cell? ⟨k, 1, none⟩ = some (.bool r.bad) := rowcell h 1 _ rfl
theorem ses_c2 {w : World} {g : Nat} {x : Sd} {vK vP vD : Value} (h : SesAt w g x vK vP vD) : w.cell? ⟨g, 2, none⟩ = some (.string x.theirs) := rowcell h.row 2 _ rfl
theorem ses_c4 {w : World} {g : Nat} {x : Sd} {vK vP vD : Value} (h : SesAt w g x vK vP vD) : w.cell? ⟨g, 4, none⟩ = some (.string x.read) := rowcell h.row 4 _ rfl
theorem below_tch {w a b : World} (h : Below w.heap.size w a) (t : Tch w.heap.size a b) : Below w.heap.size w b :=
  ⟨t.os.trans h.os, t.tape.trans h.tape, t.output.trans h.output, Nat.le_trans h.size t.size, fun i hi => (t.block i (Nat.lt_of_lt_of_le hi h.size) (by omega)).trans (h.block i hi)⟩
def importOk (s : ByteArray) : Prop := (sesF ⟨s, false⟩).2.bad = false ∧ (sesF ⟨s, false⟩).2.rest = ⟨#[]⟩ ∧ ((sesF ⟨s, false⟩).1.read = ⟨#[]⟩ ∨ (sesF ⟨s, false⟩).1.theirs ≠ ⟨#[]⟩)
set_option maxHeartbeats 2000000 in
theorem import_f (s : ByteArray) (w : World) :
    Calls Tryz.prog 27 #[.string s] w fun e w' =>
      ((¬ importOk s ∧ e = .returned (.tuple #[.pointer none, .int .i64 5])) ∨ (importOk s ∧ ∃ g vK vP vD, w.heap.size ≤ g ∧ e = .returned (.tuple #[.pointer (some ⟨g, 0, none⟩), .int .i64 0]) ∧ SesAt w' g (sesF ⟨s, false⟩).1 vK vP vD ∧ (∀ h, h ≤ g → Offs h vK vP vD))) ∧ Below w.heap.size w w' := by
  obtain ⟨x, hx⟩ : ∃ x, x = sesF ⟨s, false⟩ := ⟨_, rfl⟩
  have HO : Hid (importOk s ↔ x.2.bad = false ∧ x.2.rest = ⟨#[]⟩ ∧ (x.1.read = ⟨#[]⟩ ∨ x.1.theirs ≠ ⟨#[]⟩)) := Hid.mk (by rw [hx]; exact Iff.rfl)
  have HX := Hid.mk hx
  rw [← hx]
  clear hx
  have RA : Hid ((w.alloc (.cells #[.string s, .bool false] 78)).rowOf w.heap.size = rdC ⟨s, false⟩) := Hid.mk (by simp [go_sem]; rfl)
  have yz : (w.alloc (.cells #[.string s, .bool false] 78)).heap.size = w.heap.size + 1 := by simp
  have B0 : Below w.heap.size w (w.alloc (.cells #[.string s, .bool false] 78)) := by_alloc w _
  cases hb0 : x.2.bad with
  | true =>
    have hb := Hid.mk hb0
    clear hb0
    go_enter Tryz.func27, Tryz.ntmps27
    go_wp2_with (first | (go_at_call 48; have M := rsession_f w.heap.size ⟨s, false⟩ (w.alloc (.cells #[.string s, .bool false] 78)) RA.out; rw [yz] at M; with_reducible refine M.mono ?_; clear M; rintro e w1 ⟨vK, vP, vD, rfl, S1, O1, q1, t1⟩; rw [← HX.out] at S1 q1; have f0 := rd_c0 q1; have f1 := rd_c1 q1; have f2 := ses_c2 S1; have f4 := ses_c4 S1; have HS1 := Hid.mk S1; have HO1 := Hid.mk O1; clear S1 O1 q1; rw [hb.out] at f1) | fail)
    go_ret2
    exact ⟨Or.inl ⟨fun h => Bool.noConfusion (hb.out.symm.trans (HO.out.1 h).1), rfl⟩, below_tch B0 t1⟩
  | false =>
    have hb := Hid.mk hb0
    clear hb0
    by_cases h1 : x.2.rest.toList = []
    · have e1 : x.2.rest.toList.isEmpty = true := by rw [h1]; rfl
      have H1 := Hid.mk (toList_nil.1 h1)
      by_cases h2 : x.1.read.toList = []
      · have e2 : x.1.read.toList.isEmpty = true := by rw [h2]; rfl
        have H2 := Hid.mk (toList_nil.1 h2)
        go_enter Tryz.func27, Tryz.ntmps27
        go_wp2_with (first | (go_at_call 48; have M := rsession_f w.heap.size ⟨s, false⟩ (w.alloc (.cells #[.string s, .bool false] 78)) RA.out; rw [yz] at M; with_reducible refine M.mono ?_; clear M; rintro e w1 ⟨vK, vP, vD, rfl, S1, O1, q1, t1⟩; rw [← HX.out] at S1 q1; have f0 := rd_c0 q1; have f1 := rd_c1 q1; have f2 := ses_c2 S1; have f4 := ses_c4 S1; have HS1 := Hid.mk S1; have HO1 := Hid.mk O1; clear S1 O1 q1; rw [hb.out] at f1) | fail)
        go_ret2
        exact ⟨Or.inr ⟨HO.out.2 ⟨hb.out, H1.out, Or.inl H2.out⟩, w.heap.size + 1, vK, vP, vD, by omega, rfl, HS1.out, HO1.out⟩, below_tch B0 t1⟩
      · have e2 : x.1.read.toList.isEmpty = false := by cases h : x.1.read.toList <;> simp_all
        have H2 : Hid (¬ x.1.read = ⟨#[]⟩) := Hid.mk (fun e => h2 (toList_nil.2 e))
        by_cases h3 : x.1.theirs.toList = []
        · have e3 : x.1.theirs.toList.isEmpty = true := by rw [h3]; rfl
          have H3 := Hid.mk (toList_nil.1 h3)
          go_enter Tryz.func27, Tryz.ntmps27
          go_wp2_with (first | (go_at_call 48; have M := rsession_f w.heap.size ⟨s, false⟩ (w.alloc (.cells #[.string s, .bool false] 78)) RA.out; rw [yz] at M; with_reducible refine M.mono ?_; clear M; rintro e w1 ⟨vK, vP, vD, rfl, S1, O1, q1, t1⟩; rw [← HX.out] at S1 q1; have f0 := rd_c0 q1; have f1 := rd_c1 q1; have f2 := ses_c2 S1; have f4 := ses_c4 S1; have HS1 := Hid.mk S1; have HO1 := Hid.mk O1; clear S1 O1 q1; rw [hb.out] at f1) | fail)
          go_ret2
          exact ⟨Or.inl ⟨fun h => (HO.out.1 h).2.2.elim H2.out (fun n => n H3.out), rfl⟩, below_tch B0 t1⟩
        · have e3 : x.1.theirs.toList.isEmpty = false := by cases h : x.1.theirs.toList <;> simp_all
          have H3 : Hid (x.1.theirs ≠ ⟨#[]⟩) := Hid.mk (fun e => h3 (toList_nil.2 e))
          go_enter Tryz.func27, Tryz.ntmps27
          go_wp2_with (first | (go_at_call 48; have M := rsession_f w.heap.size ⟨s, false⟩ (w.alloc (.cells #[.string s, .bool false] 78)) RA.out; rw [yz] at M; with_reducible refine M.mono ?_; clear M; rintro e w1 ⟨vK, vP, vD, rfl, S1, O1, q1, t1⟩; rw [← HX.out] at S1 q1; have f0 := rd_c0 q1; have f1 := rd_c1 q1; have f2 := ses_c2 S1; have f4 := ses_c4 S1; have HS1 := Hid.mk S1; have HO1 := Hid.mk O1; clear S1 O1 q1; rw [hb.out] at f1) | fail)
          go_ret2
          exact ⟨Or.inr ⟨HO.out.2 ⟨hb.out, H1.out, Or.inr H3.out⟩, w.heap.size + 1, vK, vP, vD, by omega, rfl, HS1.out, HO1.out⟩, below_tch B0 t1⟩
    · have e1 : x.2.rest.toList.isEmpty = false := by cases h : x.2.rest.toList <;> simp_all
      have H1 : Hid (¬ x.2.rest = ⟨#[]⟩) := Hid.mk (fun e => h1 (toList_nil.2 e))
      go_enter Tryz.func27, Tryz.ntmps27
      go_wp2_with (first | (go_at_call 48; have M := rsession_f w.heap.size ⟨s, false⟩ (w.alloc (.cells #[.string s, .bool false] 78)) RA.out; rw [yz] at M; with_reducible refine M.mono ?_; clear M; rintro e w1 ⟨vK, vP, vD, rfl, S1, O1, q1, t1⟩; rw [← HX.out] at S1 q1; have f0 := rd_c0 q1; have f1 := rd_c1 q1; have f2 := ses_c2 S1; have f4 := ses_c4 S1; have HS1 := Hid.mk S1; have HO1 := Hid.mk O1; clear S1 O1 q1; rw [hb.out] at f1) | fail)
      go_ret2
      exact ⟨Or.inl ⟨fun h => H1.out (HO.out.1 h).2.1, rfl⟩, below_tch B0 t1⟩
end Go.Proofs.YteghoooelgcpkaaGreatDoor
