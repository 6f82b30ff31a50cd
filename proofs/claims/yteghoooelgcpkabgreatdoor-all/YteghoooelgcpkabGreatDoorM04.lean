import Derived.Test.YteghoooelgcpkabGreatDoorM00
namespace Go
open Go.RowKit
section
variable {P : Program} {ops : Array Oper} {Q : Exit → Act → World → Prop}
theorem wp_region_inv {id : Nat} {a : Act} {w : World} (hm : P.follows .mixedOrders = true) (I : Array Bool → Act → World → Prop) (h0 : I (Array.replicate ops.size false) a w.drew)
    (hstep : ∀ listed a w i, listed.size = ops.size → I listed a w → i ∈ Region.ready .any ops listed → wpOp P ops Q i (I (listed.setIfInBounds i true)) a w)
    (hend : ∀ listed a w, listed.size = ops.size → I listed a w → Region.ready .any ops listed = [] → Q .normal a w) : (Code.region id ops true).wp P Q a w := by
  refine wp_region_any hm ?_
  have key : ∀ (fuel : Nat) (listed : Array Bool) (a : Act) (w : World), listed.size = ops.size → (List.range ops.size).countP (fun i => !listed.getD i true) ≤ fuel → I listed a w → wpAny P .any ops Q fuel listed a w := by
    intro fuel
    induction fuel with
    | zero =>
      intro listed a w hs hc hI
      have hr : Region.ready .any ops listed = [] := by
        rw [List.eq_nil_iff_forall_not_mem]
        intro i hi
        obtain ⟨h1, o, ho, _⟩ := mem_ready.1 hi
        have : 0 < (List.range ops.size).countP (fun i => !listed.getD i true) := List.countP_pos_iff.2 ⟨i, List.mem_range.2 (Array.getElem?_eq_some_iff.1 ho).1, by rw [h1]; rfl⟩
        omega
      exact ⟨hr, hend _ _ _ hs hI hr⟩
    | succ fuel ih =>
      intro listed a w hs hc hI
      refine ⟨fun hr => hend _ _ _ hs hI hr, fun i hi => ?_⟩
      refine wpOp_mono (fun a' w' hI' => ih _ a' w' (by simpa using hs) ?_ hI') (hstep listed a w i hs hI hi)
      obtain ⟨h1, o, ho, _⟩ := mem_ready.1 hi
      have hlt : i < ops.size := (Array.getElem?_eq_some_iff.1 ho).1
      have hdec : (List.range ops.size).countP (fun j => !(listed.setIfInBounds i true).getD j true) < (List.range ops.size).countP (fun j => !listed.getD j true) := by
        have e : ∀ j, (!(listed.setIfInBounds i true).getD j true) = ((!listed.getD j true) && decide (j ≠ i)) := fun j => by
          by_cases hj : j = i
          · subst hj; simp [hs, hlt]
          · rw [getD_set_ne true (Ne.symm hj)]; simp [hj]
        simp only [e]
        have hmem : i ∈ List.range ops.size := List.mem_range.2 hlt
        generalize List.range ops.size = l at hmem
        clear hc ih
        induction l with
        | nil => cases hmem
        | cons x l ihl =>
          simp only [List.countP_cons]
          by_cases hx : x = i
          · subst hx
            have hle : List.countP (fun j => (!listed.getD j true) && decide (j ≠ x)) l ≤ List.countP (fun j => !listed.getD j true) l := List.countP_mono_left (fun j _ h => by simp at h ⊢; exact h.1)
            have hle' := hle
            simp at hle'
            simp [h1]; omega
          · have := ihl (by rcases List.mem_cons.1 hmem with h | h; exact absurd h.symm hx; exact h)
            simp [hx]; simpa using this
      omega
  exact key _ _ _ _ (by simp) (by
    have := List.countP_le_length (p := fun i => !(Array.replicate ops.size false).getD i true) (l := List.range ops.size)
    simpa using this) h0

def pt (b : Bool) (d : Nat) (v : Value) (a : Act) : Act := if b then a.put (some d) v else a
theorem pt_eval (b : Bool) (d t : Nat) (v : Value) (a : Act) (h : t ≠ d) : (pt b d v a).eval (.tmp t) = a.eval (.tmp t) := by
  unfold pt; split
  · simp [Act.eval, Act.put, Ne.symm h]
  · rfl
theorem pt_size (b : Bool) (d : Nat) (v : Value) (a : Act) : (pt b d v a).tmps.size = a.tmps.size := by
  unfold pt; split <;> simp [Act.put]
theorem pt_eval_same (d : Nat) (v : Value) (a : Act) (h : d < a.tmps.size) : (pt true d v a).eval (.tmp d) = v := by
  simp [pt, Act.eval, Act.put, h]
theorem pt_put (b : Bool) (d e : Nat) (v u : Value) (a : Act) (h : d ≠ e) : (pt b d v a).put (some e) u = pt b d v (a.put (some e) u) := by
  unfold pt; split
  · exact Act.put_comm a v u (fun x hx hy => h (by rw [Option.some.inj hx, Option.some.inj hy]))
  · rfl
theorem wpOp_here {i : Nat} {o : Oper} {a : Act} {w : World} {K : Act → World → Prop} (ho : ops[i]? = some o) (hg : o.guard = none) (h : o.wp P a w K Q) : wpOp P ops Q i K a w := by
  unfold wpOp; rw [ho]
  simp only [Region.wanted, hg, if_true]
  exact Or.inl h
theorem wp_call_here {o : Oper} {a : Act} {w : World} {K : Act → World → Prop} (f : FuncId) (args : Array Value) (hr : (execOp a.eval o).run P w = .ok (.enter f args) w) (R : Ending → World → Prop) (hc : Calls P f args w R)
    (h : ∀ e w', R e w' → ∃ v, e = .returned v ∧ K (a.put o.dst v) w') : o.wp P a w K Q := by
  unfold Oper.wp
  rw [hr]
  refine hc.mono fun e w' hR => ?_
  obtain ⟨v, rfl, hK⟩ := h e w' hR
  exact hK
theorem wp_value_here {o : Oper} {a : Act} {w w' : World} {K : Act → World → Prop} (v : Value) (hr : (execOp a.eval o).run P w = .ok (.value v) w') (h : K (a.put o.dst v) w') : o.wp P a w K Q := by
  unfold Oper.wp; rw [hr]; exact h
theorem wp_skip_here {o : Oper} {a : Act} {w w' : World} {K : Act → World → Prop} (hr : (execOp a.eval o).run P w = .ok .skip w') (h : K (a.put o.dst undef) w') : o.wp P a w K Q := by
  unfold Oper.wp; rw [hr]; exact h
end
end Go
