/- Texts: bytes of rows as strings, strings as functions. -/
import Derived.Test.YtogkchcclcbobaaSeg
import Derived.Laws.BytesArg
import Derived.Laws.IdiomStrings
namespace Go
open Go.RowKit

/-- The text of n bytes. -/
def bstr (n : Nat) (f : Nat → Int) : ByteArray := strOfNums ((List.range n).map f)
theorem bstr_size (n : Nat) (f : Nat → Int) : (bstr n f).size = n := by unfold bstr; rw [strOfNums_size]; simp
theorem bstr_congr {n : Nat} {f g : Nat → Int} (h : ∀ i, i < n → f i = g i) : bstr n f = bstr n g := by
  unfold bstr; congr 1; apply List.map_congr_left; intro i hi; exact h i (by simpa using hi)
theorem bstr_get (n : Nat) (f : Nat → Int) (i : Nat) (h : i < (bstr n f).size) : ((bstr n f)[i]'h).toNat = (f i).toNat % 256 := by
  have hn : i < n := by rw [bstr_size] at h; exact h
  have : (bstr n f)[i] = (bstr n f).data[i]'(by simpa using h) := rfl
  rw [this]
  simp [bstr, strOfNums]
theorem run_convert_row {P : Program} (w : World) (src dst e : TypeId) (hs : P.underlying src = some (.slice e)) (he : P.underlying e = some (.int .u8)) (hd : P.underlying dst = some .string) (g o N len cap : Nat) (f : Nat → Int)
    (hr : w.rowOf g = tab .u8 N f) (ho : o + len ≤ N) : (convert src dst (.slice (some ⟨g, o, none⟩) len cap)).run P w = .ok (.string (bstr len (fun i => f (o + i)))) w := by
  refine run_convert_bytes_arg w src e hs he g o len cap ((List.range len).map fun i => f (o + i)) (by simp) (fun i hi => ?_) dst hd
  rw [(cell_of_rowOf hr (o + i) (by rw [tab_size]; omega)).1, tab_get _ _ _ _ (by omega)]
  simp [hi]
theorem wpl_convert {P : Program} {ops : Array Oper} {rest : List Oper} {op : Oper} {a : Act} {w : World} {Q : Exit → Act → World → Prop} (hgd : op.guard = none) (src dst e : TypeId) (x : Operand) (hop : op.op = .convert src dst x)
    (hs : P.underlying src = some (.slice e)) (he : P.underlying e = some (.int .u8)) (hd : P.underlying dst = some .string) (g o len cap : Nat) (hx : a.eval x = .slice (some ⟨g, o, none⟩) len cap) (N : Nat) (f : Nat → Int) (hr : w.rowOf g = tab .u8 N f) (ho : o + len ≤ N)
    (h : wpList P ops Q rest (a.put op.dst (.string (bstr len (fun i => f (o + i))))) w) : wpList P ops Q (op :: rest) a w := by
  refine wpList_plain hgd fun _ hK => ?_
  unfold Oper.wp execOp
  simp only [hop, hx]
  rw [Sem.run_bind, run_convert_row w src dst e hs he hd g o N len cap f hr ho]
  exact hK _ _ h
end Go
