/- Contracts of the reader's 'of' and 'num', and of l1Signed: one of a list; signs. -/
import Derived.Test.YtcningdeocmbgaaDrawA
import Derived.Test.YtcningdeocmbgaaTextA
namespace Go.Proofs.Ytcningdeocmbgaa
open Go.ChangeShapes Go.WideShapes Go.ChangeAt Go.RowKit
def DrawnS (P : ByteArray → Prop) (R k : Nat) (w : World) (e : Ending) (w' : World) : Prop := ∃ s : ByteArray, e = .returned (.string s) ∧ P s ∧ Rdk w' R k ∧ Only R w w'
/-- the lists of constants that are drawn from, in a block just made -/
theorem lit_cells (w : World) (strs : List ByteArray) (T : TypeId) : ∀ i (h : i < strs.length), (w.alloc (.cells (strs.map Value.string).toArray T)).cell? ⟨w.heap.size, i, none⟩ = some (.string strs[i]) := fun i h => by
  rw [cell_of_block (blk_new w _ rfl) i]; simp [h]
theorem lit_ints (w : World) (zs : List Int) (T : TypeId) : ∀ i (h : i < zs.length), (w.alloc (.cells (zs.map (Value.int .i64)).toArray T)).cell? ⟨w.heap.size, i, none⟩ = some (.int .i64 zs[i]) := fun i h => by
  rw [cell_of_block (blk_new w _ rfl) i]; simp [h]
theorem Rdk.alloc {w : World} {R k : Nat} (h : Rdk w R k) (o : Obj) : Rdk (w.alloc o) R k := h.below ((Below.refl _ _).alloc (Nat.le_refl _) _)
theorem Only.alloc {R : Nat} {w w' : World} (h : Only R w w') (o : Obj) : Only R w (w'.alloc o) := h.trans (Only.of_below ((Below.refl _ _).alloc (Nat.le_refl _) _))

end Go.Proofs.Ytcningdeocmbgaa
