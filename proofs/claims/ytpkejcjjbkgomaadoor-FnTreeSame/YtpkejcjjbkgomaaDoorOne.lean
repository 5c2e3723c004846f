/- A block of one cell; making a function value. -/
import Derived.Test.YtpkejcjjbkgomaaDoorLawB
import Derived.Test.YtpkejcjjbkgomaaDoorSeq
import Derived.Shelf.Abstract
import Derived.Laws.IdiomStrings
import Derived.Lib.BufferRead
import Derived.BigRegion
namespace Go.Proofs.YtpkejcjjbkgomaaDoor
open Go.ChangeShapes Go.WideShapes Go.ChangeAt Go.RowKit
def one1 (w : World) (b : Nat) (v : Value) (T : TypeId) : Prop := w.heap[b]? = some (.cells #[v] T)
theorem one1.lt {w : World} {b : Nat} {v : Value} {T : TypeId} (h : one1 w b v T) : b < w.heap.size := (Array.getElem?_eq_some_iff.1 h).1
theorem one1.cell {w : World} {b : Nat} {v : Value} {T : TypeId} (h : one1 w b v T) : w.cell? ⟨b, 0, none⟩ = some v ∧ w.frozen? ⟨b, 0, none⟩ = false := ⟨by rw [cell_of_block h 0]; rfl, frozen_of_block h 0⟩
theorem one1.below {w w' : World} {b : Nat} {v : Value} {T : TypeId} (h : one1 w b v T) (hb : Below w.heap.size w w') : one1 w' b v T := (hb.block b h.lt).trans h
theorem one1.alloc {w : World} {b : Nat} {v : Value} {T : TypeId} (h : one1 w b v T) (o : Obj) : one1 (w.alloc o) b v T := (blk_old _ _ h.lt).trans h
theorem one1.set {w : World} {b : Nat} {v : Value} {T : TypeId} (h : one1 w b v T) (u : Value) : one1 (w.setCell ⟨b, 0, none⟩ u) b u T := by
  unfold one1 at *; simp [World.setCell, Array.getElem?_modify, h]
theorem one1.other {w : World} {b c : Nat} {v : Value} {T : TypeId} (h : one1 w b v T) (hc : b ≠ c) (u : Value) : one1 (w.setCell ⟨c, 0, none⟩ u) b v T := (Below.heap_setCell w _ u b hc).trans h
theorem one1.put {w : World} {b c : Nat} {v : Value} {T : TypeId} (h : one1 w b v T) (hc : b ≠ c) (o : Obj) : one1 (w.putObj c o) b v T := (World.putObj_heap_other hc).trans h
theorem makeFunc_run : ∀ (fn : Fn) (first cap : Array Value) (w : World), (Instr.makeFunc fn first cap).run Tryd.prog w = .ok (.func fn first cap) w := fun _ _ _ _ => rfl
end Go.Proofs.YtpkejcjjbkgomaaDoor
