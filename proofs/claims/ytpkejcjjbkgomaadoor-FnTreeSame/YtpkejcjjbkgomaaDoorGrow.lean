/- A region that draws its order, whose operations only read and whose callees may make memory of their own: one walk in the order of the text, in every world that has grown out of the first. -/
import Derived.Test.YtpkejcjjbkgomaaDoorOkB
namespace Go.Proofs.YtpkejcjjbkgomaaDoor
open Go.ChangeShapes Go.WideShapes Go.ChangeAt Go.RowKit
structure Plus where
  objs : Array Obj
  drawn : Nat
instance : Inhabited Plus := ⟨⟨#[], 0⟩⟩
/-- w with blocks more, and some draws on -/
def grow (w : World) (x : Plus) : World := { w with heap := w.heap ++ x.objs, drawn := x.drawn }
theorem below_grow (w : World) (x : Plus) : Below w.heap.size w (grow w x) :=
  ⟨rfl, rfl, rfl, by simp [grow], fun k hk => by simp [grow, Array.getElem?_append, hk]⟩
theorem grow_of_below {w w' : World} (h : Below w.heap.size w w') : ∃ x, w' = grow w x := by
  refine ⟨⟨w'.heap.extract w.heap.size w'.heap.size, w'.drawn⟩, ?_⟩
  have hh : w'.heap = w.heap ++ w'.heap.extract w.heap.size w'.heap.size := by
    apply Array.ext_getElem?
    intro i
    rw [Array.getElem?_append]
    split
    · rename_i hi; exact h.block i hi
    · rename_i hi
      rw [Array.getElem?_extract]
      have := h.size
      by_cases h2 : i < w'.heap.size
      · rw [if_pos (by omega)]; congr 1; omega
      · rw [if_neg (by omega), Array.getElem?_eq_none (by omega)]
  obtain ⟨h1, h2, h3, h4, h5⟩ := w'
  unfold grow
  simp only at hh ⊢
  have a1 := h.os; have a2 := h.tape; have a3 := h.output
  simp only at a1 a2 a3
  subst a1 a2 a3
  rw [← hh]
theorem grow_cell (w : World) (x : Plus) (b o : Nat) (h : b < w.heap.size) : (grow w x).cell? ⟨b, o, none⟩ = w.cell? ⟨b, o, none⟩ := (below_grow w x).cell (p := ⟨b, o, none⟩) h
theorem grow_size (w : World) (x : Plus) : w.heap.size ≤ (grow w x).heap.size := (below_grow w x).size
theorem wp_region_grow {P : Program} {id : Nat} {Q : Exit → Act → World → Prop} {a : Act} {w : World} {l : List Oper} (hm : P.follows .mixedOrders = true) (hB : Region.lexB .any l.toArray = true)
    (h : wpQuiet P l.toArray (fun w' => ∃ x, w' = grow w x) (fun a' => ∀ w', (∃ x, w' = grow w x) → Q .normal a' w') l a) : (Code.region id l.toArray true).wp P Q a w :=
  wp_region_quiet (C := fun w' => ∃ x, w' = grow w x) hm hB ⟨⟨#[], w.drawn + 1⟩, by simp [grow]⟩ (by simpa using h)
/-- a callee that makes memory of its own, met in a world that has grown -/
theorem Calls.grow_of {P : Program} {f : FuncId} {args : Array Value} {w : World} {x : Plus} {v : Value}
    (h : Calls P f args (grow w x) fun e w' => e = .returned v ∧ Below (grow w x).heap.size (grow w x) w') : Calls P f args (grow w x) fun e w'' => e = .returned v ∧ ∃ y, w'' = grow w y :=
  h.mono fun _ _ ⟨he, hb⟩ => ⟨he, grow_of_below ((below_grow w x).trans (hb.mono (grow_size w x)))⟩
theorem Calls.grow_of_same {P : Program} {f : FuncId} {args : Array Value} {w : World} {x : Plus} {v : Value}
    (h : Calls P f args (grow w x) fun e w' => e = .returned v ∧ grow w x = w') : Calls P f args (grow w x) fun e w'' => e = .returned v ∧ ∃ y, w'' = grow w y :=
  h.mono fun _ _ ⟨he, hb⟩ => ⟨he, x, hb.symm⟩
end Go.Proofs.YtpkejcjjbkgomaaDoor
