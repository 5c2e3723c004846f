/- The contract of the program's endless at a tree made in plain memory: it is not endless. -/
import Derived.Test.YtngekjbdjnfhmaaDoorEndA
namespace Go.Proofs.YtngekjbdjnfhmaaDoor
open Go.ChangeShapes Go.WideShapes Go.ChangeAt Go.RowKit Go.Deep
attribute [local go_sem] Oper.semAt_some
set_option maxRecDepth 100000
def keyOf (t : PT) : Value := .pointer (some ⟨t.b, t.o, none⟩)
theorem key_ne {W : World} {M : Nat → Prop} {t a : PT} (ht : PtIn W M t) (ha : PtIn W M a) (h : t.sz < a.sz) : (⟨t.b, t.o, none⟩ : Addr) ≠ ⟨a.b, a.o, none⟩ := fun e => by
  simp only [Addr.mk.injEq, and_true] at e
  have := PtIn.det _ t a (Nat.le_refl _) ht ha e.1 e.2
  rw [this] at h
  omega
theorem PtIn.inM {W : World} {M : Nat → Prop} {t : PT} (ht : PtIn W M t) : M t.b := by
  obtain ⟨_, _, h, _⟩ := ht.open
  exact h
end Go.Proofs.YtngekjbdjnfhmaaDoor
