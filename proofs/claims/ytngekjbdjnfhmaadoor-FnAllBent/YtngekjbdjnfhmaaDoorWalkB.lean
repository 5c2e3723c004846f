/- The contract of the program's walk: its iterator, an event a round. -/
import Derived.Test.YtngekjbdjnfhmaaDoorWalkA
import Derived.Maps.OwnIn
namespace Go.Proofs.YtngekjbdjnfhmaaDoor
open Go.ChangeShapes Go.WideShapes Go.ChangeAt Go.RowKit Go.Deep
attribute [local go_sem] Oper.semAt_some
set_option maxRecDepth 100000
/-- the blocks that hold the tree -/
def TM (B0 tb : Nat) (k : Nat) : Prop := k < B0 ∨ k = tb
/-- what an event's taker leaves as it is: the tree's blocks and the walk's own -/
def Keeps (S : List Nat) (M : Nat → Prop) (W W' : World) : Prop := (∀ k, k ∈ S ∨ M k → W'.heap[k]? = W.heap[k]?) ∧ W.heap.size ≤ W'.heap.size
theorem chain_len (N : Nat) : ∀ (st : List (PT × Nat)) (lo : Nat), st.Pairwise (fun a b => a.1.sz < b.1.sz) → (∀ x ∈ st, lo < x.1.sz ∧ x.1.sz ≤ N) → lo + st.length ≤ max lo N
  | [], lo, _, _ => by simp; omega
  | x :: st, lo, h, hb => by
    have h1 := hb x (List.mem_cons_self ..)
    rw [List.pairwise_cons] at h
    have := chain_len N st x.1.sz h.2 (fun y hy => ⟨h.1 y hy, (hb y (List.mem_cons_of_mem _ hy)).2⟩)
    rw [List.length_cons]
    omega
def fsts (st : List (PT × Nat)) : List PT := st.map Prod.fst
def EnterY (n l : Nat) (M : Nat → Prop) (J : List Nat → List PT → List (PT × Bool) → World → Prop) (Stop : World → Prop) : Prop := ∀ S st es W t, J S st ((t, true) :: es) W → PtIn W M t → (∀ a ∈ st, t.sz < a.sz) →
  YieldAt Fence.wide (n - 1) Tryd.prog l #[.pointer (some ⟨t.b, t.o, none⟩), .bool true] W (fun e W' => Keeps S M W W' ∧ ((e = .returned (.bool true) ∧ J S (t :: st) es W') ∨ (e = .returned (.bool false) ∧ Stop W')))
def LeaveY (n l : Nat) (M : Nat → Prop) (J : List Nat → List PT → List (PT × Bool) → World → Prop) (Stop : World → Prop) : Prop := ∀ S st es W t, J S (t :: st) ((t, false) :: es) W → PtIn W M t →
  YieldAt Fence.wide (n - 1) Tryd.prog l #[.pointer (some ⟨t.b, t.o, none⟩), .bool false] W (fun e W' => Keeps S M W W' ∧ ((e = .returned (.bool true) ∧ J S st es W') ∨ (e = .returned (.bool false) ∧ Stop W')))
end Go.Proofs.YtngekjbdjnfhmaaDoor
