/- The contract of the program's walk: a stack of places, an event a round. -/
import Derived.Test.YtngekjbdjnfhmaaDoorPtA
import Derived.Test.YtngekjbdjnfhmaaDoorSeq
import Derived.Sort.LoopGhostIn
import Derived.Sort.QuietIn
namespace Go.Proofs.YtngekjbdjnfhmaaDoor
open Go.ChangeShapes Go.WideShapes Go.ChangeAt Go.RowKit Go.Deep
attribute [local go_sem] Oper.semAt_some
set_option maxRecDepth 100000
/-- the cells of the places, the bottom first -/
def flatP (st : List (PT × Nat)) : List Value := st.reverse.flatMap fun x => [.pointer (some ⟨x.1.b, x.1.o, none⟩), .int .i64 (x.2 : Int)]
theorem flatP_len (st : List (PT × Nat)) : (flatP st).length = st.length * 2 := by
  unfold flatP
  rw [show st.length = st.reverse.length from by simp]
  generalize st.reverse = l
  induction l with
  | nil => rfl
  | cons x l ih => rw [List.flatMap_cons, List.length_append, ih, List.length_cons]; simp; omega
theorem flatP_cons (x : PT × Nat) (st : List (PT × Nat)) : flatP (x :: st) = flatP st ++ [.pointer (some ⟨x.1.b, x.1.o, none⟩), .int .i64 (x.2 : Int)] := by
  unfold flatP; simp
theorem flatP_one (st : List (PT × Nat)) : ∀ u ∈ flatP st, u.oneCell' = true := by
  intro u hu
  obtain ⟨r, _, h⟩ := List.mem_flatMap.1 hu
  simp only [List.mem_cons, List.not_mem_nil, or_false] at h
  rcases h with rfl | rfl <;> rfl
/-- what the walk does between two events: it writes into its own blocks S alone, and may make more of them -/
structure Apart (S S' : List Nat) (w w' : World) : Prop where
  os : w'.os = w.os
  tape : w'.tape = w.tape
  output : w'.output = w.output
  size : w.heap.size ≤ w'.heap.size
  block : ∀ k, k < w.heap.size → k ∉ S → w'.heap[k]? = w.heap[k]?
  own : ∀ k ∈ S', k ∈ S ∨ (w.heap.size ≤ k ∧ k < w'.heap.size)
theorem Apart.refl (S : List Nat) (w : World) : Apart S S w w := ⟨rfl, rfl, rfl, Nat.le_refl _, fun _ _ _ => rfl, fun _ h => .inl h⟩
theorem Apart.trans {S S' S'' : List Nat} {a b c : World} (h : Apart S S' a b) (k : Apart S' S'' b c) : Apart S S'' a c := by
  refine ⟨k.os.trans h.os, k.tape.trans h.tape, k.output.trans h.output, Nat.le_trans h.size k.size, fun i hi hS => ?_, fun i hi => ?_⟩
  · have hn : i ∉ S' := fun h' => by
      rcases h.own i h' with h1 | h1
      · exact hS h1
      · omega
    exact (k.block i (Nat.lt_of_lt_of_le hi h.size) hn).trans (h.block i hi hS)
  · rcases k.own i hi with h1 | h1
    · rcases h.own i h1 with h2 | h2
      · exact .inl h2
      · exact .inr ⟨h2.1, Nat.lt_of_lt_of_le h2.2 k.size⟩
    · exact .inr ⟨Nat.le_trans h.size h1.1, h1.2⟩
theorem Apart.alloc (S : List Nat) (w : World) (o : Obj) : Apart S (w.heap.size :: S) w (w.alloc o) := by
  refine ⟨rfl, rfl, rfl, by simp, fun k hk _ => blk_old _ _ hk, fun k hk => ?_⟩
  rcases List.mem_cons.1 hk with rfl | h
  · exact .inr ⟨Nat.le_refl _, by simp⟩
  · exact .inl h
theorem Apart.set {S : List Nat} {w : World} {b : Nat} (hb : b ∈ S) (o : Nat) (v : Value) : Apart S S w (w.setCell ⟨b, o, none⟩ v) :=
  ⟨rfl, rfl, rfl, by simp, fun k _ hS => Below.heap_setCell w _ v k (fun e => hS (e ▸ hb)), fun _ h => .inl h⟩
theorem Apart.drewN (S : List Nat) (w : World) (n : Nat) : Apart S S w (w.drewN n) := ⟨rfl, rfl, rfl, by simp, fun _ _ _ => rfl, fun _ h => .inl h⟩
end Go.Proofs.YtngekjbdjnfhmaaDoor
