/- The contract of the program's walk: a stack of places, an event a round. -/
import Derived.Test.YtpkejcjjbkgomaaDoorPtA
import Derived.Test.YtpkejcjjbkgomaaDoorSeq
import Derived.Sort.LoopGhostIn
import Derived.Sort.QuietIn
namespace Go.Proofs.YtpkejcjjbkgomaaDoor
open Go.ChangeShapes Go.WideShapes Go.ChangeAt Go.RowKit Go.Deep
attribute [local go_sem] Oper.semAt_some
set_option maxRecDepth 100000
/-- the cells of the places, the bottom first -/
def flatP (st : List (PT × Nat)) : List Value := st.reverse.flatMap fun x => [.pointer (some ⟨x.1.b, x.1.o, none⟩), .int .i64 (x.2 : Int)]
theorem flatP_len (st : List (PT × Nat)) : (flatP st).length = st.length * 2 := by
  unfold flatP
  rw [show st.length = st.reverse.length from by simp]
  generalize st.reverse = l
  induction l with
  | nil => rfl
  | cons x l ih => rw [List.flatMap_cons, List.length_append, ih, List.length_cons]; simp; omega
theorem flatP_cons (x : PT × Nat) (st : List (PT × Nat)) : flatP (x :: st) = flatP st ++ [.pointer (some ⟨x.1.b, x.1.o, none⟩), .int .i64 (x.2 : Int)] := by
  unfold flatP; simp
theorem flatP_one (st : List (PT × Nat)) : ∀ u ∈ flatP st, u.oneCell' = true := by
  intro u hu
  obtain ⟨r, _, h⟩ := List.mem_flatMap.1 hu
  simp only [List.mem_cons, List.not_mem_nil, or_false] at h
  rcases h with rfl | rfl <;> rfl
/-- the stack lies in the block g -/
def StackIn (w : World) (g cap : Nat) (st : List (PT × Nat)) : Prop := ∃ cur, w.heap[g]? = some (.cells cur 162 (0, 0)) ∧ st.length ≤ cap ∧ cap ≤ maxLen ∧ cur.size = cap * 2 ∧ cur.toList.take (st.length * 2) = flatP st
theorem StackIn.lt {w : World} {g cap : Nat} {st : List (PT × Nat)} (h : StackIn w g cap st) : g < w.heap.size := by
  obtain ⟨cur, h, _⟩ := h
  exact (Array.getElem?_eq_some_iff.1 h).1
theorem StackIn.of_block {w w' : World} {g cap : Nat} {st : List (PT × Nat)} (h : StackIn w g cap st) (e : w'.heap[g]? = w.heap[g]?) : StackIn w' g cap st := by
  obtain ⟨cur, h, r⟩ := h
  exact ⟨cur, e.trans h, r⟩
theorem StackIn.owns {w : World} {g cap : Nat} {st : List (PT × Nat)} {B : Nat} (h : StackIn w g cap st) (hB : B ≤ g) : w.ownsRow B 162 2 (.slice (some ⟨g, 0, none⟩) st.length cap) st.length (flatP st) := by
  obtain ⟨cur, h, h1, h2, h3, h4⟩ := h
  exact ⟨flatP_len st, .inr ⟨g, cap, cur, rfl, hB, h, h1, h2, h3, h4⟩⟩
/-- the top of the stack: its two cells -/
theorem StackIn.top {w : World} {g cap : Nat} {x : PT × Nat} {st : List (PT × Nat)} (h : StackIn w g cap (x :: st)) : w.cell? ⟨g, st.length * 2, none⟩ = some (.pointer (some ⟨x.1.b, x.1.o, none⟩)) ∧ w.cell? ⟨g, st.length * 2 + 1, none⟩ = some (.int .i64 (x.2 : Int)) ∧ ∀ i, w.frozen? ⟨g, i, none⟩ = false := by
  obtain ⟨cur, h, h1, h2, h3, h4⟩ := h
  have hl := flatP_len st
  rw [List.length_cons] at h4 h1
  have e0 : cur[st.length * 2]? = some (.pointer (some ⟨x.1.b, x.1.o, none⟩)) := by
    have : (cur.toList.take ((st.length + 1) * 2))[st.length * 2]? = (flatP (x :: st))[st.length * 2]? := by rw [h4]
    rw [List.getElem?_take, if_pos (by omega), flatP_cons, List.getElem?_append_right (by omega), hl] at this
    simpa using this
  have e1 : cur[st.length * 2 + 1]? = some (.int .i64 (x.2 : Int)) := by
    have : (cur.toList.take ((st.length + 1) * 2))[st.length * 2 + 1]? = (flatP (x :: st))[st.length * 2 + 1]? := by rw [h4]
    rw [List.getElem?_take, if_pos (by omega), flatP_cons, List.getElem?_append_right (by omega), hl] at this
    simpa using this
  exact ⟨by rw [cell_of_block h]; exact e0, by rw [cell_of_block h]; exact e1, fun i => frozen_of_block h i⟩
/-- the count at the top goes on by one -/
theorem StackIn.next {w : World} {g cap : Nat} {t : PT} {d : Nat} {st : List (PT × Nat)} (h : StackIn w g cap ((t, d) :: st)) : StackIn (w.setCell ⟨g, st.length * 2 + 1, none⟩ (.int .i64 ((d : Int) + 1))) g cap ((t, d + 1) :: st) := by
  obtain ⟨cur, h, h1, h2, h3, h4⟩ := h
  have hl := flatP_len st
  refine ⟨cur.setIfInBounds (st.length * 2 + 1) (.int .i64 ((d : Int) + 1)), by simp [World.setCell, Array.getElem?_modify, h], by simpa using h1, h2, by simpa using h3, ?_⟩
  rw [List.length_cons] at h4 h1 ⊢
  rw [Array.toList_setIfInBounds, List.take_set, h4, flatP_cons, flatP_cons, List.set_append_right _ _ (by omega), hl]
  simp
/-- the top is taken away -/
theorem StackIn.pop {w : World} {g cap : Nat} {x : PT × Nat} {st : List (PT × Nat)} (h : StackIn w g cap (x :: st)) : StackIn w g cap st := by
  obtain ⟨cur, h, h1, h2, h3, h4⟩ := h
  have hl := flatP_len st
  rw [List.length_cons] at h4 h1
  refine ⟨cur, h, by omega, h2, h3, ?_⟩
  have e1 : cur.toList.take (st.length * 2) = (cur.toList.take ((st.length + 1) * 2)).take (st.length * 2) := by rw [List.take_take, Nat.min_eq_left (by omega)]
  rw [e1, h4, flatP_cons, List.take_append_of_le_length (by omega)]
  exact List.take_of_length_le (by omega)
/-- what the walk does between two events: it writes into its own blocks S alone, and may make more of them -/
structure Apart (S S' : List Nat) (w w' : World) : Prop where
  os : w'.os = w.os
  tape : w'.tape = w.tape
  output : w'.output = w.output
  size : w.heap.size ≤ w'.heap.size
  block : ∀ k, k < w.heap.size → k ∉ S → w'.heap[k]? = w.heap[k]?
  own : ∀ k ∈ S', k ∈ S ∨ (w.heap.size ≤ k ∧ k < w'.heap.size)
theorem Apart.refl (S : List Nat) (w : World) : Apart S S w w := ⟨rfl, rfl, rfl, Nat.le_refl _, fun _ _ _ => rfl, fun _ h => .inl h⟩
theorem Apart.trans {S S' S'' : List Nat} {a b c : World} (h : Apart S S' a b) (k : Apart S' S'' b c) : Apart S S'' a c := by
  refine ⟨k.os.trans h.os, k.tape.trans h.tape, k.output.trans h.output, Nat.le_trans h.size k.size, fun i hi hS => ?_, fun i hi => ?_⟩
  · have hn : i ∉ S' := fun h' => by
      rcases h.own i h' with h1 | h1
      · exact hS h1
      · omega
    exact (k.block i (Nat.lt_of_lt_of_le hi h.size) hn).trans (h.block i hi hS)
  · rcases k.own i hi with h1 | h1
    · rcases h.own i h1 with h2 | h2
      · exact .inl h2
      · exact .inr ⟨h2.1, Nat.lt_of_lt_of_le h2.2 k.size⟩
    · exact .inr ⟨Nat.le_trans h.size h1.1, h1.2⟩
theorem Apart.alloc (S : List Nat) (w : World) (o : Obj) : Apart S (w.heap.size :: S) w (w.alloc o) := by
  refine ⟨rfl, rfl, rfl, by simp, fun k hk _ => blk_old _ _ hk, fun k hk => ?_⟩
  rcases List.mem_cons.1 hk with rfl | h
  · exact .inr ⟨Nat.le_refl _, by simp⟩
  · exact .inl h
theorem Apart.set {S : List Nat} {w : World} {b : Nat} (hb : b ∈ S) (o : Nat) (v : Value) : Apart S S w (w.setCell ⟨b, o, none⟩ v) :=
  ⟨rfl, rfl, rfl, by simp, fun k _ hS => Below.heap_setCell w _ v k (fun e => hS (e ▸ hb)), fun _ h => .inl h⟩
theorem Apart.drewN (S : List Nat) (w : World) (n : Nat) : Apart S S w (w.drewN n) := ⟨rfl, rfl, rfl, by simp, fun _ _ _ => rfl, fun _ h => .inl h⟩
theorem infoPlace : (Tryd.prog.info? 162).map (fun i => (i.zero, i.size, i.bytes)) = some (some (.agg #[.pointer none, .int .i64 0]), 2, 16) := by kernel_rfl
end Go.Proofs.YtpkejcjjbkgomaaDoor
