/- Kids of a tree in plain memory; what a yield is made of. -/
import Derived.Test.YtngekjbdjnfhmaaDrawX
import Derived.Test.YtngekjbdjnfhmaaYldB
namespace Go.Proofs.Ytngekjbdjnfhmaa
open Go.ChangeShapes Go.WideShapes Go.ChangeAt Go.RowKit Go.Deep
set_option maxRecDepth 100000
set_option linter.unusedVariables false
/-- kid i of a tree in plain memory -/
def KidAt (w : World) (B : Nat) (ka : Option Addr) (i : Nat) (T : Tr) : Prop := ∃ g off s1 r1 a1 n1 c1, ka = some ⟨g, off, none⟩ ∧ g < w.heap.size ∧ w.cell? ⟨g, off + i * 3, none⟩ = some (.string s1) ∧ w.cell? ⟨g, off + i * 3 + 1, none⟩ = some (.int .i64 r1) ∧ w.cell? ⟨g, off + i * 3 + 2, none⟩ = some (.slice a1 n1 c1) ∧ TrP w B (.agg #[.string s1, .int .i64 r1, .slice a1 n1 c1]) T
theorem TrP.kid {w : World} {B n kc : Nat} {s : ByteArray} {r : Int} {ka : Option Addr} {T : Tr} (h : TrP w B (.agg #[.string s, .int .i64 r, .slice ka n kc]) T) : ∃ ks, T = .node s r ks ∧ n = ks.length ∧ n ≤ maxLen ∧ ∀ i (hi : i < ks.length), KidAt w B ka i ks[i] := by
  obtain ⟨s', r', ps, a, cap, M, e, rfl, h1, h2, h3, h4, h5, h6, h7⟩ := h
  simp only [Value.agg.injEq, Array.mk.injEq, List.cons.injEq, Value.string.injEq, Value.int.injEq, Value.slice.injEq, true_and, and_true] at e
  obtain ⟨rfl, rfl, rfl, rfl, rfl⟩ := e
  refine ⟨ps.map PT.tr, rfl, by simp, h3, fun i hi => ?_⟩
  have hi' : i < ps.length := by simpa using hi
  obtain ⟨g, off, e, eb, eo⟩ := h5 i hi'
  obtain ⟨a1, c1, hb, d0, d1, d2, q1, q2, q3, q4, q5, q6⟩ := (h6 i hi').open
  rw [eb, eo] at d0 d1 d2
  rw [eb] at hb
  refine ⟨g, off, ps[i].s, ps[i].r, a1, ps[i].ks.length, c1, e, (h7 g hb).2.lt, d0, d1, d2, ?_⟩
  rw [List.getElem_map, ps[i].tr_eq]
  exact ⟨ps[i].s, ps[i].r, ps[i].ks, a1, c1, M, rfl, rfl, q1, q2, q3, q4, q5, q6, h7⟩
theorem KidAt.keep {w w' : World} {B : Nat} {ka : Option Addr} {i : Nat} {T : Tr} (h : KidAt w B ka i T) (hb : Below w.heap.size w w') : KidAt w' B ka i T := by
  obtain ⟨g, off, s1, r1, a1, n1, c1, e, hg, d0, d1, d2, HT⟩ := h
  exact ⟨g, off, s1, r1, a1, n1, c1, e, Nat.lt_of_lt_of_le hg hb.size, (hb.cell (p := ⟨g, _, none⟩) hg).trans d0, (hb.cell (p := ⟨g, _, none⟩) hg).trans d1, (hb.cell (p := ⟨g, _, none⟩) hg).trans d2, HT.keep hb⟩
theorem yield_node (s : ByteArray) (r : Int) (ks : List Tr) : yieldL (.node s r ks) = if isSmallS s = true then s.data.toList else ks.flatMap yieldL := by rw [yieldL]
theorem yield_small (m : Nat) : ∀ (T : Tr), T.sz ≤ m → ∀ c ∈ yieldL T, smallN (c.toNat : Int) = true := by
  induction m with
  | zero => intro T h; cases T with | node s r ks => rw [Tr.sz] at h; omega
  | succ m ih =>
    intro T h
    cases T with
    | node s r ks =>
      rw [yield_node]
      intro c hc
      split at hc
      · rename_i hs
        unfold isSmallS at hs
        simp only [Bool.and_eq_true, decide_eq_true_eq] at hs
        obtain ⟨h1, h2⟩ := hs
        have hl : s.data.toList.length = 1 := by simpa using h1
        match hq : s.data.toList, hl with
        | [d], _ =>
          rw [hq] at hc
          simp only [List.mem_cons, List.not_mem_nil, or_false] at hc
          subst hc
          unfold byteAt at h2
          rw [hq] at h2
          exact h2
      · obtain ⟨k, hk, hc'⟩ := List.mem_flatMap.1 hc
        exact ih k (by have := Tr.sz_kid (s := s) (r := r) hk; omega) c hc'
def yldTo (ks : List Tr) (i : Nat) : List UInt8 := (ks.take i).flatMap yieldL
def sizeTo (ks : List Tr) (i : Nat) : Nat := 1 + ((ks.take i).map Tr.sz).sum
theorem yldTo_succ {ks : List Tr} {i : Nat} (h : i < ks.length) : yldTo ks (i + 1) = yldTo ks i ++ yieldL ks[i] := by
  unfold yldTo; rw [List.take_succ_eq_append_getElem h, List.flatMap_append]; simp
theorem sizeTo_succ {ks : List Tr} {i : Nat} (h : i < ks.length) : sizeTo ks (i + 1) = sizeTo ks i + ks[i].sz := by
  unfold sizeTo; rw [List.take_succ_eq_append_getElem h, List.map_append, List.sum_append]; simp; omega
theorem sizeTo_le (s : ByteArray) (r : Int) (ks : List Tr) (i : Nat) : sizeTo ks i ≤ (Tr.node s r ks).sz := by
  rw [Tr.sz]
  unfold sizeTo
  have : ((ks.take i).map Tr.sz).sum + ((ks.drop i).map Tr.sz).sum = (ks.map Tr.sz).sum := by
    rw [← List.sum_append, ← List.map_append, List.take_append_drop]
  omega
theorem sizeTo_all (s : ByteArray) (r : Int) (ks : List Tr) : sizeTo ks ks.length = (Tr.node s r ks).sz := by
  rw [Tr.sz]; unfold sizeTo; rw [List.take_length]
theorem yldTo_len {s : ByteArray} {r : Int} {ks : List Tr} (i : Nat) : (yldTo ks i).length ≤ (Tr.node s r ks).sz := by
  have h : ∀ l : List Tr, (l.flatMap yieldL).length ≤ (l.map Tr.sz).sum := by
    intro l
    induction l with
    | nil => simp
    | cons x xs ih =>
      have := yield_len _ x (Nat.le_refl _)
      simp only [List.flatMap_cons, List.length_append, List.map_cons, List.sum_cons]
      omega
  have h1 := h (ks.take i)
  have h2 := sizeTo_le s r ks i
  unfold sizeTo at h2
  unfold yldTo
  omega
theorem small_at (yl : List UInt8) (h : ∀ c ∈ yl, smallN (c.toNat : Int) = true) (j : Nat) (hj : j < yl.length) : isSmallS ((bytesOf yl).extract j (j + 1)) = true := by
  have hl : ((bytesOf yl).extract j (j + 1)).data.toList = [yl[j]] := by
    rw [ByteArray.data_extract, Array.toList_extract]
    show (((bytesOf yl).data.toList).drop j).take (j + 1 - j) = _
    rw [show (bytesOf yl).data.toList = yl from by simp [bytesOf], show j + 1 - j = 1 by omega, List.drop_eq_getElem_cons hj]
    rfl
  unfold isSmallS byteAt
  rw [hl]
  have hz : ((bytesOf yl).extract j (j + 1)).size = 1 := by
    rw [ByteArray.size_extract, bytesOf_size]; omega
  simp only [hz, decide_true, Bool.true_and]
  exact h _ (List.getElem_mem hj)
theorem shape_mono (rs : List RuleT) : ∀ (d : Nat) (T : Tr), shapeB rs d T = true → shapeB rs (d + 1) T = true
  | 0, _, h => by rw [shapeB] at h; cases h
  | d + 1, .node s r ks, h => by
    rw [shape_split, Bool.and_eq_true, List.all_eq_true] at h ⊢
    exact ⟨h.1, fun k hk => shape_mono rs d k (h.2 k hk)⟩
theorem ok_facts {st : ByteArray} {rs : List RuleT} {s : ByteArray} {r : Int} {ks : List Tr} (h : treeOkB st rs (.node s r ks) = true) : gramOkB st rs = true ∧ (Tr.node s r ks).sz ≤ 60 ∧ ∀ k ∈ ks, treeOkB st rs k = true ∧ k.sz < (Tr.node s r ks).sz := by
  unfold treeOkB at h
  simp only [Bool.and_eq_true, decide_eq_true_eq] at h
  obtain ⟨hg, hs, hm⟩ := h
  have he := many_shape rs 20 _ hs
  rw [he] at hm
  refine ⟨hg, by omega, fun k hk => ?_⟩
  have hlt := Tr.sz_kid (s := s) (r := r) hk
  rw [shape_split, Bool.and_eq_true, List.all_eq_true] at hs
  have hk20 := shape_mono rs 19 k (hs.2 k hk)
  refine ⟨?_, hlt⟩
  unfold treeOkB
  simp only [Bool.and_eq_true, decide_eq_true_eq]
  refine ⟨hg, hk20, ?_⟩
  rw [many_shape rs 20 k hk20]
  omega
end Go.Proofs.Ytngekjbdjnfhmaa
