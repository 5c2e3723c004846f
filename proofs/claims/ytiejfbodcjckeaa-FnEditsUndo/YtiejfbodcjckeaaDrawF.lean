/- An append of rules to rules of the call's own, as one step of a region that draws its order. -/
import Derived.Test.YtiejfbodcjckeaaDrawE
import Derived.Test.YtiejfbodcjckeaaBox
import Derived.Deep.AppendLies
import Derived.Deep.RegionLaw
import Derived.Deep.Slices
import Derived.Deep.RegionHeld3
namespace Go.Proofs.Ytiejfbodcjckeaa
open Go.ChangeShapes Go.WideShapes Go.ChangeAt Go.RowKit
theorem flatR_append (rs us : List RuleT) : flatR (rs ++ us) = flatR rs ++ flatR us := by simp [flatR]
theorem flatR_one (rs : List RuleT) : ∀ u ∈ flatR rs, u.oneCell' = true := by
  intro u hu
  obtain ⟨r, _, h⟩ := List.mem_flatMap.1 hu
  simp only [List.mem_cons, List.not_mem_nil, or_false] at h
  rcases h with rfl | rfl <;> rfl
theorem rules_cells {w : World} {b off : Nat} {us : List RuleT} (h : RulesAt w (some ⟨b, off, none⟩) us) : ∀ j u, (flatR us)[j]? = some u → w.cell? ((⟨b, off, none⟩ : Addr).add j) = some u := by
  intro j u hj
  have hlt : j < us.length * 2 := by have := (List.getElem?_eq_some_iff.1 hj).1; rwa [flatR_len] at this
  rw [flatR_at us j hlt] at hj
  rw [WideShapes.add_plain]
  have hi : j / 2 < us.length := by omega
  obtain ⟨_, _, b', off', e, _, c1, c2⟩ := h.2 (j / 2) hi
  simp only [Option.some.injEq, Addr.mk.injEq] at e
  obtain ⟨rfl, rfl, _⟩ := e
  rcases Nat.mod_two_eq_zero_or_one j with h0 | h1
  · rw [← hj, show off + j = off + j / 2 * 2 from by omega, c1, show ruleCells us j = ruleCells us (j / 2 * 2) from by rw [show j / 2 * 2 = j from by omega], ruleCells_even us (j / 2) hi]
  · rw [← hj, show off + j = off + j / 2 * 2 + 1 from by omega, c2, show ruleCells us j = ruleCells us (j / 2 * 2 + 1) from by rw [show j / 2 * 2 + 1 = j from by omega], ruleCells_odd us (j / 2) hi]
theorem ruleCells_set (rs : List RuleT) (j : Nat) (hj : j < rs.length) (x : RuleT) (i : Nat) : ruleCells (rs.set j x) i = if i / 2 = j then .string (if i % 2 = 0 then x.1 else x.2) else ruleCells rs i := by
  unfold ruleCells
  rw [List.getElem?_set]
  by_cases h : i / 2 = j
  · rw [if_pos h, if_pos h.symm, if_pos hj]
  · rw [if_neg h, if_neg (fun e => h e.symm)]
end Go.Proofs.Ytiejfbodcjckeaa
