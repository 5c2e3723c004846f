/- An append of rules to rules of the call's own, as one step of a region that draws its order. -/
import Derived.Test.YtpkejcjjbkgomaaDoorDrawE
import Derived.Test.YtpkejcjjbkgomaaDoorBox
import Derived.Deep.AppendLies
import Derived.Deep.RegionLaw
import Derived.Deep.Slices
import Derived.Deep.RegionHeld3
namespace Go.Proofs.YtpkejcjjbkgomaaDoor
open Go.ChangeShapes Go.WideShapes Go.ChangeAt Go.RowKit
theorem flatR_append (rs us : List RuleT) : flatR (rs ++ us) = flatR rs ++ flatR us := by simp [flatR]
theorem flatR_one (rs : List RuleT) : ∀ u ∈ flatR rs, u.oneCell' = true := by
  intro u hu
  obtain ⟨r, _, h⟩ := List.mem_flatMap.1 hu
  simp only [List.mem_cons, List.not_mem_nil, or_false] at h
  rcases h with rfl | rfl <;> rfl
theorem rules_cells {w : World} {b off : Nat} {us : List RuleT} (h : RulesAt w (some ⟨b, off, none⟩) us) : ∀ j u, (flatR us)[j]? = some u → w.cell? ((⟨b, off, none⟩ : Addr).add j) = some u := by
  intro j u hj
  have hlt : j < us.length * 2 := by have := (List.getElem?_eq_some_iff.1 hj).1; rwa [flatR_len] at this
  rw [flatR_at us j hlt] at hj
  rw [WideShapes.add_plain]
  have hi : j / 2 < us.length := by omega
  obtain ⟨_, _, b', off', e, _, c1, c2⟩ := h.2 (j / 2) hi
  simp only [Option.some.injEq, Addr.mk.injEq] at e
  obtain ⟨rfl, rfl, _⟩ := e
  rcases Nat.mod_two_eq_zero_or_one j with h0 | h1
  · rw [← hj, show off + j = off + j / 2 * 2 from by omega, c1, show ruleCells us j = ruleCells us (j / 2 * 2) from by rw [show j / 2 * 2 = j from by omega], ruleCells_even us (j / 2) hi]
  · rw [← hj, show off + j = off + j / 2 * 2 + 1 from by omega, c2, show ruleCells us j = ruleCells us (j / 2 * 2 + 1) from by rw [show j / 2 * 2 + 1 = j from by omega], ruleCells_odd us (j / 2) hi]
theorem step_append_rules {ops : Array Oper} {o : Oper} {a : Act} {w : World} {K : Act → World → Prop} {Q : Exit → Act → World → Prop} {E : Prop} (hgd : o.guard = none) (s x : Operand)
    (ho : o.op = .call { callee := .builtin .append, args := #[s, x], argTypes := #[62, 62] })
    (B : Nat) (v : Value) (rs us : List RuleT) (b off c : Nat) (hs : a.eval s = v) (hx : a.eval x = .slice (some ⟨b, off, none⟩) us.length c) (hown : OwnR w B v rs) (hU : RulesAt w (some ⟨b, off, none⟩) us)
    (hlen : rs.length + us.length ≤ 1000) (hB : B ≤ w.heap.size)
    (h : ∀ g cap w', OwnR w' B (.slice (some ⟨g, 0, none⟩) (rs.length + us.length) cap) (rs ++ us) → w.grownBy w' v.ownBlock → K (a.put o.dst (.slice (some ⟨g, 0, none⟩) (rs.length + us.length) cap)) w') :
    if Region.wanted o (yielded ops a.tmps) = true then Oper.wp Tryd.prog o a w K Q else E := by
  obtain ⟨i0, hi0, hz0, hz1, hz2⟩ := info_parts infoRule
  have hw : Region.wanted o (yielded ops a.tmps) = true := by simp [Region.wanted, hgd]
  rw [if_pos hw]
  refine wp_append_own w s x 62 ho B 159 i0 (.agg #[.string ByteArray.empty, .string ByteArray.empty]) 2 32 Tryd.underlying62 hi0 hz0 hz1 hz2 rfl (by decide) v rs.length (flatR rs) hs hown.2 ⟨b, off, none⟩ us.length c (flatR us) hx (flatR_len us) (rules_cells hU) (flatR_one us) (by unfold maxLen; omega) (by omega) hB ?_
  intro v' w' h1 h2 h3
  obtain ⟨g, cap, cur, hv, _⟩ := hown.block
  have hne : ¬ v' = .slice none 0 0 := fun e => by have := (h3.1 e).1; rw [hv] at this; cases this
  rcases h1.2 with ⟨h0, _⟩ | ⟨g', cap', cur', hv', hB', hh', hl', hm', hs', ht'⟩
  · exact absurd h0 hne
  · subst hv'
    refine h g' cap' w' ⟨⟨g', cap', by simp, hB', by simpa using hl'⟩, ?_⟩ h2
    rw [flatR_append, List.length_append]
    exact h1
theorem ruleCells_set (rs : List RuleT) (j : Nat) (hj : j < rs.length) (x : RuleT) (i : Nat) : ruleCells (rs.set j x) i = if i / 2 = j then .string (if i % 2 = 0 then x.1 else x.2) else ruleCells rs i := by
  unfold ruleCells
  rw [List.getElem?_set]
  by_cases h : i / 2 = j
  · rw [if_pos h, if_pos h.symm, if_pos hj]
  · rw [if_neg h, if_neg (fun e => h e.symm)]
/-- one cell of the rules is written anew -/
theorem own_set {w : World} {B g cap n : Nat} {rs rs' : List RuleT} (h : OwnR w B (.slice (some ⟨g, 0, none⟩) n cap) rs) (i : Nat) (u : Value) (hi : i < rs.length * 2) (hl : rs'.length = rs.length) (hu : ∀ q, q < rs.length * 2 → ruleCells rs' q = if q = i then u else ruleCells rs q) :
    OwnR (w.setCell ⟨g, i, none⟩ u) B (.slice (some ⟨g, 0, none⟩) n cap) rs' := by
  obtain ⟨g', cap', cur, e, hgB, hlc, hh, hcs, ht⟩ := h.block
  simp only [Value.slice.injEq, Option.some.injEq, Addr.mk.injEq] at e
  obtain ⟨⟨rfl, _⟩, rfl, rfl⟩ := e
  have hm : cap ≤ maxLen := by
    rcases h.2.2 with ⟨h, _⟩ | ⟨g', cap', cur', hv, _, _, _, hm, _⟩
    · cases h
    · simp only [Value.slice.injEq] at hv
      rw [hv.2.2]; exact hm
  refine ⟨⟨g, cap, by rw [hl], hgB, by omega⟩, by rw [flatR_len], .inr ⟨g, cap, cur.setIfInBounds i u, by rw [hl], hgB, by simp [World.setCell, Array.getElem?_modify, hh], by omega, hm, by simpa using hcs, ?_⟩⟩
  apply List.ext_getElem?
  intro q
  rw [hl, List.getElem?_take]
  by_cases hq : q < rs.length * 2
  · rw [if_pos hq, flatR_at rs' q (by omega), hu q hq, Array.toList_setIfInBounds, List.getElem?_set]
    have hcq : cur.toList[q]? = some (ruleCells rs q) := by rw [← flatR_at rs q hq, ← ht, List.getElem?_take, if_pos hq]
    by_cases hqi : q = i
    · subst hqi
      rw [if_pos rfl, if_pos (by simp; omega), if_pos rfl]
    · rw [if_neg (fun e => hqi e.symm), if_neg hqi, hcq]
  · rw [if_neg hq, List.getElem?_eq_none (by rw [flatR_len]; omega)]
theorem own_cell {w : World} {B g cap n : Nat} {rs : List RuleT} (h : OwnR w B (.slice (some ⟨g, 0, none⟩) n cap) rs) (q : Nat) (hq : q < rs.length * 2) : w.cell? ⟨g, q, none⟩ = some (ruleCells rs q) ∧ w.frozen? ⟨g, q, none⟩ = false := by
  obtain ⟨g', cap', cur, e, hgB, hlc, hh, hcs, ht⟩ := h.block
  simp only [Value.slice.injEq, Option.some.injEq, Addr.mk.injEq] at e
  obtain ⟨⟨rfl, _⟩, rfl, rfl⟩ := e
  refine ⟨?_, frozen_of_block hh q⟩
  rw [cell_of_block hh q, ← flatR_at rs q hq, ← ht, List.getElem?_take, if_pos hq]; simp
theorem lit_rules (w : World) (l r : ByteArray) (h1 : l.size ≤ 5) (h2 : r.size ≤ 5) : RulesAt (w.alloc (.cells #[.string l, .string r] 159)) (some ⟨w.heap.size, 0, none⟩) [(l, r)] :=
  rulesAt_of_row (row_flat w [(l, r)] 159 rfl) ⟨by unfold maxLen; simp, fun i hi => by
    match i, hi with
    | 0, _ => unfold maxLen; exact ⟨by show l.size ≤ _; omega, by show r.size ≤ _; omega⟩⟩
end Go.Proofs.YtpkejcjjbkgomaaDoor
