/- The model's GramBigs and GramSmalls tell what the program's do. -/
import Derived.Test.YtiejfbodcjckeaaSymB
namespace Go.Proofs.Ytiejfbodcjckeaa
open Go.ChangeShapes Go.WideShapes Go.ChangeAt Go.RowKit
set_option maxRecDepth 100000
def pick5 (a b c d e : Bool) : List UInt8 := (if a then [65] else []) ++ ((if b then [66] else []) ++ ((if c then [67] else []) ++ ((if d then [68] else []) ++ (if e then [69] else []))))
def pick4 (a b c d : Bool) : List UInt8 := (if a then [97] else []) ++ ((if b then [98] else []) ++ ((if c then [99] else []) ++ (if d then [100] else [])))
theorem symsL_five (t : List UInt8) : symsL t 65 5 = pick5 (t.contains 65) (t.contains 66) (t.contains 67) (t.contains 68) (t.contains 69) := by
  have e : (List.range 5).map (fun i => byteN (65 + i)) = [65, 66, 67, 68, 69] := by decide
  unfold symsL pick5
  rw [e]
  simp only [List.filter]
  cases t.contains 65 <;> cases t.contains 66 <;> cases t.contains 67 <;> cases t.contains 68 <;> cases t.contains 69 <;> rfl
theorem symsL_four (t : List UInt8) : symsL t 97 4 = pick4 (t.contains 97) (t.contains 98) (t.contains 99) (t.contains 100) := by
  have e : (List.range 4).map (fun i => byteN (97 + i)) = [97, 98, 99, 100] := by decide
  unfold symsL pick4
  rw [e]
  simp only [List.filter]
  cases t.contains 97 <;> cases t.contains 98 <;> cases t.contains 99 <;> cases t.contains 100 <;> rfl
theorem ins5 (a b c d e : Bool) : insL (pick5 a b c d e) 65 = pick5 true b c d e ∧ insL (pick5 a b c d e) 66 = pick5 a true c d e ∧ insL (pick5 a b c d e) 67 = pick5 a b true d e ∧ insL (pick5 a b c d e) 68 = pick5 a b c true e ∧ insL (pick5 a b c d e) 69 = pick5 a b c d true := by
  cases a <;> cases b <;> cases c <;> cases d <;> cases e <;> decide
theorem ins4 (a b c d : Bool) : insL (pick4 a b c d) 97 = pick4 true b c d ∧ insL (pick4 a b c d) 98 = pick4 a true c d ∧ insL (pick4 a b c d) 99 = pick4 a b true d ∧ insL (pick4 a b c d) 100 = pick4 a b c true := by
  cases a <;> cases b <;> cases c <;> cases d <;> decide
theorem contains_snoc (l : List UInt8) (c x : UInt8) : (l ++ [c]).contains x = (l.contains x || c == x) := by
  rw [Bool.eq_iff_iff]
  simp only [List.contains_iff_mem, List.mem_append, List.mem_singleton, Bool.or_eq_true, beq_iff_eq]
  constructor
  · rintro (h | h)
    · exact .inl h
    · exact .inr h.symm
  · rintro (h | h)
    · exact .inl h
    · exact .inr h.symm
theorem bigN_cases {c : UInt8} (h : bigN (c.toNat : Int) = true) : c = 65 ∨ c = 66 ∨ c = 67 ∨ c = 68 ∨ c = 69 := by
  simp [bigN] at h
  have : c.toNat = 65 ∨ c.toNat = 66 ∨ c.toNat = 67 ∨ c.toNat = 68 ∨ c.toNat = 69 := by omega
  rcases this with h | h | h | h | h
  · exact .inl (UInt8.toNat_inj.1 h)
  · exact .inr (.inl (UInt8.toNat_inj.1 h))
  · exact .inr (.inr (.inl (UInt8.toNat_inj.1 h)))
  · exact .inr (.inr (.inr (.inl (UInt8.toNat_inj.1 h))))
  · exact .inr (.inr (.inr (.inr (UInt8.toNat_inj.1 h))))
theorem smallN_cases {c : UInt8} (h : smallN (c.toNat : Int) = true) : c = 97 ∨ c = 98 ∨ c = 99 ∨ c = 100 := by
  simp [smallN] at h
  have : c.toNat = 97 ∨ c.toNat = 98 ∨ c.toNat = 99 ∨ c.toNat = 100 := by omega
  rcases this with h | h | h | h
  · exact .inl (UInt8.toNat_inj.1 h)
  · exact .inr (.inl (UInt8.toNat_inj.1 h))
  · exact .inr (.inr (.inl (UInt8.toNat_inj.1 h)))
  · exact .inr (.inr (.inr (UInt8.toNat_inj.1 h)))
theorem snoc_ind {P : List UInt8 → Prop} (h0 : P []) (h1 : ∀ l c, P l → P (l ++ [c])) (l : List UInt8) : P l := by
  generalize hn : l.length = n
  induction n generalizing l with
  | zero => obtain rfl : l = [] := List.eq_nil_of_length_eq_zero hn; exact h0
  | succ n ih =>
    obtain ⟨m, c, rfl⟩ : ∃ m c, l = m ++ [c] := ⟨l.dropLast, l.getLast (by intro h; rw [h] at hn; cases hn), (List.dropLast_concat_getLast _).symm⟩
    exact h1 m c (ih m (by simpa using hn))
theorem signs_big (l : List UInt8) (h : ∀ c ∈ l, symN (c.toNat : Int) = true) : signsOf true l = symsL l 65 5 := by
  revert h
  refine snoc_ind (P := fun l => (∀ c ∈ l, symN (c.toNat : Int) = true) → signsOf true l = symsL l 65 5) ?_ ?_ l
  · intro _; rfl
  · intro l c ih h
    have ih' := ih (fun x hx => h x (by simp [hx]))
    have hc := h c (by simp)
    rw [signsOf_snoc, ih', symsL_five, symsL_five]
    simp only [contains_snoc]
    by_cases hb : bigN (c.toNat : Int) = true
    · rw [if_pos hb]
      obtain ⟨i1, i2, i3, i4, i5⟩ := ins5 (l.contains 65) (l.contains 66) (l.contains 67) (l.contains 68) (l.contains 69)
      rcases bigN_cases hb with rfl | rfl | rfl | rfl | rfl
      · rw [i1]; simp
      · rw [i2]; simp
      · rw [i3]; simp
      · rw [i4]; simp
      · rw [i5]; simp
    · rw [if_neg hb]
      have hs : smallN (c.toNat : Int) = true := by simp [symN] at hc; rcases hc with hc | hc
                                                    · exact absurd hc hb
                                                    · exact hc
      rcases smallN_cases hs with rfl | rfl | rfl | rfl <;> simp
theorem signs_small (l : List UInt8) (h : ∀ c ∈ l, symN (c.toNat : Int) = true) : signsOf false l = symsL l 97 4 := by
  revert h
  refine snoc_ind (P := fun l => (∀ c ∈ l, symN (c.toNat : Int) = true) → signsOf false l = symsL l 97 4) ?_ ?_ l
  · intro _; rfl
  · intro l c ih h
    have ih' := ih (fun x hx => h x (by simp [hx]))
    have hc := h c (by simp)
    rw [signsOf_snoc, ih', symsL_four, symsL_four]
    simp only [contains_snoc]
    by_cases hb : bigN (c.toNat : Int) = true
    · rw [if_neg (by rw [hb]; simp)]
      rcases bigN_cases hb with rfl | rfl | rfl | rfl | rfl <;> simp
    · rw [if_pos (by simpa using hb)]
      have hs : smallN (c.toNat : Int) = true := by simp [symN] at hc; rcases hc with hc | hc
                                                    · exact absurd hc hb
                                                    · exact hc
      obtain ⟨i1, i2, i3, i4⟩ := ins4 (l.contains 97) (l.contains 98) (l.contains 99) (l.contains 100)
      rcases smallN_cases hs with rfl | rfl | rfl | rfl
      · rw [i1]; simp
      · rw [i2]; simp
      · rw [i3]; simp
      · rw [i4]; simp
theorem text_mem (st : ByteArray) (rs : List RuleT) (k : Nat) (c : UInt8) (h1 : c ≠ 10) (h2 : c ≠ 62) : c ∈ textTo st rs k ↔ c ∈ allTo st rs k := by
  unfold textTo allTo ruleTextL
  simp [h1, h2]
theorem text_contains (st : ByteArray) (rs : List RuleT) (k : Nat) (c : UInt8) (h1 : c ≠ 10) (h2 : c ≠ 62) : (textTo st rs k).contains c = (allTo st rs k).contains c := by
  rw [Bool.eq_iff_iff]; simpa using text_mem st rs k c h1 h2
theorem isBigS_mem {s : ByteArray} (h : isBigS s = true) : ∀ c ∈ s.data.toList, symN (c.toNat : Int) = true := by
  simp only [isBigS, Bool.and_eq_true, decide_eq_true_eq, byteAt] at h
  obtain ⟨h1, h2⟩ := h
  have hl : s.data.toList.length = 1 := by simpa using h1
  match hs : s.data.toList, hl with
  | [x], _ =>
    rw [hs] at h2
    intro c hc
    obtain rfl : c = x := by simpa using hc
    have : bigN (c.toNat : Int) = true := by simpa using h2
    simp [symN, this]
theorem allTo_syms {st : ByteArray} {rs : List RuleT} (h : gramOkB st rs = true) : ∀ c ∈ allTo st rs rs.length, symN (c.toNat : Int) = true := by
  unfold gramOkB at h
  simp only [Bool.and_eq_true, decide_eq_true_eq, List.all_eq_true, List.mem_range] at h
  obtain ⟨h1, _, h3⟩ := h
  intro c hc
  unfold allTo at hc
  rw [List.take_of_length_le (Nat.le_refl _)] at hc
  rcases List.mem_append.1 hc with hc | hc
  · exact isBigS_mem h1 c hc
  · obtain ⟨r, hr, hc⟩ := List.mem_flatMap.1 hc
    obtain ⟨i, hi, rfl⟩ := List.getElem_of_mem hr
    have h4 := h3 i hi
    rw [goodB_at hi] at h4
    simp only [ruleOkB, Bool.and_eq_true, decide_eq_true_eq] at h4
    rcases List.mem_append.1 hc with hc | hc
    · exact isBigS_mem h4.1.1 c hc
    · have h5 := h4.1.2.2
      unfold allSym symsTo at h5
      rw [List.take_of_length_le (by simp), List.all_eq_true] at h5
      exact h5 c hc
theorem syms_bad (lo k : Nat) : symsL [] lo k = [] := by unfold symsL; simp
theorem bigs_eq {st : ByteArray} {rs : List RuleT} (h : gramOkB st rs = true) : signsOf true (allTo st rs rs.length) = symsL (gramTextL st rs) 65 5 := by
  rw [signs_big _ (allTo_syms h), symsL_five, symsL_five]
  unfold gramTextL
  rw [if_pos h]
  simp only [text_contains st rs rs.length 65 (by decide) (by decide), text_contains st rs rs.length 66 (by decide) (by decide), text_contains st rs rs.length 67 (by decide) (by decide), text_contains st rs rs.length 68 (by decide) (by decide), text_contains st rs rs.length 69 (by decide) (by decide)]
theorem smalls_eq {st : ByteArray} {rs : List RuleT} (h : gramOkB st rs = true) : signsOf false (allTo st rs rs.length) = symsL (gramTextL st rs) 97 4 := by
  rw [signs_small _ (allTo_syms h), symsL_four, symsL_four]
  unfold gramTextL
  rw [if_pos h]
  simp only [text_contains st rs rs.length 97 (by decide) (by decide), text_contains st rs rs.length 98 (by decide) (by decide), text_contains st rs rs.length 99 (by decide) (by decide), text_contains st rs rs.length 100 (by decide) (by decide)]

end Go.Proofs.Ytiejfbodcjckeaa
