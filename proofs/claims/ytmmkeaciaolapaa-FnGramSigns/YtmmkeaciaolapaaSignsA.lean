/- What the signs of a grammar that is right are. -/
import Derived.Test.YtmmkeaciaolapaaHas
import Derived.Test.YtmmkeaciaolapaaDrawH
namespace Go.Proofs.Ytmmkeaciaolapaa
open Go.ChangeShapes Go.WideShapes Go.ChangeAt Go.RowKit
set_option maxRecDepth 100000
theorem pick5_at (a b c d e : Bool) : ∀ k, k < 5 → k < (pick5 a b c d e).length → isBigS ((bytesOf (pick5 a b c d e)).extract k (k + 1)) = true := by
  cases a <;> cases b <;> cases c <;> cases d <;> cases e <;> decide +kernel
theorem pick4_at (a b c d : Bool) : ∀ k, k < 4 → k < (pick4 a b c d).length → isSmallS ((bytesOf (pick4 a b c d)).extract k (k + 1)) = true := by
  cases a <;> cases b <;> cases c <;> cases d <;> decide +kernel
theorem pick5_up (a b c d e : Bool) : ∀ k, k < 5 → k + 1 < (pick5 a b c d e).length → byteAt (bytesOf (pick5 a b c d e)) k < byteAt (bytesOf (pick5 a b c d e)) (k + 1) := by
  cases a <;> cases b <;> cases c <;> cases d <;> cases e <;> decide +kernel
theorem pick4_up (a b c d : Bool) : ∀ k, k < 4 → k + 1 < (pick4 a b c d).length → byteAt (bytesOf (pick4 a b c d)) k < byteAt (bytesOf (pick4 a b c d)) (k + 1) := by
  cases a <;> cases b <;> cases c <;> cases d <;> decide +kernel
/-- signs: each is one, and they ascend -/
def Signs (f : ByteArray → Bool) (s : ByteArray) : Prop := s.size ≤ 5 ∧ (∀ k, k < s.size → f (s.extract k (k + 1)) = true) ∧ ∀ k (h : k + 1 < s.size), ((s[k].toNat : Nat) : Int) < ((s[k + 1].toNat : Nat) : Int)
theorem bigs_signs (T : List UInt8) : Signs isBigS (bytesOf (symsL T 65 5)) := by
  have hl := symsL_len T 65 5
  refine ⟨by rw [bytesOf_size]; exact hl, fun k hk => ?_, fun k hk => ?_⟩
  · rw [bytesOf_size] at hk
    rw [symsL_five] at hk hl ⊢
    exact pick5_at _ _ _ _ _ k (by omega) hk
  · rw [byteAt_get _ _ (by omega), byteAt_get _ _ hk]
    rw [bytesOf_size] at hk
    rw [symsL_five] at hk hl ⊢
    exact pick5_up _ _ _ _ _ k (by omega) hk
theorem smalls_signs (T : List UInt8) : Signs isSmallS (bytesOf (symsL T 97 4)) := by
  have hl := symsL_len T 97 4
  refine ⟨by rw [bytesOf_size]; omega, fun k hk => ?_, fun k hk => ?_⟩
  · rw [bytesOf_size] at hk
    rw [symsL_four] at hk hl ⊢
    exact pick4_at _ _ _ _ k (by omega) hk
  · rw [byteAt_get _ _ (by omega), byteAt_get _ _ hk]
    rw [bytesOf_size] at hk
    rw [symsL_four] at hk hl ⊢
    exact pick4_up _ _ _ _ k (by omega) hk
theorem mem_syms {T : List UInt8} {c : UInt8} {lo k : Nat} (h : c ∈ T) (h1 : lo ≤ c.toNat) (h2 : c.toNat < lo + k) : c ∈ symsL T lo k := by
  unfold symsL
  rw [List.mem_filter, List.mem_map]
  refine ⟨⟨c.toNat - lo, by simp; omega, ?_⟩, by simpa using h⟩
  rw [show lo + (c.toNat - lo) = c.toNat from by omega]
  unfold byteN
  simp
theorem in_text {st : ByteArray} {rs : List RuleT} (h : gramOkB st rs = true) {c : UInt8} (hc : c ∈ allTo st rs rs.length) : c ∈ gramTextL st rs ∧ symN (c.toNat : Int) = true := by
  have hs := allTo_syms h c hc
  refine ⟨?_, hs⟩
  unfold gramTextL
  rw [if_pos h]
  have hn : 65 ≤ c.toNat := by simp [symN, bigN, smallN] at hs; omega
  exact (text_mem st rs rs.length c (fun e => by subst e; revert hn; decide) (fun e => by subst e; revert hn; decide)).2 hc
theorem hasB_mem {l : List UInt8} {c : UInt8} (h : c ∈ l) : hasB (bytesOf l) ((c.toNat : Nat) : Int) = true := by
  unfold hasB bytesOf
  rw [List.any_eq_true]
  exact ⟨c, h, by simp⟩
theorem has_big {st : ByteArray} {rs : List RuleT} (h : gramOkB st rs = true) {c : UInt8} (hc : c ∈ allTo st rs rs.length) (hb : bigN (c.toNat : Int) = true) : c ∈ symsL (gramTextL st rs) 65 5 := by
  simp [bigN] at hb
  exact mem_syms (in_text h hc).1 (by omega) (by omega)
theorem has_both {st : ByteArray} {rs : List RuleT} (h : gramOkB st rs = true) {c : UInt8} (hc : c ∈ allTo st rs rs.length) : hasB (bytesOf (cat (symsL (gramTextL st rs) 65 5) (bytesOf (symsL (gramTextL st rs) 97 4)))) ((c.toNat : Nat) : Int) = true := by
  apply hasB_mem
  unfold cat
  rw [List.mem_append]
  obtain ⟨h1, h2⟩ := in_text h hc
  unfold symN at h2
  rw [Bool.or_eq_true] at h2
  rcases h2 with h2 | h2
  · exact .inl (has_big h hc h2)
  · simp [smallN] at h2
    exact .inr (mem_syms h1 (by omega) (by omega))
theorem right_in {st : ByteArray} {rs : List RuleT} {i k : Nat} (hi : i < rs.length) (hk : k < rs[i].2.size) : rs[i].2[k] ∈ allTo st rs rs.length := by
  unfold allTo
  rw [List.take_of_length_le (Nat.le_refl _), List.mem_append, List.mem_flatMap]
  refine .inr ⟨rs[i], List.getElem_mem hi, List.mem_append.2 (.inr ?_)⟩
  show rs[i].2.data[k] ∈ _
  simp
theorem start_in {st : ByteArray} {rs : List RuleT} (h : 0 < st.size) : st[0] ∈ allTo st rs rs.length := by
  unfold allTo
  rw [List.mem_append]
  refine .inl ?_
  show st.data[0] ∈ _
  simp
theorem start_has {st : ByteArray} {rs : List RuleT} (h : gramOkB st rs = true) (h0 : 0 < st.size) : hasB (bytesOf (symsL (gramTextL st rs) 65 5)) ((st[0].toNat : Nat) : Int) = true :=
  hasB_mem (has_big h (start_in h0) (isBigS_big (ok_big h) _ (by show st.data[0] ∈ _; simp)))
end Go.Proofs.Ytmmkeaciaolapaa
