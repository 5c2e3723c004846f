/- Reachable symbols: the least closed set; what the worklist keeps. -/
import Derived.Test.YtjpkohahabclgaaMetA
namespace Go.Proofs.Ytjpkohahabclgaa
open Go.ChangeShapes Go.WideShapes Go.ChangeAt Go.RowKit
set_option maxRecDepth 100000
def leftB (r : RuleT) : UInt8 := r.1.data.toList.headD 0
def metClosedB (st : ByteArray) (rs : List RuleT) (S : Nat) : Bool := (setN st.data.toList ||| S == S) && rs.all fun r => !hasN S (leftB r) || r.2.data.toList.all fun c => !bigN (c.toNat : Int) || hasN S c
def metLeast (st : ByteArray) (rs : List RuleT) : Nat := leastN (metClosedB st rs)
theorem metClosed_iff (st : ByteArray) (rs : List RuleT) (S : Nat) : metClosedB st rs S = true ↔ Sub (setN st.data.toList) S ∧ ∀ r ∈ rs, hasN S (leftB r) = true → ∀ c ∈ r.2.data.toList, bigN (c.toNat : Int) = true → hasN S c = true := by
  unfold metClosedB
  rw [Bool.and_eq_true, List.all_eq_true, beq_iff_eq]
  constructor
  · rintro ⟨h1, h2⟩
    refine ⟨h1, fun r hr hl c hc hb => ?_⟩
    have h3 := h2 r hr
    rw [hl] at h3
    simp only [Bool.not_true, Bool.false_or, List.all_eq_true] at h3
    have h4 := h3 c hc
    rw [hb] at h4
    simpa using h4
  · rintro ⟨h1, h2⟩
    refine ⟨h1, fun r hr => ?_⟩
    cases hl : hasN S (leftB r) with
    | false => rfl
    | true =>
      simp only [Bool.not_true, Bool.false_or, List.all_eq_true]
      intro c hc
      cases hb : bigN (c.toNat : Int) with
      | false => rfl
      | true => simpa using h2 r hr hl c hc hb
theorem meetM_sub (m : Nat) (c : UInt8) : Sub m (meetM m c) := by
  unfold meetM; split
  · exact sub_or_left _ _
  · exact Sub.refl _
theorem meetM_has {m : Nat} {c : UInt8} (hb : bigN (c.toNat : Int) = true) : hasN (meetM m c) c = true := by
  unfold meetM
  split
  · rw [hasN_or, hasN_self (bigs_ord hb)]; simp
  · rename_i h
    simp only [meets, hb, Bool.true_and, Bool.not_eq_true, Bool.not_eq_false'] at h
    exact h
theorem meetM_least {m S : Nat} {c : UInt8} (hS : S < 1024) (h : Sub m S) (hc : bigN (c.toNat : Int) = true → hasN S c = true) : Sub (meetM m c) S := by
  unfold meetM
  split
  · rename_i hm
    simp only [meets, Bool.and_eq_true] at hm
    exact h.or (sub_bit hS (hc hm.1))
  · exact h
theorem meetL_mem {m : Nat} {l : List UInt8} {c d : UInt8} (h : d ∈ l) : d ∈ meetL m l c := by
  unfold meetL; split
  · exact List.mem_append_left _ h
  · exact h
theorem meetL_from {m : Nat} {l : List UInt8} {c d : UInt8} (h : d ∈ meetL m l c) : d ∈ l ∨ (d = c ∧ bigN (c.toNat : Int) = true) := by
  unfold meetL at h
  split at h
  · rename_i hm
    simp only [meets, Bool.and_eq_true] at hm
    rcases List.mem_append.1 h with h | h
    · exact .inl h
    · exact .inr ⟨by simpa using h, hm.1⟩
  · exact .inl h
/-- what is new is in the list -/
theorem meet_new {m : Nat} {l : List UInt8} {c d : UInt8} (hd : d ∈ ordL) (h : hasN (meetM m c) d = true) (hn : hasN m d = false) : d ∈ meetL m l c := by
  unfold meetM at h
  unfold meetL
  split at h
  · rename_i hmm
    rw [if_pos hmm]
    rw [hasN_or, hn, Bool.false_or] at h
    simp only [meets, Bool.and_eq_true] at hmm
    have := List.all_eq_true.1 (List.all_eq_true.1 hasN_bit_all c (bigs_ord hmm.1)) d hd
    rw [h] at this
    have e : c = d := by simpa using this
    rw [e]; simp
  · rw [hn] at h; cases h
def pot (m : Nat) (l : List UInt8) : Nat := 2 * (10 - pc m) + l.length
theorem meet_pot {m : Nat} {l : List UInt8} {c : UInt8} (h1 : m < 1024) (h2 : Sub m 62) : meetM m c < 1024 ∧ Sub (meetM m c) 62 ∧ pot (meetM m c) (meetL m l c) ≤ pot m l := by
  cases h : meets m c with
  | false => unfold meetM meetL; rw [h]; exact ⟨h1, h2, Nat.le_refl _⟩
  | true =>
    have hh := h
    unfold meets at hh
    rw [Bool.and_eq_true] at hh
    have hn' : hasN m c = false := by simpa using hh.2
    have hp := pc_add h1 (bigs_ord hh.1) hn'
    have hlt := or_lt h1 (bitN_lt c)
    have hs := h2.or (bit_big hh.1)
    have h5 := pc_big hlt hs
    unfold meetM meetL
    rw [h]
    refine ⟨hlt, hs, ?_⟩
    simp only [if_true, pot, List.length_append, List.length_cons, List.length_nil]
    omega
theorem fold_pot : ∀ (s : List UInt8) {m : Nat} {l : List UInt8}, m < 1024 → Sub m 62 → pot (foldM s m) (foldL s m l) ≤ pot m l
  | [], _, _, _, _ => Nat.le_refl _
  | c :: s, m, l, h1, h2 => by
    obtain ⟨h3, h4, h5⟩ := meet_pot (l := l) (c := c) h1 h2
    exact Nat.le_trans (fold_pot s h3 h4) h5
theorem foldM_sub : ∀ (s : List UInt8) (m : Nat), Sub m (foldM s m)
  | [], m => Sub.refl m
  | c :: s, m => (meetM_sub m c).trans (foldM_sub s _)
theorem foldM_has : ∀ (s : List UInt8) (m : Nat), ∀ c ∈ s, bigN (c.toNat : Int) = true → hasN (foldM s m) c = true
  | [], _, c, h, _ => by cases h
  | d :: s, m, c, h, hb => by
    rcases List.mem_cons.1 h with rfl | h
    · exact hasN_mono (foldM_sub s _) (meetM_has hb)
    · exact foldM_has s _ c h hb
theorem foldM_least : ∀ (s : List UInt8) {m S : Nat}, S < 1024 → Sub m S → (∀ c ∈ s, bigN (c.toNat : Int) = true → hasN S c = true) → Sub (foldM s m) S
  | [], _, _, _, h, _ => h
  | c :: s, _, _, hS, h, hc => foldM_least s hS (meetM_least hS h (hc c (List.mem_cons_self ..))) (fun d hd => hc d (List.mem_cons_of_mem _ hd))
theorem foldL_mem : ∀ (s : List UInt8) {m : Nat} {l : List UInt8} {d : UInt8}, d ∈ l → d ∈ foldL s m l
  | [], _, _, _, h => h
  | _ :: s, _, _, _, h => foldL_mem s (meetL_mem h)
theorem foldL_from : ∀ (s : List UInt8) {m : Nat} {l : List UInt8} {d : UInt8}, d ∈ foldL s m l → d ∈ l ∨ (d ∈ s ∧ bigN (d.toNat : Int) = true)
  | [], _, _, _, h => .inl h
  | c :: s, m, l, d, h => by
    rcases foldL_from s h with h | h
    · rcases meetL_from h with h | ⟨rfl, hb⟩
      · exact .inl h
      · exact .inr ⟨List.mem_cons_self .., hb⟩
    · exact .inr ⟨List.mem_cons_of_mem _ h.1, h.2⟩
theorem fold_new : ∀ (s : List UInt8) {m : Nat} {l : List UInt8} {d : UInt8}, m < 1024 → Sub m 62 → d ∈ ordL → hasN (foldM s m) d = true → hasN m d = false → d ∈ foldL s m l
  | [], m, l, d, _, _, _, h, hn => by
    have h' : hasN m d = true := h
    rw [hn] at h'; cases h'
  | c :: s, m, l, d, h1, h2, hd, h, hn => by
    obtain ⟨h3, h4, _⟩ := meet_pot (l := l) (c := c) h1 h2
    cases hc : hasN (meetM m c) d with
    | true => exact foldL_mem s (meet_new hd hc hn)
    | false => exact fold_new s h3 h4 hd h hc
/-- the rules of d are worked off in m -/
def Worked (rs : List RuleT) (m : Nat) (d : UInt8) (k : Nat) : Prop := ∀ j (h : j < rs.length), j < k → leftB rs[j] = d → ∀ c ∈ rs[j].2.data.toList, bigN (c.toNat : Int) = true → hasN m c = true
theorem Worked.mono {rs : List RuleT} {m m' : Nat} {d : UInt8} {k : Nat} (h : Worked rs m d k) (hs : Sub m m') : Worked rs m' d k := fun j hj hk hl c hc hb => hasN_mono hs (h j hj hk hl c hc hb)
/-- what holds of the set and the list between two rounds; but for x, all that is met and not in the list is worked off -/
def MetI (st : ByteArray) (rs : List RuleT) (m : Nat) (l : List UInt8) (x : Option UInt8) : Prop :=
  Sub (setN st.data.toList) m ∧ (∀ S, S < 1024 → metClosedB st rs S = true → Sub m S) ∧ (∀ d ∈ l, bigN (d.toNat : Int) = true ∧ hasN m d = true) ∧ ∀ d ∈ ordL, hasN m d = true → d ∉ l → some d ≠ x → Worked rs m d rs.length
theorem MetI.fold {st : ByteArray} {rs : List RuleT} {m : Nat} {l : List UInt8} {d : UInt8} (h : MetI st rs m l (some d)) (h1 : m < 1024) (h2 : Sub m 62) (hd : hasN m d = true) {k : Nat} (hk : k < rs.length) (hl : leftB rs[k] = d) :
    MetI st rs (foldM rs[k].2.data.toList m) (foldL rs[k].2.data.toList m l) (some d) := by
  obtain ⟨a1, a2, a3, a4⟩ := h
  have hs := foldM_sub rs[k].2.data.toList m
  refine ⟨a1.trans hs, fun S hS hc => foldM_least _ hS (a2 S hS hc) (fun c hc' hb => ((metClosed_iff st rs S).1 hc).2 rs[k] (List.getElem_mem hk) (by rw [hl]; exact hasN_mono (a2 S hS hc) hd) c hc' hb), fun e he => ?_, fun e he hm hnl hx => ?_⟩
  · rcases foldL_from _ he with he | ⟨hes, hb⟩
    · exact ⟨(a3 e he).1, hasN_mono hs (a3 e he).2⟩
    · exact ⟨hb, foldM_has _ _ e hes hb⟩
  · cases hme : hasN m e with
    | true => exact (a4 e he hme (fun h => hnl (foldL_mem _ h)) hx).mono hs
    | false => exact absurd (fold_new _ h1 h2 he hm hme) hnl
theorem MetI.done {st : ByteArray} {rs : List RuleT} {m : Nat} {l : List UInt8} {d : UInt8} (h : MetI st rs m l (some d)) (hw : Worked rs m d rs.length) : MetI st rs m l none := by
  obtain ⟨a1, a2, a3, a4⟩ := h
  refine ⟨a1, a2, a3, fun e he hm hnl _ => ?_⟩
  by_cases hed : e = d
  · rw [hed]; exact hw
  · exact a4 e he hm hnl (fun h => hed (by simpa using h))
theorem MetI.pop {st : ByteArray} {rs : List RuleT} {m : Nat} {l : List UInt8} {d : UInt8} (h : MetI st rs m (d :: l) none) : MetI st rs m l (some d) := by
  obtain ⟨a1, a2, a3, a4⟩ := h
  refine ⟨a1, a2, fun e he => a3 e (List.mem_cons_of_mem _ he), fun e he hm hnl hx => a4 e he hm (fun hh => ?_) (by simp)⟩
  rcases List.mem_cons.1 hh with rfl | hh
  · exact hx rfl
  · exact hnl hh
theorem MetI.fin {st : ByteArray} {rs : List RuleT} {m : Nat} (h : MetI st rs m [] none) (hm : m < 1024) : metLeast st rs = m := by
  obtain ⟨a1, a2, _, a4⟩ := h
  refine leastN_eq ?_ hm a2
  rw [metClosed_iff]
  refine ⟨a1, fun r hr hl c hc hb => ?_⟩
  obtain ⟨j, hj, rfl⟩ := List.getElem_of_mem hr
  exact a4 (leftB rs[j]) (hasN_mem hl) hl (by simp) (by simp) j hj hj rfl c hc hb
theorem MetI.start {st : ByteArray} {rs : List RuleT} {c : UInt8} (hst : st = ⟨#[c]⟩) (hb : bigN (c.toNat : Int) = true) : MetI st rs (bitN c) [c] none := by
  subst hst
  refine ⟨by rw [show (⟨#[c]⟩ : ByteArray).data.toList = [c] from rfl, setN_one]; exact Sub.refl _, fun S _ hc => ?_, fun d hd => ?_, fun d hd hm hnl _ => ?_⟩
  · have := ((metClosed_iff _ rs S).1 hc).1
    rwa [show (⟨#[c]⟩ : ByteArray).data.toList = [c] from rfl, setN_one] at this
  · obtain rfl : d = c := by simpa using hd
    exact ⟨hb, hasN_self (bigs_ord hb)⟩
  · have := List.all_eq_true.1 (List.all_eq_true.1 hasN_bit_all c (bigs_ord hb)) d hd
    rw [hm] at this
    have e : c = d := by simpa using this
    exact absurd (by rw [e]; simp) hnl
end Go.Proofs.Ytjpkohahabclgaa
