/- The contract of symbolsBetween, GramBigs and GramSmalls of the program. -/
import Derived.Test.YtngekjbdjnfhmaaDoorTextB
import Derived.Laws.IdiomStrings
import Derived.Lib.BufferRead
import Derived.BigRegion
namespace Go.Proofs.YtngekjbdjnfhmaaDoor
open Go.ChangeShapes Go.WideShapes Go.ChangeAt Go.RowKit
set_option maxRecDepth 100000
theorem infoByte : (Tryd.prog.info? 5).map (fun i => (i.zero, i.size, i.bytes)) = some (some (.int .u8 0), 1, 1) := by kernel_rfl
/-- the place of a byte in a text, or -1 -/
def placeB (t : List UInt8) (c : Int) : Int := Lib.indexByte t c.toNat.toUInt8
theorem indexByte_mem (t : List UInt8) (c : UInt8) : (0 ≤ Lib.indexByte t c ↔ c ∈ t) ∧ -1 ≤ Lib.indexByte t c := by
  induction t with
  | nil => simp [Lib.indexByte]
  | cons b l ih =>
    unfold Lib.indexByte
    by_cases h : b = c
    · subst h; simp
    · have h' : (b == c) = false := by simpa using h
      rw [h']
      simp only [Bool.false_eq_true, if_false]
      by_cases h2 : Lib.indexByte l c = -1
      · rw [if_pos (by simpa using h2)]
        have : ¬ c ∈ l := fun hm => by have := ih.1.2 hm; omega
        simp [this, Ne.symm h]
      · rw [if_neg (by simpa using h2)]
        have h3 : 0 ≤ Lib.indexByte l c := by have := ih.2; omega
        have := ih.1.1 h3
        simp [this]
        omega
theorem placeB_any (s : ByteArray) (c : Int) (w : World) :
    Calls Tryd.prog 56 #[.string s, .int .u8 c] w fun e w' => e = .returned (.int .i64 (placeB s.data.toList c)) ∧ w = w' := indexByte_any s c w
def byteN (n : Nat) : UInt8 := UInt8.ofNat n
theorem byteN_toNat {n : Nat} (h : n < 256) : (byteN n).toNat = n := by unfold byteN; simp; omega
/-- of k bytes from lo on those that are in t -/
def symsL (t : List UInt8) (lo k : Nat) : List UInt8 := ((List.range k).map fun i => byteN (lo + i)).filter fun c => t.contains c
theorem symsL_succ (t : List UInt8) (lo k : Nat) : symsL t lo (k + 1) = symsL t lo k ++ (if 0 ≤ placeB t ((lo : Int) + (k : Int)) then [byteN (lo + k)] else []) := by
  have e : ((lo : Int) + (k : Int)).toNat.toUInt8 = byteN (lo + k) := by
    rw [show ((lo : Int) + (k : Int)).toNat = lo + k from by omega]; rfl
  have hm := (indexByte_mem t (byteN (lo + k))).1
  unfold symsL placeB
  rw [List.range_succ, List.map_append, List.filter_append, e]
  by_cases h : byteN (lo + k) ∈ t
  · rw [if_pos (hm.2 h)]; simp [h]
  · rw [if_neg (fun h' => h (hm.1 h'))]; simp [h]
theorem symsL_len (t : List UInt8) (lo k : Nat) : (symsL t lo k).length ≤ k := by
  unfold symsL
  have := List.length_filter_le (fun c => t.contains c) ((List.range k).map fun i => byteN (lo + i))
  simpa using this
theorem convert_own {B : Nat} {v : Value} {l : List UInt8} {w : World} (h : w.ownsRow B 5 1 v l.length (Lib.byteCells l)) : (convert 22 9 v).run Tryd.prog w = .ok (.string (bytesOf l)) w := by
  rcases h.2 with ⟨rfl, h0⟩ | ⟨g, cap, cur, rfl, _, hg, _, _, _, htk⟩
  · have : l = [] := List.eq_nil_of_length_eq_zero h0
    subst this
    exact Lib.run_convert_nil_bytes w _ _ 5 0 Tryd.underlying22 Tryd.underlying5 Tryd.underlying9
  · exact run_convert_bytes_back w _ _ 5 ⟨g, 0, none⟩ cap l Tryd.underlying22 Tryd.underlying5 Tryd.underlying9 (Lib.bytes_of_row hg (by simpa using htk))

end Go.Proofs.YtngekjbdjnfhmaaDoor
namespace Go.Proofs.YtngekjbdjnfhmaaDoor
open Go.ChangeShapes Go.WideShapes Go.ChangeAt Go.RowKit
set_option maxRecDepth 100000
/-- a byte put into bytes in order, once -/
def insL : List UInt8 → UInt8 → List UInt8
  | [], c => [c]
  | d :: r, c => if d.toNat < c.toNat then d :: insL r c else if d = c then d :: r else c :: d :: r
theorem insL_take : ∀ (l : List UInt8) (c : UInt8) (k : Nat), (∀ j (h : j < l.length), j < k → l[j].toNat < c.toNat) → insL l c = l.take k ++ insL (l.drop k) c
  | [], c, k, _ => by simp
  | d :: r, c, 0, _ => by simp
  | d :: r, c, k + 1, h => by
    have h0 := h 0 (by simp) (by omega)
    simp only [List.getElem_cons_zero] at h0
    rw [insL, if_pos h0, insL_take r c k (fun j hj hk => by have := h (j + 1) (by simpa using hj) (by omega); simpa using this)]
    simp
theorem insL_len : ∀ (l : List UInt8) (c : UInt8), (insL l c).length ≤ l.length + 1
  | [], c => by simp [insL]
  | d :: r, c => by
    have := insL_len r c
    unfold insL
    split
    · simp; omega
    · split <;> simp

theorem insL_at (l : List UInt8) (c : UInt8) (k : Nat) (h : ∀ j (h : j < l.length), j < k → l[j].toNat < c.toNat) (hk : ∀ hk : k < l.length, ¬ l[k].toNat < c.toNat ∧ l[k] ≠ c) : insL l c = l.take k ++ (c :: l.drop k) := by
  rw [insL_take l c k h]
  by_cases hl : k < l.length
  · rw [List.drop_eq_getElem_cons hl, insL, if_neg (hk hl).1, if_neg (hk hl).2]
  · rw [List.drop_eq_nil_of_le (by omega)]; rfl
theorem insL_same (l : List UInt8) (c : UInt8) (k : Nat) (h : ∀ j (h : j < l.length), j < k → l[j].toNat < c.toNat) (hk : k < l.length) (he : l[k] = c) : insL l c = l := by
  rw [insL_take l c k h, List.drop_eq_getElem_cons hk, insL, if_neg (by rw [he]; omega), if_pos he, ← List.drop_eq_getElem_cons hk, List.take_append_drop]
theorem take_cut (s : ByteArray) (k : Nat) : (s.extract 0 k).data.toList = s.data.toList.take k := by rw [Lib.extract_data]; simp
theorem add_cut (s : ByteArray) (c : UInt8) (k : Nat) (hs : s.size ≤ 1048576) (w : World) : (Op.stringOp .add (s.extract 0 k) (⟨#[c]⟩ : ByteArray)).run Tryd.prog w = .ok (.string (bytesOf (cat (s.data.toList.take k) (⟨#[c]⟩ : ByteArray)))) w := by
  have h : (s.data.toList.take k).length ≤ s.size := by simp; omega
  have := run_add_bytes (P := Tryd.prog) (s.data.toList.take k) (⟨#[c]⟩ : ByteArray) (by rw [one_size]; omega) w
  rwa [← take_cut, bytesOf_self, take_cut] at this
theorem add_cut2 (s : ByteArray) (c : UInt8) (k : Nat) (hs : s.size ≤ 1048576) (w : World) : (Op.stringOp .add (bytesOf (cat (s.data.toList.take k) (⟨#[c]⟩ : ByteArray))) (s.extract k s.size)).run Tryd.prog w = .ok (.string (bytesOf (cat (cat (s.data.toList.take k) (⟨#[c]⟩ : ByteArray)) (s.extract k s.size)))) w := by
  have h : (s.data.toList.take k).length ≤ s.size := by simp; omega
  have h2 : (s.extract k s.size).size ≤ s.size := by simp
  exact run_add_bytes (P := Tryd.prog) _ _ (by rw [cat_len, one_size]; omega) w
theorem cut_join (s : ByteArray) (c : UInt8) (k : Nat) : cat (cat (s.data.toList.take k) (⟨#[c]⟩ : ByteArray)) (s.extract k s.size) = s.data.toList.take k ++ (c :: s.data.toList.drop k) := by
  unfold cat
  rw [Lib.extract_data]
  simp
  rw [List.take_of_length_le (by simp)]
theorem convert_one (c : UInt8) (w : World) : (convert 22 9 (.slice (some ⟨w.heap.size, 0, none⟩) 1 1)).run Tryd.prog (w.alloc (.cells #[.int .u8 (c.toNat : Int)] 5)).drew = .ok (.string ⟨#[c]⟩) (w.alloc (.cells #[.int .u8 (c.toNat : Int)] 5)).drew :=
  run_convert_bytes_back _ _ _ 5 ⟨w.heap.size, 0, none⟩ 1 [c] Tryd.underlying22 Tryd.underlying5 Tryd.underlying9 (fun j hj => by
    match j, hj with
    | 0, _ => simp [Addr.add])

def allTo (st : ByteArray) (rs : List RuleT) (k : Nat) : List UInt8 := st.data.toList ++ (rs.take k).flatMap fun r => r.1.data.toList ++ r.2.data.toList
theorem allTo_zero (st : ByteArray) (rs : List RuleT) : bytesOf (allTo st rs 0) = st := by simp [allTo, bytesOf_self]
theorem allTo_succ (st : ByteArray) (rs : List RuleT) (k : Nat) (h : k < rs.length) : cat (cat (allTo st rs k) rs[k].1) rs[k].2 = allTo st rs (k + 1) := by
  unfold allTo cat
  rw [List.take_succ_eq_append_getElem h, List.flatMap_append]
  simp
theorem allTo_size {st : ByteArray} {rs : List RuleT} (h : gramOkB st rs = true) : ∀ k, k ≤ rs.length → (allTo st rs k).length ≤ 1 + 5 * k := by
  obtain ⟨h1, h2, h3⟩ := gramOk_facts h
  intro k
  induction k with
  | zero => intro _; simp [allTo]; omega
  | succ k ih =>
    intro hk
    have := ih (by omega)
    have h4 := h3 k (by omega)
    rw [← allTo_succ st rs k (by omega), cat_len, cat_len]
    omega
def signsOf (big : Bool) (l : List UInt8) : List UInt8 := l.foldl (fun o c => if bigN (c.toNat : Int) = big then insL o c else o) []
theorem signsOf_snoc (big : Bool) (l : List UInt8) (c : UInt8) : signsOf big (l ++ [c]) = if bigN (c.toNat : Int) = big then insL (signsOf big l) c else signsOf big l := by simp [signsOf]
theorem signsOf_len (big : Bool) (l : List UInt8) : (signsOf big l).length ≤ l.length := by
  generalize hn : l.length = n
  induction n generalizing l with
  | zero => obtain rfl : l = [] := List.eq_nil_of_length_eq_zero hn; simp [signsOf]
  | succ n ih =>
    obtain ⟨m, c, rfl⟩ : ∃ m c, l = m ++ [c] := ⟨l.dropLast, l.getLast (by intro h; rw [h] at hn; cases hn), (List.dropLast_concat_getLast _).symm⟩
    have := ih m (by simpa using hn)
    rw [signsOf_snoc]
    split
    · have := insL_len (signsOf big m) c; omega
    · omega

end Go.Proofs.YtngekjbdjnfhmaaDoor
namespace Go.Proofs.YtngekjbdjnfhmaaDoor
open Go.ChangeShapes Go.WideShapes Go.ChangeAt Go.RowKit
set_option maxRecDepth 100000
def pick5 (a b c d e : Bool) : List UInt8 := (if a then [65] else []) ++ ((if b then [66] else []) ++ ((if c then [67] else []) ++ ((if d then [68] else []) ++ (if e then [69] else []))))
def pick4 (a b c d : Bool) : List UInt8 := (if a then [97] else []) ++ ((if b then [98] else []) ++ ((if c then [99] else []) ++ (if d then [100] else [])))
theorem symsL_five (t : List UInt8) : symsL t 65 5 = pick5 (t.contains 65) (t.contains 66) (t.contains 67) (t.contains 68) (t.contains 69) := by
  have e : (List.range 5).map (fun i => byteN (65 + i)) = [65, 66, 67, 68, 69] := by decide
  unfold symsL pick5
  rw [e]
  simp only [List.filter]
  cases t.contains 65 <;> cases t.contains 66 <;> cases t.contains 67 <;> cases t.contains 68 <;> cases t.contains 69 <;> rfl
theorem symsL_four (t : List UInt8) : symsL t 97 4 = pick4 (t.contains 97) (t.contains 98) (t.contains 99) (t.contains 100) := by
  have e : (List.range 4).map (fun i => byteN (97 + i)) = [97, 98, 99, 100] := by decide
  unfold symsL pick4
  rw [e]
  simp only [List.filter]
  cases t.contains 97 <;> cases t.contains 98 <;> cases t.contains 99 <;> cases t.contains 100 <;> rfl
theorem ins5 (a b c d e : Bool) : insL (pick5 a b c d e) 65 = pick5 true b c d e ∧ insL (pick5 a b c d e) 66 = pick5 a true c d e ∧ insL (pick5 a b c d e) 67 = pick5 a b true d e ∧ insL (pick5 a b c d e) 68 = pick5 a b c true e ∧ insL (pick5 a b c d e) 69 = pick5 a b c d true := by
  cases a <;> cases b <;> cases c <;> cases d <;> cases e <;> decide
theorem ins4 (a b c d : Bool) : insL (pick4 a b c d) 97 = pick4 true b c d ∧ insL (pick4 a b c d) 98 = pick4 a true c d ∧ insL (pick4 a b c d) 99 = pick4 a b true d ∧ insL (pick4 a b c d) 100 = pick4 a b c true := by
  cases a <;> cases b <;> cases c <;> cases d <;> decide
theorem contains_snoc (l : List UInt8) (c x : UInt8) : (l ++ [c]).contains x = (l.contains x || c == x) := by
  rw [Bool.eq_iff_iff]
  simp only [List.contains_iff_mem, List.mem_append, List.mem_singleton, Bool.or_eq_true, beq_iff_eq]
  constructor
  · rintro (h | h)
    · exact .inl h
    · exact .inr h.symm
  · rintro (h | h)
    · exact .inl h
    · exact .inr h.symm
theorem bigN_cases {c : UInt8} (h : bigN (c.toNat : Int) = true) : c = 65 ∨ c = 66 ∨ c = 67 ∨ c = 68 ∨ c = 69 := by
  simp [bigN] at h
  have : c.toNat = 65 ∨ c.toNat = 66 ∨ c.toNat = 67 ∨ c.toNat = 68 ∨ c.toNat = 69 := by omega
  rcases this with h | h | h | h | h
  · exact .inl (UInt8.toNat_inj.1 h)
  · exact .inr (.inl (UInt8.toNat_inj.1 h))
  · exact .inr (.inr (.inl (UInt8.toNat_inj.1 h)))
  · exact .inr (.inr (.inr (.inl (UInt8.toNat_inj.1 h))))
  · exact .inr (.inr (.inr (.inr (UInt8.toNat_inj.1 h))))
theorem smallN_cases {c : UInt8} (h : smallN (c.toNat : Int) = true) : c = 97 ∨ c = 98 ∨ c = 99 ∨ c = 100 := by
  simp [smallN] at h
  have : c.toNat = 97 ∨ c.toNat = 98 ∨ c.toNat = 99 ∨ c.toNat = 100 := by omega
  rcases this with h | h | h | h
  · exact .inl (UInt8.toNat_inj.1 h)
  · exact .inr (.inl (UInt8.toNat_inj.1 h))
  · exact .inr (.inr (.inl (UInt8.toNat_inj.1 h)))
  · exact .inr (.inr (.inr (UInt8.toNat_inj.1 h)))
theorem snoc_ind {P : List UInt8 → Prop} (h0 : P []) (h1 : ∀ l c, P l → P (l ++ [c])) (l : List UInt8) : P l := by
  generalize hn : l.length = n
  induction n generalizing l with
  | zero => obtain rfl : l = [] := List.eq_nil_of_length_eq_zero hn; exact h0
  | succ n ih =>
    obtain ⟨m, c, rfl⟩ : ∃ m c, l = m ++ [c] := ⟨l.dropLast, l.getLast (by intro h; rw [h] at hn; cases hn), (List.dropLast_concat_getLast _).symm⟩
    exact h1 m c (ih m (by simpa using hn))
theorem signs_big (l : List UInt8) (h : ∀ c ∈ l, symN (c.toNat : Int) = true) : signsOf true l = symsL l 65 5 := by
  revert h
  refine snoc_ind (P := fun l => (∀ c ∈ l, symN (c.toNat : Int) = true) → signsOf true l = symsL l 65 5) ?_ ?_ l
  · intro _; rfl
  · intro l c ih h
    have ih' := ih (fun x hx => h x (by simp [hx]))
    have hc := h c (by simp)
    rw [signsOf_snoc, ih', symsL_five, symsL_five]
    simp only [contains_snoc]
    by_cases hb : bigN (c.toNat : Int) = true
    · rw [if_pos hb]
      obtain ⟨i1, i2, i3, i4, i5⟩ := ins5 (l.contains 65) (l.contains 66) (l.contains 67) (l.contains 68) (l.contains 69)
      rcases bigN_cases hb with rfl | rfl | rfl | rfl | rfl
      · rw [i1]; simp
      · rw [i2]; simp
      · rw [i3]; simp
      · rw [i4]; simp
      · rw [i5]; simp
    · rw [if_neg hb]
      have hs : smallN (c.toNat : Int) = true := by simp [symN] at hc; rcases hc with hc | hc
                                                    · exact absurd hc hb
                                                    · exact hc
      rcases smallN_cases hs with rfl | rfl | rfl | rfl <;> simp
theorem signs_small (l : List UInt8) (h : ∀ c ∈ l, symN (c.toNat : Int) = true) : signsOf false l = symsL l 97 4 := by
  revert h
  refine snoc_ind (P := fun l => (∀ c ∈ l, symN (c.toNat : Int) = true) → signsOf false l = symsL l 97 4) ?_ ?_ l
  · intro _; rfl
  · intro l c ih h
    have ih' := ih (fun x hx => h x (by simp [hx]))
    have hc := h c (by simp)
    rw [signsOf_snoc, ih', symsL_four, symsL_four]
    simp only [contains_snoc]
    by_cases hb : bigN (c.toNat : Int) = true
    · rw [if_neg (by rw [hb]; simp)]
      rcases bigN_cases hb with rfl | rfl | rfl | rfl | rfl <;> simp
    · rw [if_pos (by simpa using hb)]
      have hs : smallN (c.toNat : Int) = true := by simp [symN] at hc; rcases hc with hc | hc
                                                    · exact absurd hc hb
                                                    · exact hc
      obtain ⟨i1, i2, i3, i4⟩ := ins4 (l.contains 97) (l.contains 98) (l.contains 99) (l.contains 100)
      rcases smallN_cases hs with rfl | rfl | rfl | rfl
      · rw [i1]; simp
      · rw [i2]; simp
      · rw [i3]; simp
      · rw [i4]; simp
theorem text_mem (st : ByteArray) (rs : List RuleT) (k : Nat) (c : UInt8) (h1 : c ≠ 10) (h2 : c ≠ 62) : c ∈ textTo st rs k ↔ c ∈ allTo st rs k := by
  unfold textTo allTo ruleTextL
  simp [h1, h2]
theorem text_contains (st : ByteArray) (rs : List RuleT) (k : Nat) (c : UInt8) (h1 : c ≠ 10) (h2 : c ≠ 62) : (textTo st rs k).contains c = (allTo st rs k).contains c := by
  rw [Bool.eq_iff_iff]; simpa using text_mem st rs k c h1 h2
theorem isBigS_mem {s : ByteArray} (h : isBigS s = true) : ∀ c ∈ s.data.toList, symN (c.toNat : Int) = true := by
  simp only [isBigS, Bool.and_eq_true, decide_eq_true_eq, byteAt] at h
  obtain ⟨h1, h2⟩ := h
  have hl : s.data.toList.length = 1 := by simpa using h1
  match hs : s.data.toList, hl with
  | [x], _ =>
    rw [hs] at h2
    intro c hc
    obtain rfl : c = x := by simpa using hc
    have : bigN (c.toNat : Int) = true := by simpa using h2
    simp [symN, this]
theorem allTo_syms {st : ByteArray} {rs : List RuleT} (h : gramOkB st rs = true) : ∀ c ∈ allTo st rs rs.length, symN (c.toNat : Int) = true := by
  unfold gramOkB at h
  simp only [Bool.and_eq_true, decide_eq_true_eq, List.all_eq_true, List.mem_range] at h
  obtain ⟨h1, _, h3⟩ := h
  intro c hc
  unfold allTo at hc
  rw [List.take_of_length_le (Nat.le_refl _)] at hc
  rcases List.mem_append.1 hc with hc | hc
  · exact isBigS_mem h1 c hc
  · obtain ⟨r, hr, hc⟩ := List.mem_flatMap.1 hc
    obtain ⟨i, hi, rfl⟩ := List.getElem_of_mem hr
    have h4 := h3 i hi
    rw [goodB_at hi] at h4
    simp only [ruleOkB, Bool.and_eq_true, decide_eq_true_eq] at h4
    rcases List.mem_append.1 hc with hc | hc
    · exact isBigS_mem h4.1.1 c hc
    · have h5 := h4.1.2.2
      unfold allSym symsTo at h5
      rw [List.take_of_length_le (by simp), List.all_eq_true] at h5
      exact h5 c hc
theorem syms_bad (lo k : Nat) : symsL [] lo k = [] := by unfold symsL; simp
theorem bigs_eq {st : ByteArray} {rs : List RuleT} (h : gramOkB st rs = true) : signsOf true (allTo st rs rs.length) = symsL (gramTextL st rs) 65 5 := by
  rw [signs_big _ (allTo_syms h), symsL_five, symsL_five]
  unfold gramTextL
  rw [if_pos h]
  simp only [text_contains st rs rs.length 65 (by decide) (by decide), text_contains st rs rs.length 66 (by decide) (by decide), text_contains st rs rs.length 67 (by decide) (by decide), text_contains st rs rs.length 68 (by decide) (by decide), text_contains st rs rs.length 69 (by decide) (by decide)]
theorem smalls_eq {st : ByteArray} {rs : List RuleT} (h : gramOkB st rs = true) : signsOf false (allTo st rs rs.length) = symsL (gramTextL st rs) 97 4 := by
  rw [signs_small _ (allTo_syms h), symsL_four, symsL_four]
  unfold gramTextL
  rw [if_pos h]
  simp only [text_contains st rs rs.length 97 (by decide) (by decide), text_contains st rs rs.length 98 (by decide) (by decide), text_contains st rs rs.length 99 (by decide) (by decide), text_contains st rs rs.length 100 (by decide) (by decide)]

end Go.Proofs.YtngekjbdjnfhmaaDoor
