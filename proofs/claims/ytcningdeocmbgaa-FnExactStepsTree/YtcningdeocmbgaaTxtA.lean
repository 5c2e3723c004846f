/- The contract of symbolsBetween, GramBigs and GramSmalls of the program. -/
import Derived.Test.YtcningdeocmbgaaTextB
import Derived.Laws.IdiomStrings
import Derived.Lib.BufferRead
import Derived.BigRegion
import Derived.RangeFuncNested
import Derived.RangeFuncBound
import Derived.RangeFuncCalls
import Derived.RangeFuncLeaves
import Derived.WalkKit
import Derived.OwnWalkIn
import Derived.TacticsInMore
import Derived.LoopNIn
import Derived.LoopIn
import Derived.Test.YtcningdeocmbgaaRows
import Derived.Test.YtcningdeocmbgaaLawB
import Derived.Shelf.Abstract
namespace Go.Proofs.Ytcningdeocmbgaa
open Go.ChangeShapes Go.WideShapes Go.ChangeAt Go.RowKit
set_option maxRecDepth 100000
theorem infoByte : (Try.prog.info? 5).map (fun i => (i.zero, i.size, i.bytes)) = some (some (.int .u8 0), 1, 1) := by kernel_rfl
/-- the place of a byte in a text, or -1 -/
def placeB (t : List UInt8) (c : Int) : Int := Lib.indexByte t c.toNat.toUInt8
theorem indexByte_mem (t : List UInt8) (c : UInt8) : (0 ≤ Lib.indexByte t c ↔ c ∈ t) ∧ -1 ≤ Lib.indexByte t c := by
  induction t with
  | nil => simp [Lib.indexByte]
  | cons b l ih =>
    unfold Lib.indexByte
    by_cases h : b = c
    · subst h; simp
    · have h' : (b == c) = false := by simpa using h
      rw [h']
      simp only [Bool.false_eq_true, if_false]
      by_cases h2 : Lib.indexByte l c = -1
      · rw [if_pos (by simpa using h2)]
        have : ¬ c ∈ l := fun hm => by have := ih.1.2 hm; omega
        simp [this, Ne.symm h]
      · rw [if_neg (by simpa using h2)]
        have h3 : 0 ≤ Lib.indexByte l c := by have := ih.2; omega
        have := ih.1.1 h3
        simp [this]
        omega
theorem placeB_any (s : ByteArray) (c : Int) (w : World) :
    Calls Try.prog 77 #[.string s, .int .u8 c] w fun e w' => e = .returned (.int .i64 (placeB s.data.toList c)) ∧ w = w' := indexByte_any s c w
def byteN (n : Nat) : UInt8 := UInt8.ofNat n
theorem byteN_toNat {n : Nat} (h : n < 256) : (byteN n).toNat = n := by unfold byteN; simp; omega
/-- of k bytes from lo on those that are in t -/
def symsL (t : List UInt8) (lo k : Nat) : List UInt8 := ((List.range k).map fun i => byteN (lo + i)).filter fun c => t.contains c
theorem symsL_succ (t : List UInt8) (lo k : Nat) : symsL t lo (k + 1) = symsL t lo k ++ (if 0 ≤ placeB t ((lo : Int) + (k : Int)) then [byteN (lo + k)] else []) := by
  have e : ((lo : Int) + (k : Int)).toNat.toUInt8 = byteN (lo + k) := by
    rw [show ((lo : Int) + (k : Int)).toNat = lo + k from by omega]; rfl
  have hm := (indexByte_mem t (byteN (lo + k))).1
  unfold symsL placeB
  rw [List.range_succ, List.map_append, List.filter_append, e]
  by_cases h : byteN (lo + k) ∈ t
  · rw [if_pos (hm.2 h)]; simp [h]
  · rw [if_neg (fun h' => h (hm.1 h'))]; simp [h]
theorem symsL_len (t : List UInt8) (lo k : Nat) : (symsL t lo k).length ≤ k := by
  unfold symsL
  have := List.length_filter_le (fun c => t.contains c) ((List.range k).map fun i => byteN (lo + i))
  simpa using this
theorem convert_own {B : Nat} {v : Value} {l : List UInt8} {w : World} (h : w.ownsRow B 5 1 v l.length (Lib.byteCells l)) : (convert 97 9 v).run Try.prog w = .ok (.string (bytesOf l)) w := by
  rcases h.2 with ⟨rfl, h0⟩ | ⟨g, cap, cur, rfl, _, hg, _, _, _, htk⟩
  · have : l = [] := List.eq_nil_of_length_eq_zero h0
    subst this
    exact Lib.run_convert_nil_bytes w _ _ 5 0 Try.underlying97 Try.underlying5 Try.underlying9
  · exact run_convert_bytes_back w _ _ 5 ⟨g, 0, none⟩ cap l Try.underlying97 Try.underlying5 Try.underlying9 (Lib.bytes_of_row hg (by simpa using htk))

end Go.Proofs.Ytcningdeocmbgaa
namespace Go.Proofs.Ytcningdeocmbgaa
open Go.ChangeShapes Go.WideShapes Go.ChangeAt Go.RowKit
set_option maxRecDepth 100000
/-- a byte put into bytes in order, once -/
def insL : List UInt8 → UInt8 → List UInt8
  | [], c => [c]
  | d :: r, c => if d.toNat < c.toNat then d :: insL r c else if d = c then d :: r else c :: d :: r
theorem insL_take : ∀ (l : List UInt8) (c : UInt8) (k : Nat), (∀ j (h : j < l.length), j < k → l[j].toNat < c.toNat) → insL l c = l.take k ++ insL (l.drop k) c
  | [], c, k, _ => by simp
  | d :: r, c, 0, _ => by simp
  | d :: r, c, k + 1, h => by
    have h0 := h 0 (by simp) (by omega)
    simp only [List.getElem_cons_zero] at h0
    rw [insL, if_pos h0, insL_take r c k (fun j hj hk => by have := h (j + 1) (by simpa using hj) (by omega); simpa using this)]
    simp
theorem insL_len : ∀ (l : List UInt8) (c : UInt8), (insL l c).length ≤ l.length + 1
  | [], c => by simp [insL]
  | d :: r, c => by
    have := insL_len r c
    unfold insL
    split
    · simp; omega
    · split <;> simp

theorem insL_at (l : List UInt8) (c : UInt8) (k : Nat) (h : ∀ j (h : j < l.length), j < k → l[j].toNat < c.toNat) (hk : ∀ hk : k < l.length, ¬ l[k].toNat < c.toNat ∧ l[k] ≠ c) : insL l c = l.take k ++ (c :: l.drop k) := by
  rw [insL_take l c k h]
  by_cases hl : k < l.length
  · rw [List.drop_eq_getElem_cons hl, insL, if_neg (hk hl).1, if_neg (hk hl).2]
  · rw [List.drop_eq_nil_of_le (by omega)]; rfl
theorem insL_same (l : List UInt8) (c : UInt8) (k : Nat) (h : ∀ j (h : j < l.length), j < k → l[j].toNat < c.toNat) (hk : k < l.length) (he : l[k] = c) : insL l c = l := by
  rw [insL_take l c k h, List.drop_eq_getElem_cons hk, insL, if_neg (by rw [he]; omega), if_pos he, ← List.drop_eq_getElem_cons hk, List.take_append_drop]
theorem take_cut (s : ByteArray) (k : Nat) : (s.extract 0 k).data.toList = s.data.toList.take k := by rw [Lib.extract_data]; simp
theorem add_cut (s : ByteArray) (c : UInt8) (k : Nat) (hs : s.size ≤ 1048576) (w : World) : (Op.stringOp .add (s.extract 0 k) (⟨#[c]⟩ : ByteArray)).run Try.prog w = .ok (.string (bytesOf (cat (s.data.toList.take k) (⟨#[c]⟩ : ByteArray)))) w := by
  have h : (s.data.toList.take k).length ≤ s.size := by simp; omega
  have := run_add_bytes (P := Try.prog) (s.data.toList.take k) (⟨#[c]⟩ : ByteArray) (by rw [one_size]; omega) w
  rwa [← take_cut, bytesOf_self, take_cut] at this
theorem add_cut2 (s : ByteArray) (c : UInt8) (k : Nat) (hs : s.size ≤ 1048576) (w : World) : (Op.stringOp .add (bytesOf (cat (s.data.toList.take k) (⟨#[c]⟩ : ByteArray))) (s.extract k s.size)).run Try.prog w = .ok (.string (bytesOf (cat (cat (s.data.toList.take k) (⟨#[c]⟩ : ByteArray)) (s.extract k s.size)))) w := by
  have h : (s.data.toList.take k).length ≤ s.size := by simp; omega
  have h2 : (s.extract k s.size).size ≤ s.size := by simp
  exact run_add_bytes (P := Try.prog) _ _ (by rw [cat_len, one_size]; omega) w
theorem cut_join (s : ByteArray) (c : UInt8) (k : Nat) : cat (cat (s.data.toList.take k) (⟨#[c]⟩ : ByteArray)) (s.extract k s.size) = s.data.toList.take k ++ (c :: s.data.toList.drop k) := by
  unfold cat
  rw [Lib.extract_data]
  simp
  rw [List.take_of_length_le (by simp)]
theorem convert_one (c : UInt8) (w : World) : (convert 97 9 (.slice (some ⟨w.heap.size, 0, none⟩) 1 1)).run Try.prog (w.alloc (.cells #[.int .u8 (c.toNat : Int)] 5)).drew = .ok (.string ⟨#[c]⟩) (w.alloc (.cells #[.int .u8 (c.toNat : Int)] 5)).drew :=
  run_convert_bytes_back _ _ _ 5 ⟨w.heap.size, 0, none⟩ 1 [c] Try.underlying97 Try.underlying5 Try.underlying9 (fun j hj => by
    match j, hj with
    | 0, _ => simp [Addr.add])

def allTo (st : ByteArray) (rs : List RuleT) (k : Nat) : List UInt8 := st.data.toList ++ (rs.take k).flatMap fun r => r.1.data.toList ++ r.2.data.toList
theorem allTo_zero (st : ByteArray) (rs : List RuleT) : bytesOf (allTo st rs 0) = st := by simp [allTo, bytesOf_self]
theorem allTo_succ (st : ByteArray) (rs : List RuleT) (k : Nat) (h : k < rs.length) : cat (cat (allTo st rs k) rs[k].1) rs[k].2 = allTo st rs (k + 1) := by
  unfold allTo cat
  rw [List.take_succ_eq_append_getElem h, List.flatMap_append]
  simp
theorem allTo_size {st : ByteArray} {rs : List RuleT} (h : gramOkB st rs = true) : ∀ k, k ≤ rs.length → (allTo st rs k).length ≤ 1 + 5 * k := by
  obtain ⟨h1, h2, h3⟩ := gramOk_facts h
  intro k
  induction k with
  | zero => intro _; simp [allTo]; omega
  | succ k ih =>
    intro hk
    have := ih (by omega)
    have h4 := h3 k (by omega)
    rw [← allTo_succ st rs k (by omega), cat_len, cat_len]
    omega
def signsOf (big : Bool) (l : List UInt8) : List UInt8 := l.foldl (fun o c => if bigN (c.toNat : Int) = big then insL o c else o) []
theorem signsOf_snoc (big : Bool) (l : List UInt8) (c : UInt8) : signsOf big (l ++ [c]) = if bigN (c.toNat : Int) = big then insL (signsOf big l) c else signsOf big l := by simp [signsOf]
theorem signsOf_len (big : Bool) (l : List UInt8) : (signsOf big l).length ≤ l.length := by
  generalize hn : l.length = n
  induction n generalizing l with
  | zero => obtain rfl : l = [] := List.eq_nil_of_length_eq_zero hn; simp [signsOf]
  | succ n ih =>
    obtain ⟨m, c, rfl⟩ : ∃ m c, l = m ++ [c] := ⟨l.dropLast, l.getLast (by intro h; rw [h] at hn; cases hn), (List.dropLast_concat_getLast _).symm⟩
    have := ih m (by simpa using hn)
    rw [signsOf_snoc]
    split
    · have := insL_len (signsOf big m) c; omega
    · omega

end Go.Proofs.Ytcningdeocmbgaa
namespace Go.Proofs.Ytcningdeocmbgaa
open Go.ChangeShapes Go.WideShapes Go.ChangeAt Go.RowKit
set_option maxRecDepth 100000
def pick5 (a b c d e : Bool) : List UInt8 := (if a then [65] else []) ++ ((if b then [66] else []) ++ ((if c then [67] else []) ++ ((if d then [68] else []) ++ (if e then [69] else []))))
def pick4 (a b c d : Bool) : List UInt8 := (if a then [97] else []) ++ ((if b then [98] else []) ++ ((if c then [99] else []) ++ (if d then [100] else [])))
theorem symsL_five (t : List UInt8) : symsL t 65 5 = pick5 (t.contains 65) (t.contains 66) (t.contains 67) (t.contains 68) (t.contains 69) := by
  have e : (List.range 5).map (fun i => byteN (65 + i)) = [65, 66, 67, 68, 69] := by decide
  unfold symsL pick5
  rw [e]
  simp only [List.filter]
  cases t.contains 65 <;> cases t.contains 66 <;> cases t.contains 67 <;> cases t.contains 68 <;> cases t.contains 69 <;> rfl
theorem symsL_four (t : List UInt8) : symsL t 97 4 = pick4 (t.contains 97) (t.contains 98) (t.contains 99) (t.contains 100) := by
  have e : (List.range 4).map (fun i => byteN (97 + i)) = [97, 98, 99, 100] := by decide
  unfold symsL pick4
  rw [e]
  simp only [List.filter]
  cases t.contains 97 <;> cases t.contains 98 <;> cases t.contains 99 <;> cases t.contains 100 <;> rfl
theorem ins5 (a b c d e : Bool) : insL (pick5 a b c d e) 65 = pick5 true b c d e ∧ insL (pick5 a b c d e) 66 = pick5 a true c d e ∧ insL (pick5 a b c d e) 67 = pick5 a b true d e ∧ insL (pick5 a b c d e) 68 = pick5 a b c true e ∧ insL (pick5 a b c d e) 69 = pick5 a b c d true := by
  cases a <;> cases b <;> cases c <;> cases d <;> cases e <;> decide
theorem ins4 (a b c d : Bool) : insL (pick4 a b c d) 97 = pick4 true b c d ∧ insL (pick4 a b c d) 98 = pick4 a true c d ∧ insL (pick4 a b c d) 99 = pick4 a b true d ∧ insL (pick4 a b c d) 100 = pick4 a b c true := by
  cases a <;> cases b <;> cases c <;> cases d <;> decide
theorem contains_snoc (l : List UInt8) (c x : UInt8) : (l ++ [c]).contains x = (l.contains x || c == x) := by
  rw [Bool.eq_iff_iff]
  simp only [List.contains_iff_mem, List.mem_append, List.mem_singleton, Bool.or_eq_true, beq_iff_eq]
  constructor
  · rintro (h | h)
    · exact .inl h
    · exact .inr h.symm
  · rintro (h | h)
    · exact .inl h
    · exact .inr h.symm
theorem bigN_cases {c : UInt8} (h : bigN (c.toNat : Int) = true) : c = 65 ∨ c = 66 ∨ c = 67 ∨ c = 68 ∨ c = 69 := by
  simp [bigN] at h
  have : c.toNat = 65 ∨ c.toNat = 66 ∨ c.toNat = 67 ∨ c.toNat = 68 ∨ c.toNat = 69 := by omega
  rcases this with h | h | h | h | h
  · exact .inl (UInt8.toNat_inj.1 h)
  · exact .inr (.inl (UInt8.toNat_inj.1 h))
  · exact .inr (.inr (.inl (UInt8.toNat_inj.1 h)))
  · exact .inr (.inr (.inr (.inl (UInt8.toNat_inj.1 h))))
  · exact .inr (.inr (.inr (.inr (UInt8.toNat_inj.1 h))))
theorem smallN_cases {c : UInt8} (h : smallN (c.toNat : Int) = true) : c = 97 ∨ c = 98 ∨ c = 99 ∨ c = 100 := by
  simp [smallN] at h
  have : c.toNat = 97 ∨ c.toNat = 98 ∨ c.toNat = 99 ∨ c.toNat = 100 := by omega
  rcases this with h | h | h | h
  · exact .inl (UInt8.toNat_inj.1 h)
  · exact .inr (.inl (UInt8.toNat_inj.1 h))
  · exact .inr (.inr (.inl (UInt8.toNat_inj.1 h)))
  · exact .inr (.inr (.inr (UInt8.toNat_inj.1 h)))
theorem snoc_ind {P : List UInt8 → Prop} (h0 : P []) (h1 : ∀ l c, P l → P (l ++ [c])) (l : List UInt8) : P l := by
  generalize hn : l.length = n
  induction n generalizing l with
  | zero => obtain rfl : l = [] := List.eq_nil_of_length_eq_zero hn; exact h0
  | succ n ih =>
    obtain ⟨m, c, rfl⟩ : ∃ m c, l = m ++ [c] := ⟨l.dropLast, l.getLast (by intro h; rw [h] at hn; cases hn), (List.dropLast_concat_getLast _).symm⟩
    exact h1 m c (ih m (by simpa using hn))
theorem signs_big (l : List UInt8) (h : ∀ c ∈ l, symN (c.toNat : Int) = true) : signsOf true l = symsL l 65 5 := by
  revert h
  refine snoc_ind (P := fun l => (∀ c ∈ l, symN (c.toNat : Int) = true) → signsOf true l = symsL l 65 5) ?_ ?_ l
  · intro _; rfl
  · intro l c ih h
    have ih' := ih (fun x hx => h x (by simp [hx]))
    have hc := h c (by simp)
    rw [signsOf_snoc, ih', symsL_five, symsL_five]
    simp only [contains_snoc]
    by_cases hb : bigN (c.toNat : Int) = true
    · rw [if_pos hb]
      obtain ⟨i1, i2, i3, i4, i5⟩ := ins5 (l.contains 65) (l.contains 66) (l.contains 67) (l.contains 68) (l.contains 69)
      rcases bigN_cases hb with rfl | rfl | rfl | rfl | rfl
      · rw [i1]; simp
      · rw [i2]; simp
      · rw [i3]; simp
      · rw [i4]; simp
      · rw [i5]; simp
    · rw [if_neg hb]
      have hs : smallN (c.toNat : Int) = true := by simp [symN] at hc; rcases hc with hc | hc
                                                    · exact absurd hc hb
                                                    · exact hc
      rcases smallN_cases hs with rfl | rfl | rfl | rfl <;> simp
theorem signs_small (l : List UInt8) (h : ∀ c ∈ l, symN (c.toNat : Int) = true) : signsOf false l = symsL l 97 4 := by
  revert h
  refine snoc_ind (P := fun l => (∀ c ∈ l, symN (c.toNat : Int) = true) → signsOf false l = symsL l 97 4) ?_ ?_ l
  · intro _; rfl
  · intro l c ih h
    have ih' := ih (fun x hx => h x (by simp [hx]))
    have hc := h c (by simp)
    rw [signsOf_snoc, ih', symsL_four, symsL_four]
    simp only [contains_snoc]
    by_cases hb : bigN (c.toNat : Int) = true
    · rw [if_neg (by rw [hb]; simp)]
      rcases bigN_cases hb with rfl | rfl | rfl | rfl | rfl <;> simp
    · rw [if_pos (by simpa using hb)]
      have hs : smallN (c.toNat : Int) = true := by simp [symN] at hc; rcases hc with hc | hc
                                                    · exact absurd hc hb
                                                    · exact hc
      obtain ⟨i1, i2, i3, i4⟩ := ins4 (l.contains 97) (l.contains 98) (l.contains 99) (l.contains 100)
      rcases smallN_cases hs with rfl | rfl | rfl | rfl
      · rw [i1]; simp
      · rw [i2]; simp
      · rw [i3]; simp
      · rw [i4]; simp
theorem text_mem (st : ByteArray) (rs : List RuleT) (k : Nat) (c : UInt8) (h1 : c ≠ 10) (h2 : c ≠ 62) : c ∈ textTo st rs k ↔ c ∈ allTo st rs k := by
  unfold textTo allTo ruleTextL
  simp [h1, h2]
theorem text_contains (st : ByteArray) (rs : List RuleT) (k : Nat) (c : UInt8) (h1 : c ≠ 10) (h2 : c ≠ 62) : (textTo st rs k).contains c = (allTo st rs k).contains c := by
  rw [Bool.eq_iff_iff]; simpa using text_mem st rs k c h1 h2
theorem isBigS_mem {s : ByteArray} (h : isBigS s = true) : ∀ c ∈ s.data.toList, symN (c.toNat : Int) = true := by
  simp only [isBigS, Bool.and_eq_true, decide_eq_true_eq, byteAt] at h
  obtain ⟨h1, h2⟩ := h
  have hl : s.data.toList.length = 1 := by simpa using h1
  match hs : s.data.toList, hl with
  | [x], _ =>
    rw [hs] at h2
    intro c hc
    obtain rfl : c = x := by simpa using hc
    have : bigN (c.toNat : Int) = true := by simpa using h2
    simp [symN, this]
theorem allTo_syms {st : ByteArray} {rs : List RuleT} (h : gramOkB st rs = true) : ∀ c ∈ allTo st rs rs.length, symN (c.toNat : Int) = true := by
  unfold gramOkB at h
  simp only [Bool.and_eq_true, decide_eq_true_eq, List.all_eq_true, List.mem_range] at h
  obtain ⟨h1, _, h3⟩ := h
  intro c hc
  unfold allTo at hc
  rw [List.take_of_length_le (Nat.le_refl _)] at hc
  rcases List.mem_append.1 hc with hc | hc
  · exact isBigS_mem h1 c hc
  · obtain ⟨r, hr, hc⟩ := List.mem_flatMap.1 hc
    obtain ⟨i, hi, rfl⟩ := List.getElem_of_mem hr
    have h4 := h3 i hi
    rw [goodB_at hi] at h4
    simp only [ruleOkB, Bool.and_eq_true, decide_eq_true_eq] at h4
    rcases List.mem_append.1 hc with hc | hc
    · exact isBigS_mem h4.1.1 c hc
    · have h5 := h4.1.2.2
      unfold allSym symsTo at h5
      rw [List.take_of_length_le (by simp), List.all_eq_true] at h5
      exact h5 c hc
theorem syms_bad (lo k : Nat) : symsL [] lo k = [] := by unfold symsL; simp
theorem bigs_eq {st : ByteArray} {rs : List RuleT} (h : gramOkB st rs = true) : signsOf true (allTo st rs rs.length) = symsL (gramTextL st rs) 65 5 := by
  rw [signs_big _ (allTo_syms h), symsL_five, symsL_five]
  unfold gramTextL
  rw [if_pos h]
  simp only [text_contains st rs rs.length 65 (by decide) (by decide), text_contains st rs rs.length 66 (by decide) (by decide), text_contains st rs rs.length 67 (by decide) (by decide), text_contains st rs rs.length 68 (by decide) (by decide), text_contains st rs rs.length 69 (by decide) (by decide)]
theorem smalls_eq {st : ByteArray} {rs : List RuleT} (h : gramOkB st rs = true) : signsOf false (allTo st rs rs.length) = symsL (gramTextL st rs) 97 4 := by
  rw [signs_small _ (allTo_syms h), symsL_four, symsL_four]
  unfold gramTextL
  rw [if_pos h]
  simp only [text_contains st rs rs.length 97 (by decide) (by decide), text_contains st rs rs.length 98 (by decide) (by decide), text_contains st rs rs.length 99 (by decide) (by decide), text_contains st rs rs.length 100 (by decide) (by decide)]

end Go.Proofs.Ytcningdeocmbgaa
namespace Go.Proofs.Ytcningdeocmbgaa
open Go.ChangeShapes Go.WideShapes Go.ChangeAt Go.RowKit
set_option maxRecDepth 100000
def ordL : List UInt8 := [36, 65, 66, 67, 68, 69, 97, 98, 99, 100]
def bitN (c : UInt8) : Nat := if c = 36 then 1 else if c = 65 then 2 else if c = 66 then 4 else if c = 67 then 8 else if c = 68 then 16 else if c = 69 then 32 else if c = 97 then 64 else if c = 98 then 128 else if c = 99 then 256 else if c = 100 then 512 else 0
def setN (l : List UInt8) : Nat := l.foldl (fun m c => m ||| bitN c) 0
def hasN (m : Nat) (c : UInt8) : Bool := (m &&& bitN c) != 0
def hasAllN (m : Nat) (l : List UInt8) : Bool := l.all (hasN m)
def textN (m : Nat) : List UInt8 := ordL.filter (hasN m)
theorem bitN_lt (c : UInt8) : bitN c < 1024 := by unfold bitN; repeat' (first | omega | split)
theorem or_lt {a b : Nat} (ha : a < 1024) (hb : b < 1024) : a ||| b < 1024 := Nat.or_lt_two_pow (n := 10) ha hb
theorem foldSet_lt (l : List UInt8) : ∀ m, m < 1024 → l.foldl (fun m c => m ||| bitN c) m < 1024 := by
  induction l with
  | nil => intro m h; exact h
  | cons c l ih => intro m h; exact ih _ (or_lt h (bitN_lt c))
theorem setN_lt (l : List UInt8) : setN l < 1024 := foldSet_lt l 0 (by omega)
theorem setN_snoc (l : List UInt8) (c : UInt8) : setN (l ++ [c]) = setN l ||| bitN c := by simp [setN]
theorem setN_one (c : UInt8) : setN [c] = bitN c := by simp [setN]
theorem hasAllN_snoc (m : Nat) (l : List UInt8) (c : UInt8) : hasAllN m (l ++ [c]) = (hasAllN m l && hasN m c) := by simp [hasAllN]
/-- a is within b -/
def Sub (a b : Nat) : Prop := a ||| b = b
theorem Sub.refl (a : Nat) : Sub a a := Nat.or_self a
theorem Sub.trans {a b c : Nat} (h : Sub a b) (k : Sub b c) : Sub a c := by
  unfold Sub at *; rw [← k, ← Nat.or_assoc, h]
theorem Sub.antisymm {a b : Nat} (h : Sub a b) (k : Sub b a) : a = b := by
  unfold Sub at *; rw [← k, Nat.or_comm]; exact h
theorem Sub.le {a b : Nat} (h : Sub a b) : a ≤ b := by
  unfold Sub at h; rw [← h]; exact Nat.left_le_or
theorem sub_or_left (a b : Nat) : Sub a (a ||| b) := by unfold Sub; rw [← Nat.or_assoc, Nat.or_self]
theorem sub_or_right (a b : Nat) : Sub b (a ||| b) := by rw [Nat.or_comm]; exact sub_or_left b a
theorem Sub.or {a b c : Nat} (h : Sub a c) (k : Sub b c) : Sub (a ||| b) c := by
  unfold Sub at *; rw [Nat.or_assoc, k, h]
theorem Sub.zero (a : Nat) : Sub 0 a := Nat.zero_or a
theorem Sub.or_mono {a b c d : Nat} (h : Sub a c) (k : Sub b d) : Sub (a ||| b) (c ||| d) := (h.trans (sub_or_left _ _)).or (k.trans (sub_or_right _ _))
theorem hasN_or (a b : Nat) (c : UInt8) : hasN (a ||| b) c = (hasN a c || hasN b c) := by
  unfold hasN
  rw [Nat.and_or_distrib_right, Bool.eq_iff_iff]
  simp only [bne_iff_ne, ne_eq, Bool.or_eq_true]
  constructor
  · intro h
    by_cases h1 : a &&& bitN c = 0
    · right; intro h2; exact h (by rw [h1, h2]; rfl)
    · exact .inl h1
  · rintro (h | h) e
    · have := Nat.left_le_or (n := a &&& bitN c) (m := b &&& bitN c); omega
    · have := Nat.right_le_or (n := a &&& bitN c) (m := b &&& bitN c); omega
theorem hasN_mono {a b : Nat} (h : Sub a b) {c : UInt8} (hc : hasN a c = true) : hasN b c = true := by
  unfold Sub at h; rw [← h, hasN_or, hc]; rfl
theorem hasAllN_mono {a b : Nat} (h : Sub a b) {l : List UInt8} (hl : hasAllN a l = true) : hasAllN b l = true := by
  unfold hasAllN at *
  rw [List.all_eq_true] at *
  exact fun c hc => hasN_mono h (hl c hc)
theorem hasN_ord : ∀ n : Fin 256, ∀ m : Fin 11, hasN (if m.val = 10 then 1023 else 2 ^ m.val) (UInt8.ofNat n.val) = true → (UInt8.ofNat n.val) ∈ ordL := by decide +kernel
theorem bitN_ord : ∀ n : Fin 256, bitN (UInt8.ofNat n.val) ≠ 0 → (UInt8.ofNat n.val) ∈ ordL := by decide +kernel
theorem hasN_mem {m : Nat} {c : UInt8} (h : hasN m c = true) : c ∈ ordL := by
  have h1 := bitN_ord ⟨c.toNat, c.toNat_lt⟩
  simp only [UInt8.ofNat_toNat] at h1
  refine h1 fun e => ?_
  unfold hasN at h
  rw [e] at h
  simp at h
theorem text_has (m : Nat) (c : UInt8) : (textN m).contains c = hasN m c := by
  rw [Bool.eq_iff_iff, List.contains_iff_mem, textN, List.mem_filter]
  exact ⟨fun h => h.2, fun h => ⟨hasN_mem h, h⟩⟩
theorem ins_text_all : ∀ m : Fin 1024, ordL.all (fun c => insL (textN m.val) c == textN (m.val ||| bitN c)) = true := by decide +kernel
theorem ins_text {m : Nat} (hm : m < 1024) {c : UInt8} (hc : c ∈ ordL) : insL (textN m) c = textN (m ||| bitN c) := by
  have := ins_text_all ⟨m, hm⟩
  rw [List.all_eq_true] at this
  simpa using this c hc
theorem set_text_all : ∀ m : Fin 1024, setN (textN m.val) = m.val := by decide +kernel
theorem set_text {m : Nat} (hm : m < 1024) : setN (textN m) = m := set_text_all ⟨m, hm⟩
theorem text_len (m : Nat) : (textN m).length ≤ 10 := List.length_filter_le _ _
theorem hasN_bit_all : ordL.all (fun c => ordL.all fun d => hasN (bitN c) d == (c == d)) = true := by decide +kernel
theorem hasN_self {c : UInt8} (h : c ∈ ordL) : hasN (bitN c) c = true := by
  have := List.all_eq_true.1 (List.all_eq_true.1 hasN_bit_all c h) c h
  simpa using this
/-- what holds c holds c's bit -/
theorem sub_bit_all : ∀ m : Fin 1024, ordL.all (fun c => !hasN m.val c || (bitN c ||| m.val == m.val)) = true := by decide +kernel
theorem sub_bit {m : Nat} (hm : m < 1024) {c : UInt8} (h : hasN m c = true) : Sub (bitN c) m := by
  have := List.all_eq_true.1 (sub_bit_all ⟨m, hm⟩) c (hasN_mem h)
  simp only [h, Bool.not_true, Bool.false_or, beq_iff_eq] at this
  exact this
theorem hasN_of_sub {m : Nat} {c : UInt8} (hc : c ∈ ordL) (h : Sub (bitN c) m) : hasN m c = true := hasN_mono h (hasN_self hc)
/-- the least closed set -/
def leastN (closedB : Nat → Bool) : Nat := (List.range 1024).foldl (fun acc S => if closedB S then acc &&& S else acc) 1023
theorem sub_and {a b : Nat} (h : Sub a b) : a &&& b = a := by
  unfold Sub at h
  rw [← h]
  apply Nat.eq_of_testBit_eq
  intro i
  simp only [Nat.testBit_and, Nat.testBit_or]
  cases a.testBit i <;> simp
theorem leastN_eq {closedB : Nat → Bool} {R : Nat} (h1 : closedB R = true) (h2 : R < 1024) (h3 : ∀ S, S < 1024 → closedB S = true → Sub R S) : leastN closedB = R := by
  have hlow : ∀ (l : List Nat) (acc : Nat), (∀ S ∈ l, S < 1024) → R &&& acc = R → R &&& l.foldl (fun acc S => if closedB S then acc &&& S else acc) acc = R := by
    intro l
    induction l with
    | nil => intro acc _ h; exact h
    | cons S l ih =>
      intro acc hl h
      refine ih _ (fun T hT => hl T (List.mem_cons_of_mem _ hT)) ?_
      show R &&& (if closedB S then acc &&& S else acc) = R
      by_cases hc : closedB S = true
      · rw [if_pos hc, ← Nat.and_assoc, h]
        exact sub_and (h3 S (hl S (List.mem_cons_self ..)) hc)
      · rw [if_neg hc]; exact h
  have hup : ∀ (l : List Nat) (acc : Nat), (R ∈ l ∨ acc &&& R = acc) → (l.foldl (fun acc S => if closedB S then acc &&& S else acc) acc) &&& R = l.foldl (fun acc S => if closedB S then acc &&& S else acc) acc := by
    intro l
    induction l with
    | nil => intro acc h; rcases h with h | h; (cases h); exact h
    | cons S l ih =>
      intro acc h
      refine ih _ ?_
      rcases h with h | h
      · rcases List.mem_cons.1 h with rfl | h
        · right
          show (if closedB R then acc &&& R else acc) &&& R = (if closedB R then acc &&& R else acc)
          rw [if_pos h1, Nat.and_assoc, Nat.and_self]
        · exact .inl h
      · right
        show (if closedB S then acc &&& S else acc) &&& R = (if closedB S then acc &&& S else acc)
        by_cases hc : closedB S = true
        · rw [if_pos hc, Nat.and_assoc, Nat.and_comm S R, ← Nat.and_assoc, h]
        · rw [if_neg hc]; exact h
  have h1023 : ∀ m : Fin 1024, m.val &&& 1023 = m.val := by decide +kernel
  have a := hlow (List.range 1024) 1023 (fun S hS => List.mem_range.1 hS) (h1023 ⟨R, h2⟩)
  have b := hup (List.range 1024) 1023 (.inl (List.mem_range.2 h2))
  unfold leastN
  rw [← b, Nat.and_comm]; exact a
end Go.Proofs.Ytcningdeocmbgaa
namespace Go.Proofs.Ytcningdeocmbgaa
open Go.ChangeShapes Go.WideShapes Go.ChangeAt Go.RowKit
set_option maxRecDepth 100000
def leftsStep (g : Nat) (k : Nat) (r : RuleT) : Nat := if hasAllN (k ||| g) r.2.data.toList = true then k ||| setN r.1.data.toList else k
def leftsTo (rs : List RuleT) (g m k : Nat) : Nat := (rs.take k).foldl (leftsStep g) m
def leftsClosedB (rs : List RuleT) (g S : Nat) : Bool := rs.all fun r => !hasAllN (S ||| g) r.2.data.toList || (setN r.1.data.toList ||| S == S)
def leftsLeast (rs : List RuleT) (g : Nat) : Nat := leastN (leftsClosedB rs g)
theorem leftsClosed_iff (rs : List RuleT) (g S : Nat) : leftsClosedB rs g S = true ↔ ∀ r ∈ rs, hasAllN (S ||| g) r.2.data.toList = true → Sub (setN r.1.data.toList) S := by
  unfold leftsClosedB
  rw [List.all_eq_true]
  constructor
  · intro h r hr hh
    have := h r hr
    rw [hh] at this
    simpa [Sub] using this
  · intro h r hr
    cases hh : hasAllN (S ||| g) r.2.data.toList with
    | false => rfl
    | true => simpa [Sub] using h r hr hh
theorem leftsStep_lt (g k : Nat) (r : RuleT) (h : k < 1024) : leftsStep g k r < 1024 := by
  unfold leftsStep; split
  · exact or_lt h (setN_lt _)
  · exact h
theorem leftsTo_zero (rs : List RuleT) (g m : Nat) : leftsTo rs g m 0 = m := rfl
theorem leftsTo_succ (rs : List RuleT) (g m k : Nat) (h : k < rs.length) : leftsTo rs g m (k + 1) = leftsStep g (leftsTo rs g m k) rs[k] := by
  unfold leftsTo; rw [List.take_succ_eq_append_getElem h, List.foldl_append]; rfl
theorem leftsFold_lt (g : Nat) : ∀ (l : List RuleT) (m : Nat), m < 1024 → l.foldl (leftsStep g) m < 1024
  | [], _, h => h
  | r :: l, m, h => leftsFold_lt g l _ (leftsStep_lt g m r h)
theorem leftsTo_lt (rs : List RuleT) (g m k : Nat) (h : m < 1024) : leftsTo rs g m k < 1024 := leftsFold_lt g _ m h
theorem leftsStep_sub (g k : Nat) (r : RuleT) : Sub k (leftsStep g k r) := by
  unfold leftsStep; split
  · exact sub_or_left _ _
  · exact Sub.refl _
theorem leftsFold_sub (g : Nat) : ∀ (l : List RuleT) (m : Nat), Sub m (l.foldl (leftsStep g) m)
  | [], m => Sub.refl m
  | r :: l, m => (leftsStep_sub g m r).trans (leftsFold_sub g l _)
theorem leftsFold_fix (g : Nat) : ∀ (l : List RuleT) (m : Nat), l.foldl (leftsStep g) m = m → ∀ r ∈ l, leftsStep g m r = m
  | [], _, _ => fun r hr => by cases hr
  | r :: l, m, h => by
    have h1 : leftsStep g m r = m := ((leftsStep_sub g m r).antisymm (by have := leftsFold_sub g l (leftsStep g m r); rw [List.foldl_cons] at h; rwa [h] at this)).symm
    intro x hx
    rcases List.mem_cons.1 hx with rfl | hx
    · exact h1
    · exact leftsFold_fix g l m (by rw [List.foldl_cons, h1] at h; exact h) x hx
theorem leftsTo_fix {rs : List RuleT} {g m : Nat} (h : leftsTo rs g m rs.length = m) : leftsClosedB rs g m = true := by
  rw [leftsClosed_iff]
  unfold leftsTo at h
  rw [List.take_of_length_le (Nat.le_refl _)] at h
  intro r hr hh
  have := leftsFold_fix g rs m h r hr
  unfold leftsStep at this
  rw [if_pos hh] at this
  unfold Sub; rw [Nat.or_comm]; exact this
theorem leftsFold_below {g S : Nat} : ∀ (l : List RuleT) (m : Nat), (∀ r ∈ l, hasAllN (S ||| g) r.2.data.toList = true → Sub (setN r.1.data.toList) S) → Sub m S → Sub (l.foldl (leftsStep g) m) S
  | [], _, _, h => h
  | r :: l, m, hc, h => by
    refine leftsFold_below l _ (fun x hx => hc x (List.mem_cons_of_mem _ hx)) ?_
    unfold leftsStep
    split
    · rename_i hh
      exact h.or (hc r (List.mem_cons_self ..) (hasAllN_mono (h.or_mono (Sub.refl g)) hh))
    · exact h
theorem leftsTo_below {rs : List RuleT} {g m k S : Nat} (hc : leftsClosedB rs g S = true) (h : Sub m S) : Sub (leftsTo rs g m k) S :=
  leftsFold_below _ m (fun r hr => (leftsClosed_iff rs g S).1 hc r (List.mem_of_mem_take hr)) h
theorem leftsTo_sub (rs : List RuleT) (g m k : Nat) : Sub m (leftsTo rs g m k) := leftsFold_sub g _ m
theorem leftsLeast_eq {rs : List RuleT} {g R : Nat} (h1 : leftsClosedB rs g R = true) (h2 : R < 1024) (h3 : ∀ S, leftsClosedB rs g S = true → Sub R S) : leftsLeast rs g = R :=
  leastN_eq h1 h2 fun S _ hS => h3 S hS
end Go.Proofs.Ytcningdeocmbgaa
namespace Go.Proofs.Ytcningdeocmbgaa
open Go.ChangeShapes Go.WideShapes Go.ChangeAt Go.RowKit
set_option maxRecDepth 100000
theorem bits_or (a b : Nat) (ha : a < 1024) (hb : b < 1024) : bits .or .u16 (a : Int) (b : Int) = ((a ||| b : Nat) : Int) := by
  have hx : a ||| b < 1024 := or_lt ha hb
  have h1 : (BitVec.ofInt 16 (a : Int)).toNat = a := by
    rw [BitVec.ofInt_natCast, BitVec.toNat_ofNat]; exact Nat.mod_eq_of_lt (by omega)
  have h2 : (BitVec.ofInt 16 (b : Int)).toNat = b := by
    rw [BitVec.ofInt_natCast, BitVec.toNat_ofNat]; exact Nat.mod_eq_of_lt (by omega)
  have h3 : bits .or .u16 (a : Int) (b : Int) = IntKind.u16.wrap ((BitVec.ofInt 16 (a : Int) ||| BitVec.ofInt 16 (b : Int)).toNat : Int) := rfl
  rw [h3, BitVec.toNat_or, h1, h2]
  show ((a ||| b : Nat) : Int) % 65536 = _
  omega
theorem bits_and (a b : Nat) (ha : a < 1024) (hb : b < 1024) : bits .and .u16 (a : Int) (b : Int) = ((a &&& b : Nat) : Int) := by
  have hx : a &&& b < 1024 := Nat.lt_of_le_of_lt Nat.and_le_left ha
  have h1 : (BitVec.ofInt 16 (a : Int)).toNat = a := by
    rw [BitVec.ofInt_natCast, BitVec.toNat_ofNat]; exact Nat.mod_eq_of_lt (by omega)
  have h2 : (BitVec.ofInt 16 (b : Int)).toNat = b := by
    rw [BitVec.ofInt_natCast, BitVec.toNat_ofNat]; exact Nat.mod_eq_of_lt (by omega)
  have h3 : bits .and .u16 (a : Int) (b : Int) = IntKind.u16.wrap ((BitVec.ofInt 16 (a : Int) &&& BitVec.ofInt 16 (b : Int)).toNat : Int) := rfl
  rw [h3, BitVec.toNat_and, h1, h2]
  show ((a &&& b : Nat) : Int) % 65536 = _
  omega
def ordB : ByteArray := { data := #[36, 65, 66, 67, 68, 69, 97, 98, 99, 100] }
/-- the place of a byte in the order, and its bit -/
theorem place_all : ∀ n : Fin 256, (placeB ordL ((UInt8.ofNat n.val).toNat : Int) < 0 ∧ bitN (UInt8.ofNat n.val) = 0) ∨ ∃ k : Fin 10, placeB ordL ((UInt8.ofNat n.val).toNat : Int) = (k.val : Int) ∧ bitN (UInt8.ofNat n.val) = 2 ^ k.val := by decide +kernel
theorem place_cases (c : UInt8) : (placeB ordL (c.toNat : Int) < 0 ∧ bitN c = 0) ∨ ∃ k : Nat, k < 10 ∧ placeB ordL (c.toNat : Int) = (k : Int) ∧ bitN c = 2 ^ k := by
  have h := place_all ⟨c.toNat, c.toNat_lt⟩
  simp only [UInt8.ofNat_toNat] at h
  rcases h with h | ⟨k, h⟩
  · exact .inl h
  · exact .inr ⟨k.val, k.isLt, h⟩
theorem ret_u16 {a b : Int} (h : a = b) : Ending.returned (.int .u16 a) = .returned (.int .u16 b) := by rw [h]
theorem bitOf_any (c : UInt8) (w : World) :
    Calls Try.prog 71 #[.int .u8 (c.toNat : Int)] w fun e w' => e = .returned (.int .u16 (bitN c : Nat)) ∧ w = w' := by
  have hpl : placeB ordB.data.toList (c.toNat : Int) = placeB ordL (c.toNat : Int) := rfl
  go_enter Try.func71, Try.ntmps71
  go_wp2_with fail
  refine (placeB_any ordB (c.toNat : Int) w).mono ?_
  rintro e w2 ⟨rfl, rfl⟩
  rw [hpl]
  rcases place_cases c with ⟨h1, h2⟩ | ⟨k, hk, h1, h2⟩
  · generalize placeB ordL (c.toNat : Int) = p at *
    go_wp2
    go_ret
    exact ⟨ret_u16 (by rw [h2]; rfl), rfl⟩
  · rw [h1]
    have H2 := Lib.hid h2
    clear h1 h2 hpl
    have hk' : k = 0 ∨ k = 1 ∨ k = 2 ∨ k = 3 ∨ k = 4 ∨ k = 5 ∨ k = 6 ∨ k = 7 ∨ k = 8 ∨ k = 9 := by omega
    clear hk
    rcases hk' with rfl | rfl | rfl | rfl | rfl | rfl | rfl | rfl | rfl | rfl
    all_goals
      go_wp2
      go_ret
      exact ⟨ret_u16 (by rw [H2.out]; rfl), rfl⟩

set_option maxHeartbeats 400000 in
theorem setOf_any (s : ByteArray) (w : World) (hs : s.size ≤ maxLen) :
    Calls Try.prog 56 #[.string s] w fun e w' => e = .returned (.int .u16 (setN s.data.toList : Nat)) ∧ w = w' := by
  unfold maxLen at hs
  go_enter Try.func56, Try.ntmps56
  go_wp2
  go_loop [3, 7] (fun v i => ∃ k : Nat, k ≤ s.size ∧ i = .int .i64 k ∧ v = .int .u16 (setN (s.data.toList.take k) : Nat)) (fun _ i => s.size - (intOf i).toNat)
  case atStart => exact ⟨0, Nat.zero_le _, rfl, rfl⟩
  case round =>
    obtain ⟨k, hk, rfl, rfl⟩ := hrel
    by_cases hlt : k < s.size
    · have HT : Hid (setN (s.data.toList.take (k + 1)) = setN (s.data.toList.take k) ||| bitN s[k]) := by
        show _ = _; rw [take_snoc s k hlt, setN_snoc]
      have hor := bits_or (setN (s.data.toList.take k)) (bitN s[k]) (setN_lt _) (bitN_lt _)
      generalize setN (s.data.toList.take k) = m at *
      go_wp2_with (go_at_call 71; refine (bitOf_any s[k] _).mono ?_; rintro e w' ⟨rfl, rfl⟩)
      go_round
      case rel => exact ⟨k + 1, by omega, by go_num, by rw [HT.out]⟩
      case measure => simp [intOf]; omega
    · go_wp2
      go_ret
      exact ⟨ret_u16 (by rw [List.take_of_length_le (by simp; omega)]), rfl⟩
set_option maxHeartbeats 400000 in
theorem hasAll_any (m : Nat) (s : ByteArray) (w : World) (hm : m < 1024) (hs : s.size ≤ maxLen) :
    Calls Try.prog 57 #[.int .u16 (m : Nat), .string s] w fun e w' => e = .returned (.bool (hasAllN m s.data.toList)) ∧ w = w' := by
  unfold maxLen at hs
  go_enter Try.func57, Try.ntmps57
  go_wp2
  go_loop [8] (fun i => ∃ k : Nat, k ≤ s.size ∧ i = .int .i64 k ∧ Hid (hasAllN m (s.data.toList.take k) = true)) (fun i => s.size - (intOf i).toNat)
  case atStart => exact ⟨0, Nat.zero_le _, rfl, by simp [hasAllN, Hid]⟩
  case round =>
    obtain ⟨k, hk, rfl, H⟩ := hrel
    by_cases hlt : k < s.size
    · have HT : Hid (hasAllN m (s.data.toList.take (k + 1)) = (hasAllN m (s.data.toList.take k) && hasN m s[k])) := by
        show _ = _; rw [take_snoc s k hlt, hasAllN_snoc]
      have hand := bits_and m (bitN s[k]) hm (bitN_lt _)
      by_cases hb : m &&& bitN s[k] = 0
      · have hb' : (((m &&& bitN s[k] : Nat) : Int) == 0) = true := by rw [hb]; rfl
        have HB := Lib.hid hb
        clear hb
        go_wp2_with (go_at_call 71; refine (bitOf_any s[k] _).mono ?_; rintro e w' ⟨rfl, rfl⟩)
        go_ret
        refine ⟨ret_bool ?_, rfl⟩
        cases hh : hasAllN m s.data.toList with
        | false => rfl
        | true =>
          unfold hasAllN at hh
          rw [List.all_eq_true] at hh
          have := hh s[k] (by have : s[k] = s.data.toList[k]'(by simpa using hlt) := rfl
                              rw [this]; exact List.getElem_mem _)
          unfold hasN at this
          rw [HB.out] at this
          simp at this
      · have hb' : (((m &&& bitN s[k] : Nat) : Int) == 0) = false := by rw [beq_eq_false_iff_ne]; omega
        have HB := Lib.hid hb
        clear hb
        go_wp2_with (go_at_call 71; refine (bitOf_any s[k] _).mono ?_; rintro e w' ⟨rfl, rfl⟩)
        go_round
        case rel => exact ⟨k + 1, by omega, by go_num, by show _ = _; rw [HT.out, H.out]; simpa [hasN] using HB.out⟩
        case measure => simp [intOf]; omega
    · go_wp2
      go_ret
      exact ⟨ret_bool (by have := H.out; rw [List.take_of_length_le (by simp; omega)] at this; exact this.symm), rfl⟩
end Go.Proofs.Ytcningdeocmbgaa
namespace Go.Proofs.Ytcningdeocmbgaa
open Go.ChangeShapes Go.WideShapes Go.ChangeAt Go.RowKit
set_option maxRecDepth 100000
def textK (m k : Nat) : List UInt8 := (ordL.take k).filter (hasN m)
theorem textK_yes {m k : Nat} (hk : k < 10) (h : hasN m (ordL[k]'hk) = true) : textK m (k + 1) = textK m k ++ [ordL[k]'hk] := by
  unfold textK; rw [List.take_succ_eq_append_getElem hk, List.filter_append]; simp [h]
theorem textK_no {m k : Nat} (hk : k < 10) (h : hasN m (ordL[k]'hk) = false) : textK m (k + 1) = textK m k := by
  unfold textK; rw [List.take_succ_eq_append_getElem hk, List.filter_append]; simp [h]
theorem textK_len (m k : Nat) : (textK m k).length ≤ 10 := Nat.le_trans (List.length_filter_le _ _) (by simp [ordL]; omega)
theorem cut_ord : ∀ k : Fin 10, ordB.extract k.val (k.val + 1) = bytesOf [ordL[k.val]'k.isLt] := by decide +kernel
end Go.Proofs.Ytcningdeocmbgaa
namespace Go.Proofs.Ytcningdeocmbgaa
open Go.RowKit
section
variable {F : Fence} {n m : Nat} {P : Program}
/-- the record of a loop over a function -/
def recOf (fn : FuncId) (tmps : Array Value) (ps : Array Tmp) (assign body : Code) (D : Nat) (st : LoopState) (pe : Option Code) : Loop := { state := st, pending := pe, fn, tmps, params := ps, assign, body, defers := D }
/-- what is asked where the iterator has returned -/
def afterSeq (F : Fence) (n : Nat) (P : Program) (Q : Exit → Act → World → Prop) (a : Act) (W : World) : Option Code → Prop
  | none => Q .normal a W
  | some c => c.wpIn F n P Q a W
theorem wpIn_rangeFunc_open {g : Operand} {ps : Array Tmp} {assign body : Code} {Q : Exit → Act → World → Prop} {a : Act} {w : World}
    (hro : F.round = none) (h1 : 1 ≤ n) {gf : Nat} {lb : Array Value} (hg : a.eval g = .func (.func gf) #[] lb) (hFg : F.fn gf) (eg : ∀ args w, (callFunc gf args).run P w = .ok (.enter gf args) w)
    (h : ∀ fn, F.fn fn → CallsIn F (n - 1) P gf (#[.func (.yield (w.heap.size + 1)) #[] #[]] ++ lb) ((w.alloc (.deferred (some []))).alloc (.loop (recOf fn a.tmps ps assign body w.heap.size .ready none)))
      fun e W => ∃ v st pe, e = .returned v ∧ st ≠ .busy ∧ W.heap[w.heap.size + 1]? = some (.loop (recOf fn a.tmps ps assign body w.heap.size st pe)) ∧
        afterSeq F n P Q { a with defers := { target := .collected w.heap.size, args := #[] } :: a.defers } (W.putObj (w.heap.size + 1) (.loop (recOf fn a.tmps ps assign body w.heap.size .exhausted pe))) pe) :
    (Code.rangeFunc g ps assign body).wpIn F n P Q a w := by
  refine wpIn_rangeFunc ?_
  intro fn hfn
  rw [hro]
  obtain ⟨W1, hW1⟩ : ∃ W1, (w.alloc (.deferred (some []))).alloc (.loop (recOf fn a.tmps ps assign body w.heap.size .ready none)) = W1 := ⟨_, rfl⟩
  refine ⟨w.heap.size + 1, [{ target := .collected w.heap.size, args := #[] }], W1, { target := .fn (.func gf) lb, args := #[.func (.yield (w.heap.size + 1)) #[] #[]] }, W1, gf,
    #[.func (.yield (w.heap.size + 1)) #[] #[]] ++ lb, W1, ?_, ?_, ?_, ?_, fun _ => h1, ?_⟩
  · rw [← hW1]; exact run_enterLoop_outer _ _ _ _ _
  · simp only [resolve, hg]
    simp [go_sem]
  · intro f' hf'; simp [Target.leads] at hf'; subst hf'; exact hFg
  · simp [invoke, go_sem, eg]
  · rw [← hW1]
    refine (h fn hfn).mono ?_
    rintro e W ⟨v, st, pe, rfl, hst, hl, ha⟩
    refine ⟨pe, _, run_endLoop hl hst, ?_⟩
    cases pe with
    | none => exact ha
    | some c => exact ha
/-- what is asked where a round's body is left -/
def roundOpen (rec : LoopState → Option Code → Loop) (l : Nat) (R : Option Code → World → Prop) : Exit → Act → World → Prop
  | .normal, _, W => W.heap[l]? = some (.loop (rec .busy none)) ∧ R none (W.putObj l (.loop (rec .ready none)))
  | .ret, _, W => W.heap[l]? = some (.loop (rec .busy none)) ∧ R (some .ret) (W.putObj l (.loop (rec .done (some .ret))))
  | .exit id, _, W => W.heap[l]? = some (.loop (rec .busy none)) ∧ R (some (.exit id)) (W.putObj l (.loop (rec .done (some (.exit id)))))
  | .goto t, _, W => W.heap[l]? = some (.loop (rec .busy none)) ∧ R (some (.goto t)) (W.putObj l (.loop (rec .done (some (.goto t)))))
  | .panic _, _, _ => False
  | .outgrown, _, _ => False
theorem yieldAt_open {l D : Nat} {fn : FuncId} {tmps : Array Value} {ps : Array Tmp} {assign body : Code} {W : World} {args : Array Value} {R : Option Code → World → Prop}
    (hF : F.fn fn) (hl : W.heap[l]? = some (.loop (recOf fn tmps ps assign body D .ready none))) (hs : args.size = ps.size)
    (h : assign.wpIn (F.inRound l) m P (Exit.then (fun a₁ W₁ => W₁.heap[l]? = some (.loop (recOf fn tmps ps assign body D .ready none)) ∧
        body.wpIn (F.inRound l) m P (roundOpen (recOf fn tmps ps assign body D) l R) a₁ (W₁.putObj l (.loop (recOf fn tmps ps assign body D .busy none)))) (fun _ _ _ => False))
      { tmps := (ps.zip args).foldl (fun t (p, v) => t.setIfInBounds p v) tmps, defers := [] } W) :
    YieldAt F m P l args W fun e W' => ∃ j, e = .returned (.bool j.isNone) ∧ R j W' := by
  refine ⟨fn, _, assign, body, run_yield hl hs, roundIn_of_wpIn hF (wpIn_mono h ?_)⟩
  rintro e a₁ W₁ hq
  cases e with
  | normal =>
    obtain ⟨hl₁, hb⟩ := hq
    refine ⟨_, run_beginRound hl₁ rfl, wpIn_mono hb ?_⟩
    rintro e a₂ W₂ hq₂
    cases e with
    | normal => exact ⟨_, _, run_endRound none hq₂.1, none, rfl, hq₂.2⟩
    | ret => exact ⟨_, _, run_endRound (some .ret) hq₂.1, some .ret, rfl, hq₂.2⟩
    | exit id => exact ⟨_, _, run_endRound (some (.exit id)) hq₂.1, some (.exit id), rfl, hq₂.2⟩
    | goto t => exact ⟨_, _, run_endRound (some (.goto t)) hq₂.1, some (.goto t), rfl, hq₂.2⟩
    | panic ch => exact hq₂.elim
    | outgrown => exact hq₂.elim
  | ret => exact hq.elim
  | exit id => exact hq.elim
  | goto t => exact hq.elim
  | panic ch => exact hq.elim
  | outgrown => exact hq.elim
theorem Below.putObj {B : Nat} {a w : World} (h : Below B a w) {r : Nat} (hr : B ≤ r) (o : Obj) : Below B a (w.putObj r o) :=
  h.trans ⟨rfl, rfl, rfl, by simp, fun k hk => World.putObj_heap_other (by omega)⟩
end
end Go.Proofs.Ytcningdeocmbgaa
namespace Go.Proofs.Ytcningdeocmbgaa
open Go.ChangeShapes Go.WideShapes Go.ChangeAt Go.RowKit
def one1 (w : World) (b : Nat) (v : Value) (T : TypeId) : Prop := w.heap[b]? = some (.cells #[v] T)
theorem one1.lt {w : World} {b : Nat} {v : Value} {T : TypeId} (h : one1 w b v T) : b < w.heap.size := (Array.getElem?_eq_some_iff.1 h).1
theorem one1.cell {w : World} {b : Nat} {v : Value} {T : TypeId} (h : one1 w b v T) : w.cell? ⟨b, 0, none⟩ = some v ∧ w.frozen? ⟨b, 0, none⟩ = false := ⟨by rw [cell_of_block h 0]; rfl, frozen_of_block h 0⟩
theorem one1.below {w w' : World} {b : Nat} {v : Value} {T : TypeId} (h : one1 w b v T) (hb : Below w.heap.size w w') : one1 w' b v T := (hb.block b h.lt).trans h
theorem one1.alloc {w : World} {b : Nat} {v : Value} {T : TypeId} (h : one1 w b v T) (o : Obj) : one1 (w.alloc o) b v T := (blk_old _ _ h.lt).trans h
theorem one1.set {w : World} {b : Nat} {v : Value} {T : TypeId} (h : one1 w b v T) (u : Value) : one1 (w.setCell ⟨b, 0, none⟩ u) b u T := by
  unfold one1 at *; simp [World.setCell, Array.getElem?_modify, h]
theorem one1.other {w : World} {b c : Nat} {v : Value} {T : TypeId} (h : one1 w b v T) (hc : b ≠ c) (u : Value) : one1 (w.setCell ⟨c, 0, none⟩ u) b v T := (Below.heap_setCell w _ u b hc).trans h
theorem one1.put {w : World} {b c : Nat} {v : Value} {T : TypeId} (h : one1 w b v T) (hc : b ≠ c) (o : Obj) : one1 (w.putObj c o) b v T := (World.putObj_heap_other hc).trans h
theorem makeFunc_run : ∀ (fn : Fn) (first cap : Array Value) (w : World), (Instr.makeFunc fn first cap).run Try.prog w = .ok (.func fn first cap) w := fun _ _ _ _ => rfl
end Go.Proofs.Ytcningdeocmbgaa
namespace Go.Proofs.Ytcningdeocmbgaa
open Go.ChangeShapes Go.WideShapes Go.ChangeAt Go.RowKit
attribute [local go_sem] Oper.semAt_some
set_option maxRecDepth 100000
def cellN (w : World) (b : Nat) : Nat := match w.cell? ⟨b, 0, none⟩ with
  | some (.int _ v) => v.toNat
  | _ => 0
theorem one1.cellN {w : World} {b : Nat} {x : Nat} {k : IntKind} {T : TypeId} (h : one1 w b (.int k (x : Int)) T) : cellN w b = x := by
  unfold Go.Proofs.Ytcningdeocmbgaa.cellN; rw [h.cell.1]; simp
end Go.Proofs.Ytcningdeocmbgaa
namespace Go.Proofs.Ytcningdeocmbgaa
open Go.ChangeShapes Go.WideShapes Go.ChangeAt Go.RowKit
set_option maxRecDepth 100000
/-- a grammar's box -/
def GBox (w : World) (b : Nat) (st : ByteArray) (a : Option Addr) (n cap : Nat) : Prop := w.heap[b]? = some (.cells #[.string st, .slice a n cap] 35)
theorem GBox.lt {w : World} {b : Nat} {st : ByteArray} {a : Option Addr} {n cap : Nat} (h : GBox w b st a n cap) : b < w.heap.size := (Array.getElem?_eq_some_iff.1 h).1
theorem GBox.below {w w' : World} {b : Nat} {st : ByteArray} {a : Option Addr} {n cap : Nat} (h : GBox w b st a n cap) (hb : Below w.heap.size w w') : GBox w' b st a n cap := (hb.block b h.lt).trans h
theorem GBox.cells {w : World} {b : Nat} {st : ByteArray} {a : Option Addr} {n cap : Nat} (h : GBox w b st a n cap) : w.cell? ⟨b, 0, none⟩ = some (.string st) ∧ w.cell? ⟨b, 1, none⟩ = some (.slice a n cap) := ⟨by rw [cell_of_block h 0]; rfl, by rw [cell_of_block h 1]; rfl⟩
end Go.Proofs.Ytcningdeocmbgaa
namespace Go.Proofs.Ytcningdeocmbgaa
open Go.ChangeShapes Go.WideShapes Go.ChangeAt Go.RowKit
set_option maxRecDepth 100000
theorem leftsLeast_lt (rs : List RuleT) (g : Nat) : leftsLeast rs g < 1024 := by
  unfold leftsLeast leastN
  have : ∀ (l : List Nat) (acc : Nat), acc < 1024 → l.foldl (fun acc S => if leftsClosedB rs g S then acc &&& S else acc) acc < 1024 := by
    intro l
    induction l with
    | nil => intro acc h; exact h
    | cons S l ih =>
      intro acc h
      refine ih _ ?_
      show (if leftsClosedB rs g S = true then acc &&& S else acc) < 1024
      split
      · exact Nat.lt_of_le_of_lt Nat.and_le_left h
      · exact h
  exact this _ _ (by omega)
def noneL (st : ByteArray) (rs : List RuleT) : List UInt8 := if gramOkB st rs = true then textN (leftsLeast rs 0) else []
def madeL (st : ByteArray) (rs : List RuleT) : List UInt8 := if gramOkB st rs = true then textN (leftsLeast rs 960) else []
end Go.Proofs.Ytcningdeocmbgaa
namespace Go.Proofs.Ytcningdeocmbgaa
open Go.ChangeShapes Go.WideShapes Go.ChangeAt Go.RowKit
set_option maxRecDepth 100000
def inL (l : List UInt8) (c : UInt8) : Bool := l.contains c
theorem contains_at {s : ByteArray} {c : UInt8} {k : Nat} (h : k < s.size) (e : s[k] = c) : inL s.data.toList c = true := by
  rw [inL, List.contains_iff_mem, ← e]; show s.data[k] ∈ _; simp
theorem contains_not {s : ByteArray} {c : UInt8} (h : ∀ k (hk : k < s.size), ¬ s[k] = c) : inL s.data.toList c = false := by
  cases hh : inL s.data.toList c with
  | false => rfl
  | true =>
    rw [inL, List.contains_iff_mem] at hh
    obtain ⟨k, hk, e⟩ := List.getElem_of_mem hh
    exact absurd e (h k (by simpa using hk))
theorem u8_eq (a b : UInt8) : (((a.toNat : Nat) : Int) == ((b.toNat : Nat) : Int)) = decide (a = b) := by
  by_cases h : a = b
  · subst h; simp
  · have : ¬ a.toNat = b.toNat := fun e => h (UInt8.toNat_inj.1 e)
    rw [decide_eq_false h, beq_eq_false_iff_ne]; omega
theorem small_all : ∀ n : Fin 256, hasN 960 (UInt8.ofNat n.val) = smallN ((UInt8.ofNat n.val).toNat : Int) := by decide +kernel
theorem has_small (c : UInt8) : hasN 960 c = smallN (c.toNat : Int) := by
  have h := small_all ⟨c.toNat, c.toNat_lt⟩
  simpa only [UInt8.ofNat_toNat] using h
theorem hasN_zero (c : UInt8) : hasN 0 c = false := by simp [hasN]
def smallSet (b : Bool) : Nat := if b then 960 else 0
theorem smallSet_lt (b : Bool) : smallSet b < 1024 := by cases b <;> simp [smallSet]
theorem has_smallSet (m : Nat) (b : Bool) (c : UInt8) : hasN (m ||| smallSet b) c = (hasN m c || (b && smallN (c.toNat : Int))) := by
  rw [hasN_or]
  cases b
  · simp [smallSet, hasN_zero]
  · simp [smallSet, has_small]
theorem hasAll_bad {m : Nat} {s : ByteArray} {k : Nat} (h : k < s.size) (hb : hasN m s[k] = false) : hasAllN m s.data.toList = false := by
  cases hh : hasAllN m s.data.toList with
  | false => rfl
  | true =>
    unfold hasAllN at hh
    rw [List.all_eq_true] at hh
    have := hh s[k] (by show s.data[k] ∈ _; simp)
    rw [hb] at this; cases this
theorem ok_left {st : ByteArray} {rs : List RuleT} (h : gramOkB st rs = true) {k : Nat} (hk : k < rs.length) : ∃ c : UInt8, rs[k].1 = ⟨#[c]⟩ ∧ bigN (c.toNat : Int) = true := by
  unfold gramOkB at h
  simp only [Bool.and_eq_true, decide_eq_true_eq, List.all_eq_true, List.mem_range] at h
  have h4 := h.2.2 k hk
  rw [goodB_at hk] at h4
  simp only [ruleOkB, Bool.and_eq_true] at h4
  have h5 := h4.1.1
  simp only [isBigS, Bool.and_eq_true, decide_eq_true_eq, byteAt] at h5
  obtain ⟨h6, h7⟩ := h5
  have hl : rs[k].1.data.toList.length = 1 := by simpa using h6
  match hs : rs[k].1.data.toList, hl with
  | [x], _ =>
    rw [hs] at h7
    exact ⟨x, bytesOf_ext (by rw [hs]), by simpa using h7⟩
theorem big_ord {c : UInt8} (h : bigN (c.toNat : Int) = true) : c ∈ ordL := by
  rcases bigN_cases h with rfl | rfl | rfl | rfl | rfl <;> decide
end Go.Proofs.Ytcningdeocmbgaa
namespace Go.Proofs.Ytcningdeocmbgaa
open Go.ChangeShapes Go.WideShapes Go.ChangeAt Go.RowKit
set_option maxRecDepth 100000
/-- a text of small signs, eight at most -/
def textB (s : ByteArray) : Bool := hasAllN 960 s.data.toList && decide ((s.size : Int) ≤ 8)
theorem smalls_set (w : World) : Calls Try.prog 56 #[.string ({ data := #[97, 98, 99, 100] } : ByteArray)] w fun e w' => e = .returned (.int .u16 ((960 : Nat) : Int)) ∧ w = w' := by
  have hset : setN (({ data := #[97, 98, 99, 100] } : ByteArray)).data.toList = 960 := by decide
  refine (setOf_any ({ data := #[97, 98, 99, 100] } : ByteArray) w (by simp [maxLen, ByteArray.size])).mono ?_
  rintro e w1 ⟨rfl, rfl⟩
  rw [hset]
  exact ⟨rfl, rfl⟩
set_option maxHeartbeats 1000000 in
theorem textOk_any (s : ByteArray) (w : World) (hs : s.size ≤ maxLen) :
    Calls Try.prog 32 #[.string s] w fun e w' => e = .returned (.bool (textB s)) ∧ w = w' := by
  by_cases h8 : (s.size : Int) ≤ 8
  · have hd : textB s = hasAllN 960 s.data.toList := by unfold textB; simp [h8]
    have HD := Lib.hid hd
    clear hd
    go_enter Try.func32, Try.ntmps32
    go_wp2_with fail
    refine (smalls_set _).mono ?_
    rintro e w' ⟨rfl, rfl⟩
    go_wp2_with fail
    refine (hasAll_any 960 s _ (by omega) hs).mono ?_
    rintro e w' ⟨rfl, rfl⟩
    generalize hasAllN 960 s.data.toList = b at *
    go_wp2_with fail
    go_ret
    exact ⟨ret_bool (by rw [HD.out]), rfl⟩
  · have hd : textB s = false := by unfold textB; simp [h8]
    go_enter Try.func32, Try.ntmps32
    go_wp2_with fail
    go_ret
    exact ⟨rfl, rfl⟩
set_option maxHeartbeats 1000000 in
theorem sTextOk_any (s : ByteArray) (w : World) (hs : s.size ≤ maxLen) :
    Calls Try.prog 25 #[.string s] w fun e w' => e = .returned (.bool (textB s)) ∧ w = w' := by
  unfold maxLen at hs
  go_enter Try.func25, Try.ntmps25
  go_wp2_with fail
  go_loop [3] (fun i => ∃ k : Nat, k ≤ s.size ∧ i = .int .i64 k ∧ Hid (hasAllN 960 (s.data.toList.take k) = true)) (fun i => s.size - (intOf i).toNat)
  case atStart => exact ⟨0, Nat.zero_le _, rfl, by simp [hasAllN, Hid]⟩
  case round =>
    obtain ⟨k, hk, rfl, H⟩ := hrel
    by_cases hlt : k < s.size
    · have HT : Hid (hasAllN 960 (s.data.toList.take (k + 1)) = (hasAllN 960 (s.data.toList.take k) && hasN 960 s[k])) := by
        show _ = _; rw [take_snoc s k hlt, hasAllN_snoc]
      have hsm := has_small s[k]
      cases hb : smallN (s[k].toNat : Int) with
      | false =>
        have HN : Hid (hasAllN 960 s.data.toList = false) := hasAll_bad hlt (by rw [hsm, hb])
        clear hsm
        go_wp2_with (go_at_call 51; refine (l1Small_any _ _).mono ?_; rintro e w' ⟨rfl, rfl⟩; rw [hb])
        go_ret
        exact ⟨ret_bool (by unfold textB; rw [HN.out]; rfl), rfl⟩
      | true =>
        rw [hb] at hsm
        have HS := Lib.hid hsm
        clear hsm
        go_wp2_with (go_at_call 51; refine (l1Small_any _ _).mono ?_; rintro e w' ⟨rfl, rfl⟩; rw [hb])
        go_round
        case rel => exact ⟨k + 1, by omega, by go_num, by show _ = _; rw [HT.out, H.out, HS.out]; rfl⟩
        case measure => simp [intOf]; omega
    · have HA : Hid (hasAllN 960 s.data.toList = true) := by
        have := H.out
        rw [List.take_of_length_le (by simp; omega)] at this
        exact this
      go_wp2_with fail
      go_ret
      exact ⟨ret_bool (by unfold textB; rw [HA.out]; simp), rfl⟩
end Go.Proofs.Ytcningdeocmbgaa
