/- Contracts of the model's l1Add, l1Signs, GramBigs and GramSmalls. -/
import Derived.Test.YtiejfbodcjckeaaSymA
import Derived.BigRegion
namespace Go.Proofs.Ytiejfbodcjckeaa
open Go.ChangeShapes Go.WideShapes Go.ChangeAt Go.RowKit
set_option maxRecDepth 100000
/-- a byte put into bytes in order, once -/
def insL : List UInt8 → UInt8 → List UInt8
  | [], c => [c]
  | d :: r, c => if d.toNat < c.toNat then d :: insL r c else if d = c then d :: r else c :: d :: r
theorem insL_take : ∀ (l : List UInt8) (c : UInt8) (k : Nat), (∀ j (h : j < l.length), j < k → l[j].toNat < c.toNat) → insL l c = l.take k ++ insL (l.drop k) c
  | [], c, k, _ => by simp
  | d :: r, c, 0, _ => by simp
  | d :: r, c, k + 1, h => by
    have h0 := h 0 (by simp) (by omega)
    simp only [List.getElem_cons_zero] at h0
    rw [insL, if_pos h0, insL_take r c k (fun j hj hk => by have := h (j + 1) (by simpa using hj) (by omega); simpa using this)]
    simp
theorem insL_len : ∀ (l : List UInt8) (c : UInt8), (insL l c).length ≤ l.length + 1
  | [], c => by simp [insL]
  | d :: r, c => by
    have := insL_len r c
    unfold insL
    split
    · simp; omega
    · split <;> simp

theorem insL_at (l : List UInt8) (c : UInt8) (k : Nat) (h : ∀ j (h : j < l.length), j < k → l[j].toNat < c.toNat) (hk : ∀ hk : k < l.length, ¬ l[k].toNat < c.toNat ∧ l[k] ≠ c) : insL l c = l.take k ++ (c :: l.drop k) := by
  rw [insL_take l c k h]
  by_cases hl : k < l.length
  · rw [List.drop_eq_getElem_cons hl, insL, if_neg (hk hl).1, if_neg (hk hl).2]
  · rw [List.drop_eq_nil_of_le (by omega)]; rfl
theorem insL_same (l : List UInt8) (c : UInt8) (k : Nat) (h : ∀ j (h : j < l.length), j < k → l[j].toNat < c.toNat) (hk : k < l.length) (he : l[k] = c) : insL l c = l := by
  rw [insL_take l c k h, List.drop_eq_getElem_cons hk, insL, if_neg (by rw [he]; omega), if_pos he, ← List.drop_eq_getElem_cons hk, List.take_append_drop]
theorem take_cut (s : ByteArray) (k : Nat) : (s.extract 0 k).data.toList = s.data.toList.take k := by rw [Lib.extract_data]; simp
theorem add_cut (s : ByteArray) (c : UInt8) (k : Nat) (hs : s.size ≤ 1048576) (w : World) : (Op.stringOp .add (s.extract 0 k) (⟨#[c]⟩ : ByteArray)).run Try.prog w = .ok (.string (bytesOf (cat (s.data.toList.take k) (⟨#[c]⟩ : ByteArray)))) w := by
  have h : (s.data.toList.take k).length ≤ s.size := by simp; omega
  have := run_add_bytes (P := Try.prog) (s.data.toList.take k) (⟨#[c]⟩ : ByteArray) (by rw [one_size]; omega) w
  rwa [← take_cut, bytesOf_self, take_cut] at this
theorem add_cut2 (s : ByteArray) (c : UInt8) (k : Nat) (hs : s.size ≤ 1048576) (w : World) : (Op.stringOp .add (bytesOf (cat (s.data.toList.take k) (⟨#[c]⟩ : ByteArray))) (s.extract k s.size)).run Try.prog w = .ok (.string (bytesOf (cat (cat (s.data.toList.take k) (⟨#[c]⟩ : ByteArray)) (s.extract k s.size)))) w := by
  have h : (s.data.toList.take k).length ≤ s.size := by simp; omega
  have h2 : (s.extract k s.size).size ≤ s.size := by simp
  exact run_add_bytes (P := Try.prog) _ _ (by rw [cat_len, one_size]; omega) w
theorem cut_join (s : ByteArray) (c : UInt8) (k : Nat) : cat (cat (s.data.toList.take k) (⟨#[c]⟩ : ByteArray)) (s.extract k s.size) = s.data.toList.take k ++ (c :: s.data.toList.drop k) := by
  unfold cat
  rw [Lib.extract_data]
  simp
  rw [List.take_of_length_le (by simp)]
theorem convert_one (c : UInt8) (w : World) : (convert 42 9 (.slice (some ⟨w.heap.size, 0, none⟩) 1 1)).run Try.prog (w.alloc (.cells #[.int .u8 (c.toNat : Int)] 5)).drew = .ok (.string ⟨#[c]⟩) (w.alloc (.cells #[.int .u8 (c.toNat : Int)] 5)).drew :=
  run_convert_bytes_back _ _ _ 5 ⟨w.heap.size, 0, none⟩ 1 [c] Try.underlying42 Try.underlying5 Try.underlying9 (fun j hj => by
    match j, hj with
    | 0, _ => simp [Addr.add])

def allTo (st : ByteArray) (rs : List RuleT) (k : Nat) : List UInt8 := st.data.toList ++ (rs.take k).flatMap fun r => r.1.data.toList ++ r.2.data.toList
theorem allTo_zero (st : ByteArray) (rs : List RuleT) : bytesOf (allTo st rs 0) = st := by simp [allTo, bytesOf_self]
theorem allTo_succ (st : ByteArray) (rs : List RuleT) (k : Nat) (h : k < rs.length) : cat (cat (allTo st rs k) rs[k].1) rs[k].2 = allTo st rs (k + 1) := by
  unfold allTo cat
  rw [List.take_succ_eq_append_getElem h, List.flatMap_append]
  simp
theorem allTo_size {st : ByteArray} {rs : List RuleT} (h : gramOkB st rs = true) : ∀ k, k ≤ rs.length → (allTo st rs k).length ≤ 1 + 5 * k := by
  obtain ⟨h1, h2, h3⟩ := gramOk_facts h
  intro k
  induction k with
  | zero => intro _; simp [allTo]; omega
  | succ k ih =>
    intro hk
    have := ih (by omega)
    have h4 := h3 k (by omega)
    rw [← allTo_succ st rs k (by omega), cat_len, cat_len]
    omega
def signsOf (big : Bool) (l : List UInt8) : List UInt8 := l.foldl (fun o c => if bigN (c.toNat : Int) = big then insL o c else o) []
theorem signsOf_snoc (big : Bool) (l : List UInt8) (c : UInt8) : signsOf big (l ++ [c]) = if bigN (c.toNat : Int) = big then insL (signsOf big l) c else signsOf big l := by simp [signsOf]
theorem signsOf_len (big : Bool) (l : List UInt8) : (signsOf big l).length ≤ l.length := by
  generalize hn : l.length = n
  induction n generalizing l with
  | zero => obtain rfl : l = [] := List.eq_nil_of_length_eq_zero hn; simp [signsOf]
  | succ n ih =>
    obtain ⟨m, c, rfl⟩ : ∃ m c, l = m ++ [c] := ⟨l.dropLast, l.getLast (by intro h; rw [h] at hn; cases hn), (List.dropLast_concat_getLast _).symm⟩
    have := ih m (by simpa using hn)
    rw [signsOf_snoc]
    split
    · have := insL_len (signsOf big m) c; omega
    · omega

end Go.Proofs.Ytiejfbodcjckeaa
