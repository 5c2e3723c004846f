/- The texts of items: lines, their lengths. -/
import Derived.Test.YtpbpddbeofdpcaaItH
import Derived.Test.YtpbpddbeofdpcaaTextB
namespace Go.Proofs.Ytpbpddbeofdpcaa
open Go.ChangeShapes Go.WideShapes Go.ChangeAt Go.RowKit
set_option maxRecDepth 100000
theorem Builds.below {B b : Nat} {l : List UInt8} {w w' : World} (h : Builds B b l w) (hb : Below w.heap.size w w') : Builds B b l w' := by
  rcases h with h | h
  · have hlt := h.lt
    obtain ⟨h1, v, h2, h3, h4⟩ := h
    exact .inl ⟨h1, v, (hb.block b hlt).trans h2, h3.kept (row := none) ⟨hb.os, hb.tape, hb.output, hb.size, fun k hk _ => hb.block k hk⟩ (Classical.em _), h4⟩
  · have hlt := h.lt
    obtain ⟨h1, v, h2, h3, h4⟩ := h
    exact .inr ⟨h1, v, (hb.block b hlt).trans h2, h3.kept (row := none) ⟨hb.os, hb.tape, hb.output, hb.size, fun k hk _ => hb.block k hk⟩ (Classical.em _), h4⟩
def lineL (st : ByteArray) (rs : List RuleT) (x : ItemT) : List UInt8 :=
  (leftI rs x.1).data.toList ++ (62 :: ((rightI st rs x.1).data.toList.take x.2.1.toNat ++ (46 :: ((rightI st rs x.1).data.toList.drop x.2.1.toNat ++ (32 :: (x.2.2.data.toList ++ [10]))))))
def textI (st : ByteArray) (rs : List RuleT) (xs : List ItemT) (k : Nat) : List UInt8 := (xs.take k).flatMap (lineL st rs)
def itemsTextL (st : ByteArray) (rs : List RuleT) (xs : List ItemT) : ByteArray := bytesOf (if itemsB st rs xs = true then textI st rs xs xs.length else [])
theorem textI_succ {st : ByteArray} {rs : List RuleT} {xs : List ItemT} {k : Nat} (h : k < xs.length) : textI st rs xs (k + 1) = textI st rs xs k ++ lineL st rs xs[k] := by
  unfold textI
  rw [List.take_succ_eq_append_getElem h, List.flatMap_append]
  simp
theorem left_le {st : ByteArray} {rs : List RuleT} (hg : gramOkB st rs = true) (r : Int) : (leftI rs r).size ≤ 1 := by
  unfold leftI
  split
  · exact Nat.le_refl _
  · by_cases hr : r.toNat < rs.length
    · rw [List.getElem?_eq_getElem hr]
      exact Nat.le_of_eq ((gramOk_facts hg).2.2 _ hr).1
    · rw [List.getElem?_eq_none (by omega)]; exact Nat.zero_le _
theorem line_le {st : ByteArray} {rs : List RuleT} {x : ItemT} (hg : gramOkB st rs = true) (hx : okI st rs x = true) : (lineL st rs x).length ≤ 10 := by
  obtain ⟨_, _, d, e1, e2, ha, _⟩ := okI_facts hg hx
  obtain ⟨c, e, _⟩ := ahead_one ha
  have h1 := left_le hg x.1
  have h2 := (gram_right hg).2.2 x.1
  have h3 : x.2.2.size = 1 := by have := congrArg List.length e; simpa using this
  unfold lineL
  simp only [List.length_append, List.length_cons, List.length_take, List.length_drop, List.length_nil, Array.length_toList, ByteArray.size_data]
  omega
theorem items_good {st : ByteArray} {rs : List RuleT} {xs : List ItemT} (h : itemsB st rs xs = true) : gramOkB st rs = true ∧ (∀ j (hj : j < xs.length), okI st rs xs[j] = true) ∧ xs.length ≤ 225 := by
  have h' := h
  unfold itemsB at h
  simp only [Bool.and_eq_true, List.all_eq_true, List.mem_range] at h
  obtain ⟨hg, h2⟩ := h
  have hok : ∀ j (hj : j < xs.length), okI st rs xs[j] = true := fun j hj => good_ok hj (h2 j hj)
  refine ⟨hg, hok, ?_⟩
  have hup : ∀ k, k ≤ xs.length → (k : Int) - 1 ≤ lastI xs k := by
    intro k
    induction k with
    | zero => intro _; rw [lastI_zero]; omega
    | succ k ih =>
      intro hk
      have h3 := ih (by omega)
      have h4 := last_less hg (show k < xs.length by omega) (hok k (by omega)) (fun j hj => h2 j (by omega))
      rw [h2 k (by omega)] at h4
      have h5 := of_decide_eq_true h4.symm
      rw [lastI_succ (by omega)]
      omega
  have h6 := hup xs.length (Nat.le_refl _)
  have h7 := lastI_lt hg (Nat.le_refl xs.length) (fun j hj => h2 j hj)
  omega
theorem textI_le {st : ByteArray} {rs : List RuleT} {xs : List ItemT} (h : itemsB st rs xs = true) : ∀ k, k ≤ xs.length → (textI st rs xs k).length ≤ 10 * k := by
  obtain ⟨hg, hok, _⟩ := items_good h
  intro k
  induction k with
  | zero => intro _; simp [textI]
  | succ k ih =>
    intro hk
    have := ih (by omega)
    have := line_le hg (hok k (by omega))
    rw [textI_succ (by omega), List.length_append]
    omega
theorem line_cat (l : List UInt8) (st : ByteArray) (rs : List RuleT) (x : ItemT) (d : Nat) (hd : x.2.1 = d) :
    cat (cat (cat (cat (cat (cat (cat (cat l (leftI rs x.1)) (⟨#[62]⟩ : ByteArray)) ((rightI st rs x.1).extract 0 d)) (⟨#[46]⟩ : ByteArray)) ((rightI st rs x.1).extract d (rightI st rs x.1).size)) (⟨#[32]⟩ : ByteArray)) x.2.2) (⟨#[10]⟩ : ByteArray) = l ++ lineL st rs x := by
  unfold cat lineL
  rw [extract_lists, extract_lists, hd]
  have e : List.take ((rightI st rs x.1).size - d) (List.drop d (rightI st rs x.1).data.toList) = List.drop d (rightI st rs x.1).data.toList := List.take_of_length_le (by simp)
  rw [e]
  simp
end Go.Proofs.Ytpbpddbeofdpcaa
