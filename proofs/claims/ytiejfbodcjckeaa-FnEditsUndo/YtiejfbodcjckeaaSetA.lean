/- Sets of symbols as numbers, a bit for each byte of the order $ABCDEabcd; least closed sets. -/
import Derived.Test.YtiejfbodcjckeaaSymC
namespace Go.Proofs.Ytiejfbodcjckeaa
open Go.ChangeShapes Go.WideShapes Go.ChangeAt Go.RowKit
set_option maxRecDepth 100000
def ordL : List UInt8 := [36, 65, 66, 67, 68, 69, 97, 98, 99, 100]
def bitN (c : UInt8) : Nat := if c = 36 then 1 else if c = 65 then 2 else if c = 66 then 4 else if c = 67 then 8 else if c = 68 then 16 else if c = 69 then 32 else if c = 97 then 64 else if c = 98 then 128 else if c = 99 then 256 else if c = 100 then 512 else 0
def setN (l : List UInt8) : Nat := l.foldl (fun m c => m ||| bitN c) 0
def hasN (m : Nat) (c : UInt8) : Bool := (m &&& bitN c) != 0
def hasAllN (m : Nat) (l : List UInt8) : Bool := l.all (hasN m)
def textN (m : Nat) : List UInt8 := ordL.filter (hasN m)
theorem bitN_lt (c : UInt8) : bitN c < 1024 := by unfold bitN; repeat' (first | omega | split)
theorem or_lt {a b : Nat} (ha : a < 1024) (hb : b < 1024) : a ||| b < 1024 := Nat.or_lt_two_pow (n := 10) ha hb
theorem foldSet_lt (l : List UInt8) : ∀ m, m < 1024 → l.foldl (fun m c => m ||| bitN c) m < 1024 := by
  induction l with
  | nil => intro m h; exact h
  | cons c l ih => intro m h; exact ih _ (or_lt h (bitN_lt c))
theorem setN_lt (l : List UInt8) : setN l < 1024 := foldSet_lt l 0 (by omega)
theorem setN_snoc (l : List UInt8) (c : UInt8) : setN (l ++ [c]) = setN l ||| bitN c := by simp [setN]
theorem setN_one (c : UInt8) : setN [c] = bitN c := by simp [setN]
theorem hasAllN_snoc (m : Nat) (l : List UInt8) (c : UInt8) : hasAllN m (l ++ [c]) = (hasAllN m l && hasN m c) := by simp [hasAllN]
/-- a is within b -/
def Sub (a b : Nat) : Prop := a ||| b = b
theorem Sub.refl (a : Nat) : Sub a a := Nat.or_self a
theorem Sub.trans {a b c : Nat} (h : Sub a b) (k : Sub b c) : Sub a c := by
  unfold Sub at *; rw [← k, ← Nat.or_assoc, h]
theorem Sub.antisymm {a b : Nat} (h : Sub a b) (k : Sub b a) : a = b := by
  unfold Sub at *; rw [← k, Nat.or_comm]; exact h
theorem Sub.le {a b : Nat} (h : Sub a b) : a ≤ b := by
  unfold Sub at h; rw [← h]; exact Nat.left_le_or
theorem sub_or_left (a b : Nat) : Sub a (a ||| b) := by unfold Sub; rw [← Nat.or_assoc, Nat.or_self]
theorem sub_or_right (a b : Nat) : Sub b (a ||| b) := by rw [Nat.or_comm]; exact sub_or_left b a
theorem Sub.or {a b c : Nat} (h : Sub a c) (k : Sub b c) : Sub (a ||| b) c := by
  unfold Sub at *; rw [Nat.or_assoc, k, h]
theorem Sub.zero (a : Nat) : Sub 0 a := Nat.zero_or a
theorem Sub.or_mono {a b c d : Nat} (h : Sub a c) (k : Sub b d) : Sub (a ||| b) (c ||| d) := (h.trans (sub_or_left _ _)).or (k.trans (sub_or_right _ _))
theorem hasN_or (a b : Nat) (c : UInt8) : hasN (a ||| b) c = (hasN a c || hasN b c) := by
  unfold hasN
  rw [Nat.and_or_distrib_right, Bool.eq_iff_iff]
  simp only [bne_iff_ne, ne_eq, Bool.or_eq_true]
  constructor
  · intro h
    by_cases h1 : a &&& bitN c = 0
    · right; intro h2; exact h (by rw [h1, h2]; rfl)
    · exact .inl h1
  · rintro (h | h) e
    · have := Nat.left_le_or (n := a &&& bitN c) (m := b &&& bitN c); omega
    · have := Nat.right_le_or (n := a &&& bitN c) (m := b &&& bitN c); omega
theorem hasN_mono {a b : Nat} (h : Sub a b) {c : UInt8} (hc : hasN a c = true) : hasN b c = true := by
  unfold Sub at h; rw [← h, hasN_or, hc]; rfl
theorem hasAllN_mono {a b : Nat} (h : Sub a b) {l : List UInt8} (hl : hasAllN a l = true) : hasAllN b l = true := by
  unfold hasAllN at *
  rw [List.all_eq_true] at *
  exact fun c hc => hasN_mono h (hl c hc)
theorem hasN_ord : ∀ n : Fin 256, ∀ m : Fin 11, hasN (if m.val = 10 then 1023 else 2 ^ m.val) (UInt8.ofNat n.val) = true → (UInt8.ofNat n.val) ∈ ordL := by decide +kernel
theorem bitN_ord : ∀ n : Fin 256, bitN (UInt8.ofNat n.val) ≠ 0 → (UInt8.ofNat n.val) ∈ ordL := by decide +kernel
theorem hasN_mem {m : Nat} {c : UInt8} (h : hasN m c = true) : c ∈ ordL := by
  have h1 := bitN_ord ⟨c.toNat, c.toNat_lt⟩
  simp only [UInt8.ofNat_toNat] at h1
  refine h1 fun e => ?_
  unfold hasN at h
  rw [e] at h
  simp at h
theorem text_has (m : Nat) (c : UInt8) : (textN m).contains c = hasN m c := by
  rw [Bool.eq_iff_iff, List.contains_iff_mem, textN, List.mem_filter]
  exact ⟨fun h => h.2, fun h => ⟨hasN_mem h, h⟩⟩
theorem ins_text_all : ∀ m : Fin 1024, ordL.all (fun c => insL (textN m.val) c == textN (m.val ||| bitN c)) = true := by decide +kernel
theorem ins_text {m : Nat} (hm : m < 1024) {c : UInt8} (hc : c ∈ ordL) : insL (textN m) c = textN (m ||| bitN c) := by
  have := ins_text_all ⟨m, hm⟩
  rw [List.all_eq_true] at this
  simpa using this c hc
theorem set_text_all : ∀ m : Fin 1024, setN (textN m.val) = m.val := by decide +kernel
theorem set_text {m : Nat} (hm : m < 1024) : setN (textN m) = m := set_text_all ⟨m, hm⟩
theorem text_len (m : Nat) : (textN m).length ≤ 10 := List.length_filter_le _ _
theorem hasN_bit_all : ordL.all (fun c => ordL.all fun d => hasN (bitN c) d == (c == d)) = true := by decide +kernel
theorem hasN_self {c : UInt8} (h : c ∈ ordL) : hasN (bitN c) c = true := by
  have := List.all_eq_true.1 (List.all_eq_true.1 hasN_bit_all c h) c h
  simpa using this
/-- what holds c holds c's bit -/
theorem sub_bit_all : ∀ m : Fin 1024, ordL.all (fun c => !hasN m.val c || (bitN c ||| m.val == m.val)) = true := by decide +kernel
theorem sub_bit {m : Nat} (hm : m < 1024) {c : UInt8} (h : hasN m c = true) : Sub (bitN c) m := by
  have := List.all_eq_true.1 (sub_bit_all ⟨m, hm⟩) c (hasN_mem h)
  simp only [h, Bool.not_true, Bool.false_or, beq_iff_eq] at this
  exact this
theorem hasN_of_sub {m : Nat} {c : UInt8} (hc : c ∈ ordL) (h : Sub (bitN c) m) : hasN m c = true := hasN_mono h (hasN_self hc)
/-- the least closed set -/
def leastN (closedB : Nat → Bool) : Nat := (List.range 1024).foldl (fun acc S => if closedB S then acc &&& S else acc) 1023
theorem sub_and {a b : Nat} (h : Sub a b) : a &&& b = a := by
  unfold Sub at h
  rw [← h]
  apply Nat.eq_of_testBit_eq
  intro i
  simp only [Nat.testBit_and, Nat.testBit_or]
  cases a.testBit i <;> simp
theorem leastN_eq {closedB : Nat → Bool} {R : Nat} (h1 : closedB R = true) (h2 : R < 1024) (h3 : ∀ S, S < 1024 → closedB S = true → Sub R S) : leastN closedB = R := by
  have hlow : ∀ (l : List Nat) (acc : Nat), (∀ S ∈ l, S < 1024) → R &&& acc = R → R &&& l.foldl (fun acc S => if closedB S then acc &&& S else acc) acc = R := by
    intro l
    induction l with
    | nil => intro acc _ h; exact h
    | cons S l ih =>
      intro acc hl h
      refine ih _ (fun T hT => hl T (List.mem_cons_of_mem _ hT)) ?_
      show R &&& (if closedB S then acc &&& S else acc) = R
      by_cases hc : closedB S = true
      · rw [if_pos hc, ← Nat.and_assoc, h]
        exact sub_and (h3 S (hl S (List.mem_cons_self ..)) hc)
      · rw [if_neg hc]; exact h
  have hup : ∀ (l : List Nat) (acc : Nat), (R ∈ l ∨ acc &&& R = acc) → (l.foldl (fun acc S => if closedB S then acc &&& S else acc) acc) &&& R = l.foldl (fun acc S => if closedB S then acc &&& S else acc) acc := by
    intro l
    induction l with
    | nil => intro acc h; rcases h with h | h; (cases h); exact h
    | cons S l ih =>
      intro acc h
      refine ih _ ?_
      rcases h with h | h
      · rcases List.mem_cons.1 h with rfl | h
        · right
          show (if closedB R then acc &&& R else acc) &&& R = (if closedB R then acc &&& R else acc)
          rw [if_pos h1, Nat.and_assoc, Nat.and_self]
        · exact .inl h
      · right
        show (if closedB S then acc &&& S else acc) &&& R = (if closedB S then acc &&& S else acc)
        by_cases hc : closedB S = true
        · rw [if_pos hc, Nat.and_assoc, Nat.and_comm S R, ← Nat.and_assoc, h]
        · rw [if_neg hc]; exact h
  have h1023 : ∀ m : Fin 1024, m.val &&& 1023 = m.val := by decide +kernel
  have a := hlow (List.range 1024) 1023 (fun S hS => List.mem_range.1 hS) (h1023 ⟨R, h2⟩)
  have b := hup (List.range 1024) 1023 (.inl (List.mem_range.2 h2))
  unfold leastN
  rw [← b, Nat.and_comm]; exact a
end Go.Proofs.Ytiejfbodcjckeaa
