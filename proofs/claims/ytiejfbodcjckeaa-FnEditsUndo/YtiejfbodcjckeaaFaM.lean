/- The mathematics of the edit distance: what the program's and the model's tables compute, and that it is a metric. -/
import Derived.Lib.Hide
namespace Go.Proofs.Ytiejfbodcjckeaa
/-- the edit distance of two lists, by their first elements -/
def lev : List UInt8 → List UInt8 → Nat
  | [], b => b.length
  | a :: as, [] => as.length + 1
  | a :: as, b :: bs => min (lev as bs + if a = b then 0 else 1) (1 + min (lev as (b :: bs)) (lev (a :: as) bs))
termination_by a b => a.length + b.length
theorem lev_nil_left (b : List UInt8) : lev [] b = b.length := by unfold lev; rfl
theorem lev_nil_right (a : List UInt8) : lev a [] = a.length := by cases a <;> (unfold lev; rfl)
theorem lev_cons (a b : UInt8) (as bs : List UInt8) : lev (a :: as) (b :: bs) = min (lev as bs + if a = b then 0 else 1) (1 + min (lev as (b :: bs)) (lev (a :: as) bs)) := by
  conv => lhs; unfold lev
/-- a list becomes another one by so many edits -/
inductive Ed : List UInt8 → List UInt8 → Nat → Prop
  | nil : Ed [] [] 0
  | keep (x) {a b n} : Ed a b n → Ed (x :: a) (x :: b) n
  | turn (x y) {a b n} : Ed a b n → Ed (x :: a) (y :: b) (n + 1)
  | put (y) {a b n} : Ed a b n → Ed a (y :: b) (n + 1)
  | out (x) {a b n} : Ed a b n → Ed (x :: a) b (n + 1)
theorem Ed.refl : ∀ a : List UInt8, Ed a a 0
  | [] => .nil
  | x :: a => .keep x (Ed.refl a)
theorem ed_puts : ∀ b : List UInt8, Ed [] b b.length
  | [] => .nil
  | y :: b => .put y (ed_puts b)
theorem ed_outs : ∀ a : List UInt8, Ed a [] a.length
  | [] => .nil
  | x :: a => .out x (ed_outs a)
theorem ed_lev : ∀ (n : Nat) (a b : List UInt8), a.length + b.length ≤ n → Ed a b (lev a b) := by
  intro n
  induction n with
  | zero =>
    intro a b h
    obtain rfl : a = [] := List.length_eq_zero_iff.1 (by omega)
    obtain rfl : b = [] := List.length_eq_zero_iff.1 (by omega)
    rw [lev_nil_left]; exact .nil
  | succ n ih =>
    intro a b h
    match a, b with
    | [], b => rw [lev_nil_left]; exact ed_puts b
    | a :: as, [] => rw [lev_nil_right]; exact ed_outs (a :: as)
    | a :: as, b :: bs =>
      simp only [List.length_cons] at h
      rw [lev_cons]
      have i1 := ih as bs (by omega)
      have i2 := ih as (b :: bs) (by simp; omega)
      have i3 := ih (a :: as) bs (by simp; omega)
      by_cases h1 : lev as bs + (if a = b then 0 else 1) ≤ 1 + min (lev as (b :: bs)) (lev (a :: as) bs)
      · rw [Nat.min_eq_left h1]
        by_cases e : a = b
        · subst e; rw [if_pos rfl]; exact .keep a i1
        · rw [if_neg e]; exact .turn a b i1
      · rw [Nat.min_eq_right (by omega)]
        by_cases h2 : lev as (b :: bs) ≤ lev (a :: as) bs
        · rw [Nat.min_eq_left h2, Nat.add_comm]; exact .out a i2
        · rw [Nat.min_eq_right (by omega), Nat.add_comm]; exact .put b i3
theorem lev_out (x : UInt8) (a b : List UInt8) : lev (x :: a) b ≤ lev a b + 1 := by
  cases b with
  | nil => rw [lev_nil_right, lev_nil_right]; simp
  | cons y b => rw [lev_cons]; omega
theorem lev_put (y : UInt8) (a b : List UInt8) : lev a (y :: b) ≤ lev a b + 1 := by
  cases a with
  | nil => rw [lev_nil_left, lev_nil_left]; simp
  | cons x a => rw [lev_cons]; omega
theorem lev_le {a b : List UInt8} {n : Nat} (h : Ed a b n) : lev a b ≤ n := by
  induction h with
  | nil => rw [lev_nil_left]; exact Nat.le_refl _
  | keep x h ih => rw [lev_cons, if_pos rfl]; omega
  | turn x y h ih => rw [lev_cons]; split <;> omega
  | put y h ih => exact Nat.le_trans (lev_put _ _ _) (by omega)
  | out x h ih => exact Nat.le_trans (lev_out _ _ _) (by omega)
theorem Ed.comp : ∀ (N : Nat) {a b c : List UInt8} {m n : Nat}, a.length + b.length + c.length ≤ N → Ed a b m → Ed b c n → ∃ k, k ≤ m + n ∧ Ed a c k := by
  intro N
  induction N with
  | zero =>
    intro a b c m n h h1 h2
    obtain rfl : a = [] := List.length_eq_zero_iff.1 (by omega)
    obtain rfl : c = [] := List.length_eq_zero_iff.1 (by omega)
    exact ⟨0, Nat.zero_le _, .nil⟩
  | succ N ih =>
    intro a b c m n h h1 h2
    cases h2 with
    | nil => exact ⟨m, by omega, h1⟩
    | put y h2' =>
      obtain ⟨k, hk, e⟩ := ih (by simp at h; omega) h1 h2'
      exact ⟨k + 1, by omega, .put y e⟩
    | keep z h2' =>
      cases h1 with
      | keep x h1' =>
        obtain ⟨k, hk, e⟩ := ih (by simp at h; omega) h1' h2'
        exact ⟨k, by omega, .keep _ e⟩
      | turn x y h1' =>
        obtain ⟨k, hk, e⟩ := ih (by simp at h; omega) h1' h2'
        exact ⟨k + 1, by omega, .turn _ _ e⟩
      | put y h1' =>
        obtain ⟨k, hk, e⟩ := ih (by simp at h; omega) h1' h2'
        exact ⟨k + 1, by omega, .put _ e⟩
      | out x h1' =>
        obtain ⟨k, hk, e⟩ := ih (by simp at h ⊢; omega) h1' (.keep z h2')
        exact ⟨k + 1, by omega, .out _ e⟩
    | turn z z' h2' =>
      cases h1 with
      | keep x h1' =>
        obtain ⟨k, hk, e⟩ := ih (by simp at h; omega) h1' h2'
        exact ⟨k + 1, by omega, .turn _ _ e⟩
      | turn x y h1' =>
        obtain ⟨k, hk, e⟩ := ih (by simp at h; omega) h1' h2'
        exact ⟨k + 1, by omega, .turn _ _ e⟩
      | put y h1' =>
        obtain ⟨k, hk, e⟩ := ih (by simp at h; omega) h1' h2'
        exact ⟨k + 1, by omega, .put _ e⟩
      | out x h1' =>
        obtain ⟨k, hk, e⟩ := ih (by simp at h ⊢; omega) h1' (.turn z z' h2')
        exact ⟨k + 1, by omega, .out _ e⟩
    | out z h2' =>
      cases h1 with
      | keep x h1' =>
        obtain ⟨k, hk, e⟩ := ih (by simp at h; omega) h1' h2'
        exact ⟨k + 1, by omega, .out _ e⟩
      | turn x y h1' =>
        obtain ⟨k, hk, e⟩ := ih (by simp at h; omega) h1' h2'
        exact ⟨k + 1, by omega, .out _ e⟩
      | put y h1' =>
        obtain ⟨k, hk, e⟩ := ih (by simp at h; omega) h1' h2'
        exact ⟨k, by omega, e⟩
      | out x h1' =>
        obtain ⟨k, hk, e⟩ := ih (by simp at h ⊢; omega) h1' (.out z h2')
        exact ⟨k + 1, by omega, .out _ e⟩
theorem lev_tri (a b c : List UInt8) : lev a c ≤ lev a b + lev b c := by
  obtain ⟨k, hk, e⟩ := Ed.comp _ (Nat.le_refl _) (ed_lev _ a b (Nat.le_refl _)) (ed_lev _ b c (Nat.le_refl _))
  exact Nat.le_trans (lev_le e) hk
theorem Ed.symm {a b : List UInt8} {n : Nat} (h : Ed a b n) : Ed b a n := by
  induction h with
  | nil => exact .nil
  | keep x h ih => exact .keep x ih
  | turn x y h ih => exact .turn y x ih
  | put y h ih => exact .out y ih
  | out x h ih => exact .put x ih
theorem lev_comm (a b : List UInt8) : lev a b = lev b a :=
  Nat.le_antisymm (lev_le (ed_lev _ b a (Nat.le_refl _)).symm) (lev_le (ed_lev _ a b (Nat.le_refl _)).symm)
theorem ed_zero {a b : List UInt8} {n : Nat} (h : Ed a b n) : n = 0 → a = b := by
  induction h with
  | nil => intro _; rfl
  | keep x h ih => intro e; rw [ih e]
  | turn x y h ih => intro e; omega
  | put y h ih => intro e; omega
  | out x h ih => intro e; omega
theorem lev_zero (a b : List UInt8) : lev a b = 0 ↔ a = b := by
  constructor
  · intro h; exact ed_zero (ed_lev _ a b (Nat.le_refl _)) h
  · rintro rfl; exact Nat.le_zero.1 (lev_le (Ed.refl a))
/-- no more than the longer of the two -/
theorem lev_max : ∀ (a b : List UInt8), lev a b ≤ max a.length b.length
  | [], b => by rw [lev_nil_left]; simp
  | a :: as, [] => by rw [lev_nil_right]; simp
  | a :: as, b :: bs => by
    have := lev_max as bs
    rw [lev_cons]
    simp only [List.length_cons]
    split <;> omega
theorem lev_same (x : UInt8) (a b : List UInt8) : lev (x :: a) (x :: b) = lev a b := by
  rw [lev_cons, if_pos rfl]
  have h1 := lev_tri a (x :: b) b
  have h2 : lev (x :: b) b ≤ 1 := lev_le (.out x (Ed.refl b))
  have h3 := lev_tri a (x :: a) b
  have h4 : lev a (x :: a) ≤ 1 := lev_le (.put x (Ed.refl a))
  omega
theorem ed_front {a b : List UInt8} {n : Nat} (h : Ed a b n) : ∀ p : List UInt8, Ed (p ++ a) (p ++ b) n
  | [] => h
  | x :: p => .keep x (ed_front h p)
/-- the distance that the tables hold: of the first i elements and the first j -/
def levT (a b : List UInt8) (i j : Nat) : Nat := lev (a.take i).reverse (b.take j).reverse
theorem levT_0 (a b : List UInt8) (j : Nat) (h : j ≤ b.length) : levT a b 0 j = j := by
  unfold levT; rw [List.take_zero, List.reverse_nil, lev_nil_left]; simp; omega
theorem levT_i0 (a b : List UInt8) (i : Nat) (h : i ≤ a.length) : levT a b i 0 = i := by
  unfold levT; rw [List.take_zero, List.reverse_nil, lev_nil_right]; simp; omega
theorem take_rev (a : List UInt8) (i : Nat) (h : i < a.length) : (a.take (i + 1)).reverse = a[i] :: (a.take i).reverse := by
  rw [List.take_succ_eq_append_getElem h, List.reverse_append]; rfl
theorem levT_step (a b : List UInt8) (i j : Nat) (hi : i < a.length) (hj : j < b.length) :
    levT a b (i + 1) (j + 1) = min (levT a b i j + if a[i] = b[j] then 0 else 1) (1 + min (levT a b i (j + 1)) (levT a b (i + 1) j)) := by
  unfold levT
  rw [take_rev a i hi, take_rev b j hj, lev_cons]
theorem levT_same (a b : List UInt8) (i j : Nat) (hi : i < a.length) (hj : j < b.length) (h : a[i] = b[j]) : levT a b (i + 1) (j + 1) = levT a b i j := by
  unfold levT
  rw [take_rev a i hi, take_rev b j hj, h, lev_same]
theorem levT_le (a b : List UInt8) (i j : Nat) : levT a b i j ≤ i + j := by
  have := lev_max (a.take i).reverse (b.take j).reverse
  unfold levT; simp at this ⊢; omega
/-- the distance of two strings -/
def farS (a b : ByteArray) : Nat := lev a.data.toList.reverse b.data.toList.reverse
theorem farS_T (a b : ByteArray) : levT a.data.toList b.data.toList a.size b.size = farS a b := by
  unfold levT farS
  rw [List.take_of_length_le (by simp), List.take_of_length_le (by simp)]
theorem farS_comm (a b : ByteArray) : farS a b = farS b a := lev_comm _ _
theorem farS_tri (a b c : ByteArray) : farS a c ≤ farS a b + farS b c := lev_tri _ _ _
theorem farS_zero (a b : ByteArray) : farS a b = 0 ↔ a = b := by
  unfold farS
  rw [lev_zero]
  constructor
  · intro h
    have h := List.reverse_inj.1 h
    rcases a with ⟨⟨a⟩⟩; rcases b with ⟨⟨b⟩⟩
    simp at h; rw [h]
  · rintro rfl; rfl
theorem farS_max (a b : ByteArray) : farS a b ≤ max a.size b.size := by
  have := lev_max a.data.toList.reverse b.data.toList.reverse
  unfold farS; simpa using this
end Go.Proofs.Ytiejfbodcjckeaa
