/- Sets of symbols as numbers, a bit for each byte of the order $ABCDEabcd; least closed sets. -/
import Derived.Test.YtngekjbdjnfhmaaDoorSymC
namespace Go.Proofs.YtngekjbdjnfhmaaDoor
open Go.ChangeShapes Go.WideShapes Go.ChangeAt Go.RowKit
set_option maxRecDepth 100000
def ordL : List UInt8 := [36, 65, 66, 67, 68, 69, 97, 98, 99, 100]
def bitN (c : UInt8) : Nat := if c = 36 then 1 else if c = 65 then 2 else if c = 66 then 4 else if c = 67 then 8 else if c = 68 then 16 else if c = 69 then 32 else if c = 97 then 64 else if c = 98 then 128 else if c = 99 then 256 else if c = 100 then 512 else 0
def setN (l : List UInt8) : Nat := l.foldl (fun m c => m ||| bitN c) 0
def hasN (m : Nat) (c : UInt8) : Bool := (m &&& bitN c) != 0
def hasAllN (m : Nat) (l : List UInt8) : Bool := l.all (hasN m)
def textN (m : Nat) : List UInt8 := ordL.filter (hasN m)
theorem bitN_lt (c : UInt8) : bitN c < 1024 := by unfold bitN; repeat' (first | omega | split)
theorem or_lt {a b : Nat} (ha : a < 1024) (hb : b < 1024) : a ||| b < 1024 := Nat.or_lt_two_pow (n := 10) ha hb
theorem foldSet_lt (l : List UInt8) : ∀ m, m < 1024 → l.foldl (fun m c => m ||| bitN c) m < 1024 := by
  induction l with
  | nil => intro m h; exact h
  | cons c l ih => intro m h; exact ih _ (or_lt h (bitN_lt c))
theorem setN_lt (l : List UInt8) : setN l < 1024 := foldSet_lt l 0 (by omega)
theorem setN_snoc (l : List UInt8) (c : UInt8) : setN (l ++ [c]) = setN l ||| bitN c := by simp [setN]
theorem setN_one (c : UInt8) : setN [c] = bitN c := by simp [setN]
theorem hasAllN_snoc (m : Nat) (l : List UInt8) (c : UInt8) : hasAllN m (l ++ [c]) = (hasAllN m l && hasN m c) := by simp [hasAllN]
/-- a is within b -/
def Sub (a b : Nat) : Prop := a ||| b = b
theorem Sub.refl (a : Nat) : Sub a a := Nat.or_self a
theorem Sub.trans {a b c : Nat} (h : Sub a b) (k : Sub b c) : Sub a c := by
  unfold Sub at *; rw [← k, ← Nat.or_assoc, h]
theorem Sub.antisymm {a b : Nat} (h : Sub a b) (k : Sub b a) : a = b := by
  unfold Sub at *; rw [← k, Nat.or_comm]; exact h
theorem Sub.le {a b : Nat} (h : Sub a b) : a ≤ b := by
  unfold Sub at h; rw [← h]; exact Nat.left_le_or
theorem sub_or_left (a b : Nat) : Sub a (a ||| b) := by unfold Sub; rw [← Nat.or_assoc, Nat.or_self]
theorem sub_or_right (a b : Nat) : Sub b (a ||| b) := by rw [Nat.or_comm]; exact sub_or_left b a
theorem Sub.or {a b c : Nat} (h : Sub a c) (k : Sub b c) : Sub (a ||| b) c := by
  unfold Sub at *; rw [Nat.or_assoc, k, h]
theorem Sub.zero (a : Nat) : Sub 0 a := Nat.zero_or a
theorem Sub.or_mono {a b c d : Nat} (h : Sub a c) (k : Sub b d) : Sub (a ||| b) (c ||| d) := (h.trans (sub_or_left _ _)).or (k.trans (sub_or_right _ _))
theorem hasN_or (a b : Nat) (c : UInt8) : hasN (a ||| b) c = (hasN a c || hasN b c) := by
  unfold hasN
  rw [Nat.and_or_distrib_right, Bool.eq_iff_iff]
  simp only [bne_iff_ne, ne_eq, Bool.or_eq_true]
  constructor
  · intro h
    by_cases h1 : a &&& bitN c = 0
    · right; intro h2; exact h (by rw [h1, h2]; rfl)
    · exact .inl h1
  · rintro (h | h) e
    · have := Nat.left_le_or (n := a &&& bitN c) (m := b &&& bitN c); omega
    · have := Nat.right_le_or (n := a &&& bitN c) (m := b &&& bitN c); omega
theorem hasN_mono {a b : Nat} (h : Sub a b) {c : UInt8} (hc : hasN a c = true) : hasN b c = true := by
  unfold Sub at h; rw [← h, hasN_or, hc]; rfl
theorem hasAllN_mono {a b : Nat} (h : Sub a b) {l : List UInt8} (hl : hasAllN a l = true) : hasAllN b l = true := by
  unfold hasAllN at *
  rw [List.all_eq_true] at *
  exact fun c hc => hasN_mono h (hl c hc)
theorem hasN_ord : ∀ n : Fin 256, ∀ m : Fin 11, hasN (if m.val = 10 then 1023 else 2 ^ m.val) (UInt8.ofNat n.val) = true → (UInt8.ofNat n.val) ∈ ordL := by decide +kernel
theorem bitN_ord : ∀ n : Fin 256, bitN (UInt8.ofNat n.val) ≠ 0 → (UInt8.ofNat n.val) ∈ ordL := by decide +kernel
theorem hasN_mem {m : Nat} {c : UInt8} (h : hasN m c = true) : c ∈ ordL := by
  have h1 := bitN_ord ⟨c.toNat, c.toNat_lt⟩
  simp only [UInt8.ofNat_toNat] at h1
  refine h1 fun e => ?_
  unfold hasN at h
  rw [e] at h
  simp at h
theorem text_has (m : Nat) (c : UInt8) : (textN m).contains c = hasN m c := by
  rw [Bool.eq_iff_iff, List.contains_iff_mem, textN, List.mem_filter]
  exact ⟨fun h => h.2, fun h => ⟨hasN_mem h, h⟩⟩
theorem ins_text_all : ∀ m : Fin 1024, ordL.all (fun c => insL (textN m.val) c == textN (m.val ||| bitN c)) = true := by decide +kernel
theorem ins_text {m : Nat} (hm : m < 1024) {c : UInt8} (hc : c ∈ ordL) : insL (textN m) c = textN (m ||| bitN c) := by
  have := ins_text_all ⟨m, hm⟩
  rw [List.all_eq_true] at this
  simpa using this c hc
theorem set_text_all : ∀ m : Fin 1024, setN (textN m.val) = m.val := by decide +kernel
theorem set_text {m : Nat} (hm : m < 1024) : setN (textN m) = m := set_text_all ⟨m, hm⟩
theorem text_len (m : Nat) : (textN m).length ≤ 10 := List.length_filter_le _ _
theorem hasN_bit_all : ordL.all (fun c => ordL.all fun d => hasN (bitN c) d == (c == d)) = true := by decide +kernel
theorem hasN_self {c : UInt8} (h : c ∈ ordL) : hasN (bitN c) c = true := by
  have := List.all_eq_true.1 (List.all_eq_true.1 hasN_bit_all c h) c h
  simpa using this
/-- what holds c holds c's bit -/
theorem sub_bit_all : ∀ m : Fin 1024, ordL.all (fun c => !hasN m.val c || (bitN c ||| m.val == m.val)) = true := by decide +kernel
theorem sub_bit {m : Nat} (hm : m < 1024) {c : UInt8} (h : hasN m c = true) : Sub (bitN c) m := by
  have := List.all_eq_true.1 (sub_bit_all ⟨m, hm⟩) c (hasN_mem h)
  simp only [h, Bool.not_true, Bool.false_or, beq_iff_eq] at this
  exact this
theorem hasN_of_sub {m : Nat} {c : UInt8} (hc : c ∈ ordL) (h : Sub (bitN c) m) : hasN m c = true := hasN_mono h (hasN_self hc)
/-- the least closed set -/
def leastN (closedB : Nat → Bool) : Nat := (List.range 1024).foldl (fun acc S => if closedB S then acc &&& S else acc) 1023
theorem sub_and {a b : Nat} (h : Sub a b) : a &&& b = a := by
  unfold Sub at h
  rw [← h]
  apply Nat.eq_of_testBit_eq
  intro i
  simp only [Nat.testBit_and, Nat.testBit_or]
  cases a.testBit i <;> simp
theorem leastN_eq {closedB : Nat → Bool} {R : Nat} (h1 : closedB R = true) (h2 : R < 1024) (h3 : ∀ S, S < 1024 → closedB S = true → Sub R S) : leastN closedB = R := by
  have hlow : ∀ (l : List Nat) (acc : Nat), (∀ S ∈ l, S < 1024) → R &&& acc = R → R &&& l.foldl (fun acc S => if closedB S then acc &&& S else acc) acc = R := by
    intro l
    induction l with
    | nil => intro acc _ h; exact h
    | cons S l ih =>
      intro acc hl h
      refine ih _ (fun T hT => hl T (List.mem_cons_of_mem _ hT)) ?_
      show R &&& (if closedB S then acc &&& S else acc) = R
      by_cases hc : closedB S = true
      · rw [if_pos hc, ← Nat.and_assoc, h]
        exact sub_and (h3 S (hl S (List.mem_cons_self ..)) hc)
      · rw [if_neg hc]; exact h
  have hup : ∀ (l : List Nat) (acc : Nat), (R ∈ l ∨ acc &&& R = acc) → (l.foldl (fun acc S => if closedB S then acc &&& S else acc) acc) &&& R = l.foldl (fun acc S => if closedB S then acc &&& S else acc) acc := by
    intro l
    induction l with
    | nil => intro acc h; rcases h with h | h; (cases h); exact h
    | cons S l ih =>
      intro acc h
      refine ih _ ?_
      rcases h with h | h
      · rcases List.mem_cons.1 h with rfl | h
        · right
          show (if closedB R then acc &&& R else acc) &&& R = (if closedB R then acc &&& R else acc)
          rw [if_pos h1, Nat.and_assoc, Nat.and_self]
        · exact .inl h
      · right
        show (if closedB S then acc &&& S else acc) &&& R = (if closedB S then acc &&& S else acc)
        by_cases hc : closedB S = true
        · rw [if_pos hc, Nat.and_assoc, Nat.and_comm S R, ← Nat.and_assoc, h]
        · rw [if_neg hc]; exact h
  have h1023 : ∀ m : Fin 1024, m.val &&& 1023 = m.val := by decide +kernel
  have a := hlow (List.range 1024) 1023 (fun S hS => List.mem_range.1 hS) (h1023 ⟨R, h2⟩)
  have b := hup (List.range 1024) 1023 (.inl (List.mem_range.2 h2))
  unfold leastN
  rw [← b, Nat.and_comm]; exact a
end Go.Proofs.YtngekjbdjnfhmaaDoor
namespace Go.Proofs.YtngekjbdjnfhmaaDoor
open Go.ChangeShapes Go.WideShapes Go.ChangeAt Go.RowKit
set_option maxRecDepth 100000
def leftsStep (g : Nat) (k : Nat) (r : RuleT) : Nat := if hasAllN (k ||| g) r.2.data.toList = true then k ||| setN r.1.data.toList else k
def leftsTo (rs : List RuleT) (g m k : Nat) : Nat := (rs.take k).foldl (leftsStep g) m
def leftsClosedB (rs : List RuleT) (g S : Nat) : Bool := rs.all fun r => !hasAllN (S ||| g) r.2.data.toList || (setN r.1.data.toList ||| S == S)
def leftsLeast (rs : List RuleT) (g : Nat) : Nat := leastN (leftsClosedB rs g)
theorem leftsClosed_iff (rs : List RuleT) (g S : Nat) : leftsClosedB rs g S = true ↔ ∀ r ∈ rs, hasAllN (S ||| g) r.2.data.toList = true → Sub (setN r.1.data.toList) S := by
  unfold leftsClosedB
  rw [List.all_eq_true]
  constructor
  · intro h r hr hh
    have := h r hr
    rw [hh] at this
    simpa [Sub] using this
  · intro h r hr
    cases hh : hasAllN (S ||| g) r.2.data.toList with
    | false => rfl
    | true => simpa [Sub] using h r hr hh
theorem leftsStep_lt (g k : Nat) (r : RuleT) (h : k < 1024) : leftsStep g k r < 1024 := by
  unfold leftsStep; split
  · exact or_lt h (setN_lt _)
  · exact h
theorem leftsTo_zero (rs : List RuleT) (g m : Nat) : leftsTo rs g m 0 = m := rfl
theorem leftsTo_succ (rs : List RuleT) (g m k : Nat) (h : k < rs.length) : leftsTo rs g m (k + 1) = leftsStep g (leftsTo rs g m k) rs[k] := by
  unfold leftsTo; rw [List.take_succ_eq_append_getElem h, List.foldl_append]; rfl
theorem leftsFold_lt (g : Nat) : ∀ (l : List RuleT) (m : Nat), m < 1024 → l.foldl (leftsStep g) m < 1024
  | [], _, h => h
  | r :: l, m, h => leftsFold_lt g l _ (leftsStep_lt g m r h)
theorem leftsTo_lt (rs : List RuleT) (g m k : Nat) (h : m < 1024) : leftsTo rs g m k < 1024 := leftsFold_lt g _ m h
theorem leftsStep_sub (g k : Nat) (r : RuleT) : Sub k (leftsStep g k r) := by
  unfold leftsStep; split
  · exact sub_or_left _ _
  · exact Sub.refl _
theorem leftsFold_sub (g : Nat) : ∀ (l : List RuleT) (m : Nat), Sub m (l.foldl (leftsStep g) m)
  | [], m => Sub.refl m
  | r :: l, m => (leftsStep_sub g m r).trans (leftsFold_sub g l _)
theorem leftsFold_fix (g : Nat) : ∀ (l : List RuleT) (m : Nat), l.foldl (leftsStep g) m = m → ∀ r ∈ l, leftsStep g m r = m
  | [], _, _ => fun r hr => by cases hr
  | r :: l, m, h => by
    have h1 : leftsStep g m r = m := ((leftsStep_sub g m r).antisymm (by have := leftsFold_sub g l (leftsStep g m r); rw [List.foldl_cons] at h; rwa [h] at this)).symm
    intro x hx
    rcases List.mem_cons.1 hx with rfl | hx
    · exact h1
    · exact leftsFold_fix g l m (by rw [List.foldl_cons, h1] at h; exact h) x hx
theorem leftsTo_fix {rs : List RuleT} {g m : Nat} (h : leftsTo rs g m rs.length = m) : leftsClosedB rs g m = true := by
  rw [leftsClosed_iff]
  unfold leftsTo at h
  rw [List.take_of_length_le (Nat.le_refl _)] at h
  intro r hr hh
  have := leftsFold_fix g rs m h r hr
  unfold leftsStep at this
  rw [if_pos hh] at this
  unfold Sub; rw [Nat.or_comm]; exact this
theorem leftsFold_below {g S : Nat} : ∀ (l : List RuleT) (m : Nat), (∀ r ∈ l, hasAllN (S ||| g) r.2.data.toList = true → Sub (setN r.1.data.toList) S) → Sub m S → Sub (l.foldl (leftsStep g) m) S
  | [], _, _, h => h
  | r :: l, m, hc, h => by
    refine leftsFold_below l _ (fun x hx => hc x (List.mem_cons_of_mem _ hx)) ?_
    unfold leftsStep
    split
    · rename_i hh
      exact h.or (hc r (List.mem_cons_self ..) (hasAllN_mono (h.or_mono (Sub.refl g)) hh))
    · exact h
theorem leftsTo_below {rs : List RuleT} {g m k S : Nat} (hc : leftsClosedB rs g S = true) (h : Sub m S) : Sub (leftsTo rs g m k) S :=
  leftsFold_below _ m (fun r hr => (leftsClosed_iff rs g S).1 hc r (List.mem_of_mem_take hr)) h
theorem leftsTo_sub (rs : List RuleT) (g m k : Nat) : Sub m (leftsTo rs g m k) := leftsFold_sub g _ m
theorem leftsLeast_eq {rs : List RuleT} {g R : Nat} (h1 : leftsClosedB rs g R = true) (h2 : R < 1024) (h3 : ∀ S, leftsClosedB rs g S = true → Sub R S) : leftsLeast rs g = R :=
  leastN_eq h1 h2 fun S _ hS => h3 S hS
end Go.Proofs.YtngekjbdjnfhmaaDoor
namespace Go.Proofs.YtngekjbdjnfhmaaDoor
open Go.ChangeShapes Go.WideShapes Go.ChangeAt Go.RowKit
set_option maxRecDepth 100000
theorem bits_or (a b : Nat) (ha : a < 1024) (hb : b < 1024) : bits .or .u16 (a : Int) (b : Int) = ((a ||| b : Nat) : Int) := by
  have hx : a ||| b < 1024 := or_lt ha hb
  have h1 : (BitVec.ofInt 16 (a : Int)).toNat = a := by
    rw [BitVec.ofInt_natCast, BitVec.toNat_ofNat]; exact Nat.mod_eq_of_lt (by omega)
  have h2 : (BitVec.ofInt 16 (b : Int)).toNat = b := by
    rw [BitVec.ofInt_natCast, BitVec.toNat_ofNat]; exact Nat.mod_eq_of_lt (by omega)
  have h3 : bits .or .u16 (a : Int) (b : Int) = IntKind.u16.wrap ((BitVec.ofInt 16 (a : Int) ||| BitVec.ofInt 16 (b : Int)).toNat : Int) := rfl
  rw [h3, BitVec.toNat_or, h1, h2]
  show ((a ||| b : Nat) : Int) % 65536 = _
  omega
theorem bits_and (a b : Nat) (ha : a < 1024) (hb : b < 1024) : bits .and .u16 (a : Int) (b : Int) = ((a &&& b : Nat) : Int) := by
  have hx : a &&& b < 1024 := Nat.lt_of_le_of_lt Nat.and_le_left ha
  have h1 : (BitVec.ofInt 16 (a : Int)).toNat = a := by
    rw [BitVec.ofInt_natCast, BitVec.toNat_ofNat]; exact Nat.mod_eq_of_lt (by omega)
  have h2 : (BitVec.ofInt 16 (b : Int)).toNat = b := by
    rw [BitVec.ofInt_natCast, BitVec.toNat_ofNat]; exact Nat.mod_eq_of_lt (by omega)
  have h3 : bits .and .u16 (a : Int) (b : Int) = IntKind.u16.wrap ((BitVec.ofInt 16 (a : Int) &&& BitVec.ofInt 16 (b : Int)).toNat : Int) := rfl
  rw [h3, BitVec.toNat_and, h1, h2]
  show ((a &&& b : Nat) : Int) % 65536 = _
  omega
def ordB : ByteArray := { data := #[36, 65, 66, 67, 68, 69, 97, 98, 99, 100] }
/-- the place of a byte in the order, and its bit -/
theorem place_all : ∀ n : Fin 256, (placeB ordL ((UInt8.ofNat n.val).toNat : Int) < 0 ∧ bitN (UInt8.ofNat n.val) = 0) ∨ ∃ k : Fin 10, placeB ordL ((UInt8.ofNat n.val).toNat : Int) = (k.val : Int) ∧ bitN (UInt8.ofNat n.val) = 2 ^ k.val := by decide +kernel
theorem place_cases (c : UInt8) : (placeB ordL (c.toNat : Int) < 0 ∧ bitN c = 0) ∨ ∃ k : Nat, k < 10 ∧ placeB ordL (c.toNat : Int) = (k : Int) ∧ bitN c = 2 ^ k := by
  have h := place_all ⟨c.toNat, c.toNat_lt⟩
  simp only [UInt8.ofNat_toNat] at h
  rcases h with h | ⟨k, h⟩
  · exact .inl h
  · exact .inr ⟨k.val, k.isLt, h⟩
theorem ret_u16 {a b : Int} (h : a = b) : Ending.returned (.int .u16 a) = .returned (.int .u16 b) := by rw [h]
theorem bitOf_any (c : UInt8) (w : World) :
    Calls Tryd.prog 33 #[.int .u8 (c.toNat : Int)] w fun e w' => e = .returned (.int .u16 (bitN c : Nat)) ∧ w = w' := by
  have hpl : placeB ordB.data.toList (c.toNat : Int) = placeB ordL (c.toNat : Int) := rfl
  go_enter Tryd.func33, Tryd.ntmps33
  go_wp2_with fail
  refine (placeB_any ordB (c.toNat : Int) w).mono ?_
  rintro e w2 ⟨rfl, rfl⟩
  rw [hpl]
  rcases place_cases c with ⟨h1, h2⟩ | ⟨k, hk, h1, h2⟩
  · generalize placeB ordL (c.toNat : Int) = p at *
    go_wp2
    go_ret
    exact ⟨ret_u16 (by rw [h2]; rfl), rfl⟩
  · rw [h1]
    have H2 := Lib.hid h2
    clear h1 h2 hpl
    have hk' : k = 0 ∨ k = 1 ∨ k = 2 ∨ k = 3 ∨ k = 4 ∨ k = 5 ∨ k = 6 ∨ k = 7 ∨ k = 8 ∨ k = 9 := by omega
    clear hk
    rcases hk' with rfl | rfl | rfl | rfl | rfl | rfl | rfl | rfl | rfl | rfl
    all_goals
      go_wp2
      go_ret
      exact ⟨ret_u16 (by rw [H2.out]; rfl), rfl⟩

set_option maxHeartbeats 400000 in
theorem setOf_any (s : ByteArray) (w : World) (hs : s.size ≤ maxLen) :
    Calls Tryd.prog 12 #[.string s] w fun e w' => e = .returned (.int .u16 (setN s.data.toList : Nat)) ∧ w = w' := by
  unfold maxLen at hs
  go_enter Tryd.func12, Tryd.ntmps12
  go_wp2
  go_loop [3, 7] (fun v i => ∃ k : Nat, k ≤ s.size ∧ i = .int .i64 k ∧ v = .int .u16 (setN (s.data.toList.take k) : Nat)) (fun _ i => s.size - (intOf i).toNat)
  case atStart => exact ⟨0, Nat.zero_le _, rfl, rfl⟩
  case round =>
    obtain ⟨k, hk, rfl, rfl⟩ := hrel
    by_cases hlt : k < s.size
    · have HT : Hid (setN (s.data.toList.take (k + 1)) = setN (s.data.toList.take k) ||| bitN s[k]) := by
        show _ = _; rw [take_snoc s k hlt, setN_snoc]
      have hor := bits_or (setN (s.data.toList.take k)) (bitN s[k]) (setN_lt _) (bitN_lt _)
      generalize setN (s.data.toList.take k) = m at *
      go_wp2_with (go_at_call 33; refine (bitOf_any s[k] _).mono ?_; rintro e w' ⟨rfl, rfl⟩)
      go_round
      case rel => exact ⟨k + 1, by omega, by go_num, by rw [HT.out]⟩
      case measure => simp [intOf]; omega
    · go_wp2
      go_ret
      exact ⟨ret_u16 (by rw [List.take_of_length_le (by simp; omega)]), rfl⟩
set_option maxHeartbeats 400000 in
theorem hasAll_any (m : Nat) (s : ByteArray) (w : World) (hm : m < 1024) (hs : s.size ≤ maxLen) :
    Calls Tryd.prog 13 #[.int .u16 (m : Nat), .string s] w fun e w' => e = .returned (.bool (hasAllN m s.data.toList)) ∧ w = w' := by
  unfold maxLen at hs
  go_enter Tryd.func13, Tryd.ntmps13
  go_wp2
  go_loop [8] (fun i => ∃ k : Nat, k ≤ s.size ∧ i = .int .i64 k ∧ Hid (hasAllN m (s.data.toList.take k) = true)) (fun i => s.size - (intOf i).toNat)
  case atStart => exact ⟨0, Nat.zero_le _, rfl, by simp [hasAllN, Hid]⟩
  case round =>
    obtain ⟨k, hk, rfl, H⟩ := hrel
    by_cases hlt : k < s.size
    · have HT : Hid (hasAllN m (s.data.toList.take (k + 1)) = (hasAllN m (s.data.toList.take k) && hasN m s[k])) := by
        show _ = _; rw [take_snoc s k hlt, hasAllN_snoc]
      have hand := bits_and m (bitN s[k]) hm (bitN_lt _)
      by_cases hb : m &&& bitN s[k] = 0
      · have hb' : (((m &&& bitN s[k] : Nat) : Int) == 0) = true := by rw [hb]; rfl
        have HB := Lib.hid hb
        clear hb
        go_wp2_with (go_at_call 33; refine (bitOf_any s[k] _).mono ?_; rintro e w' ⟨rfl, rfl⟩)
        go_ret
        refine ⟨ret_bool ?_, rfl⟩
        cases hh : hasAllN m s.data.toList with
        | false => rfl
        | true =>
          unfold hasAllN at hh
          rw [List.all_eq_true] at hh
          have := hh s[k] (by have : s[k] = s.data.toList[k]'(by simpa using hlt) := rfl
                              rw [this]; exact List.getElem_mem _)
          unfold hasN at this
          rw [HB.out] at this
          simp at this
      · have hb' : (((m &&& bitN s[k] : Nat) : Int) == 0) = false := by rw [beq_eq_false_iff_ne]; omega
        have HB := Lib.hid hb
        clear hb
        go_wp2_with (go_at_call 33; refine (bitOf_any s[k] _).mono ?_; rintro e w' ⟨rfl, rfl⟩)
        go_round
        case rel => exact ⟨k + 1, by omega, by go_num, by show _ = _; rw [HT.out, H.out]; simpa [hasN] using HB.out⟩
        case measure => simp [intOf]; omega
    · go_wp2
      go_ret
      exact ⟨ret_bool (by have := H.out; rw [List.take_of_length_le (by simp; omega)] at this; exact this.symm), rfl⟩
end Go.Proofs.YtngekjbdjnfhmaaDoor
namespace Go.Proofs.YtngekjbdjnfhmaaDoor
open Go.ChangeShapes Go.WideShapes Go.ChangeAt Go.RowKit
set_option maxRecDepth 100000
def textK (m k : Nat) : List UInt8 := (ordL.take k).filter (hasN m)
theorem textK_yes {m k : Nat} (hk : k < 10) (h : hasN m (ordL[k]'hk) = true) : textK m (k + 1) = textK m k ++ [ordL[k]'hk] := by
  unfold textK; rw [List.take_succ_eq_append_getElem hk, List.filter_append]; simp [h]
theorem textK_no {m k : Nat} (hk : k < 10) (h : hasN m (ordL[k]'hk) = false) : textK m (k + 1) = textK m k := by
  unfold textK; rw [List.take_succ_eq_append_getElem hk, List.filter_append]; simp [h]
theorem textK_len (m k : Nat) : (textK m k).length ≤ 10 := Nat.le_trans (List.length_filter_le _ _) (by simp [ordL]; omega)
theorem cut_ord : ∀ k : Fin 10, ordB.extract k.val (k.val + 1) = bytesOf [ordL[k.val]'k.isLt] := by decide +kernel
end Go.Proofs.YtngekjbdjnfhmaaDoor
