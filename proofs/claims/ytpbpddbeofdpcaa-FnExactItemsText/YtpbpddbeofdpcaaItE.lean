/- An item as a number: strings.Index at one byte, packed, itemSet's add; the model's l5Less. -/
import Derived.Test.YtpbpddbeofdpcaaItD
import Derived.Shelf.Small.Strs
import Derived.Shelf.Strings.Search1
import Derived.Shelf.LaysM
namespace Go.Proofs.Ytpbpddbeofdpcaa
open Go.ChangeShapes Go.WideShapes Go.ChangeAt Go.RowKit Go.Shelf
set_option maxRecDepth 100000
def lay217_ren : Go.Shelf.Ren := ⟨fun | 217 => 63 | 266 => 67 | n => n, fun | 3 => 3 | 5 => 5 | 9 => 9 | n => n, fun | n => n⟩
theorem lay217 : Go.Proofs.Lays.n217 Try.prog lay217_ren := {
  mixed := by kernel_rfl
  f217 := Try.func63.trans (congrArg some (by kernel_rfl))
  f266 := Try.func67.trans (congrArg some (by kernel_rfl))
  t3 := Try.underlying3
  a3 := Try.isAgg3
  z3 := Try.sizeOf3
  v3 := Try.zeroValue3
  t5 := Try.underlying5
  a5 := Try.isAgg5
  z5 := Try.sizeOf5
  v5 := Try.zeroValue5
  t9 := Try.underlying9
  a9 := Try.isAgg9
  z9 := Try.sizeOf9
  v9 := Try.zeroValue9 }
theorem slIndexByte_any (s : ByteArray) (c : Int) (w : World) :
    Calls Try.prog 63 #[.string s, .int .u8 c] w fun e w' => e = .returned (.int .i64 (Lib.indexByte s.data.toList c.toNat.toUInt8)) ∧ w = w' :=
  (Any.stringslite_IndexByte lay217 s c w).mono fun _ _ ⟨h1, h2⟩ => ⟨h1, h2.symm⟩
set_option maxHeartbeats 2000000 in
/-- strings.Index at one byte, in a text that is longer -/
theorem slIndex1_any (s sp : ByteArray) (c : UInt8) (hsp : sp.data.toList = [c]) (hs : 1 < s.size) (w : World) :
    Calls Try.prog 62 #[.string s, .string sp] w fun e w' => e = .returned (.int .i64 (Lib.indexByte s.data.toList c)) ∧ w = w' := by
  have hz : sp.size = 1 := by have := congrArg List.length hsp; simpa using this
  have h0 : 0 < sp.size := by omega
  have hc : sp[0] = c := by
    have h2 : sp.data.toList[0]? = some c := by rw [hsp]; rfl
    have h3 : sp.data.toList[0]? = some sp[0] := by rw [List.getElem?_eq_getElem (by simpa using h0)]; rfl
    rw [h3] at h2; exact Option.some.inj h2
  have HC := Lib.hid hc
  have t1 : ((sp.size : Int) == 0) = false := by rw [hz]; rfl
  have t2 : ((sp.size : Int) == 1) = true := by rw [hz]; rfl
  have t3 : (0 : Int) < (sp.size : Int) := by omega
  have he : (sp.toList == s.toList) = false := by
    rw [beq_eq_false_iff_ne]
    intro h
    rw [Go.ByteArray.toList_eq, Go.ByteArray.toList_eq] at h
    have := congrArg List.length h
    rw [hsp] at this
    simp at this
    omega
  clear hc hz hsp hs
  go_enter Try.func62, Try.ntmps62
  go_wp2_with (go_at_call 63; refine (slIndexByte_any _ _ _).mono ?_; rintro e w' ⟨rfl, rfl⟩)
  go_ret
  exact ⟨ret_int (by rw [HC.out]), rfl⟩
theorem strIndex1_any (s sp : ByteArray) (c : UInt8) (hsp : sp.data.toList = [c]) (hs : 1 < s.size) (w : World) :
    Calls Try.prog 60 #[.string s, .string sp] w fun e w' => e = .returned (.int .i64 (Lib.indexByte s.data.toList c)) ∧ w = w' := by
  go_enter Try.func60, Try.ntmps60
  go_wp2_with fail
  refine (slIndex1_any _ _ c hsp hs _).mono ?_
  rintro e w' ⟨rfl, rfl⟩
  go_wp2_with fail
  go_ret
  exact ⟨rfl, rfl⟩
def aheadI (s : ByteArray) : Nat := if byteAt s 0 = 36 then 0 else (byteAt s 0).toNat - 96
theorem ahead_one {s : ByteArray} (h : aheadB s = true) : ∃ c : UInt8, s.data.toList = [c] ∧ (c = 36 ∨ c = 97 ∨ c = 98 ∨ c = 99 ∨ c = 100) := by
  unfold aheadB endS isSmallS at h
  simp only [Bool.or_eq_true, Bool.and_eq_true, decide_eq_true_eq, beq_iff_eq, Go.ByteArray.toList_eq] at h
  rcases h with h | ⟨h1, h2⟩
  · exact ⟨36, h, Or.inl rfl⟩
  · have hl : s.data.toList.length = 1 := by simpa using h1
    match hq : s.data.toList, hl with
    | [c], _ =>
      refine ⟨c, rfl, Or.inr ?_⟩
      unfold smallN byteAt at h2
      rw [hq] at h2
      simp at h2
      have h3 : c.toNat = 97 ∨ c.toNat = 98 ∨ c.toNat = 99 ∨ c.toNat = 100 := by omega
      rcases h3 with h3 | h3 | h3 | h3
      · exact Or.inl (UInt8.toNat_inj.1 h3)
      · exact Or.inr (Or.inl (UInt8.toNat_inj.1 h3))
      · exact Or.inr (Or.inr (Or.inl (UInt8.toNat_inj.1 h3)))
      · exact Or.inr (Or.inr (Or.inr (UInt8.toNat_inj.1 h3)))
theorem ahead_idx {s : ByteArray} {c : UInt8} (h : s.data.toList = [c]) (hc : c = 36 ∨ c = 97 ∨ c = 98 ∨ c = 99 ∨ c = 100) : Lib.indexByte [36, 97, 98, 99, 100] c = (aheadI s : Int) ∧ aheadI s < 5 := by
  have hb : byteAt s 0 = (c.toNat : Int) := by unfold byteAt; rw [h]; rfl
  unfold aheadI
  rw [hb]
  rcases hc with rfl | rfl | rfl | rfl | rfl <;> decide
/-- an item's number -/
def packI (x : ItemT) : Nat := (((x.1 + 1).toNat * 5 + x.2.1.toNat) * 5) + aheadI x.2.2
set_option maxHeartbeats 1000000 in
theorem packed_any (r : Int) (d : Nat) (s : ByteArray) (w : World) (h0 : -1 ≤ r) (h1 : r < 8) (h2 : d ≤ 4) (ha : aheadB s = true) :
    Calls Try.prog 50 #[.agg #[.int .i64 r, .int .i64 (d : Int), .string s]] w fun e w' => e = .returned (.int .i64 (packI (r, d, s) : Nat)) ∧ Below w.heap.size w w' := by
  obtain ⟨c, hc, hcc⟩ := ahead_one ha
  obtain ⟨hi, hi5⟩ := ahead_idx hc hcc
  obtain ⟨q, rfl⟩ : ∃ q : Nat, r = (q : Int) - 1 := ⟨(r + 1).toNat, by omega⟩
  have hp : packI ((q : Int) - 1, d, s) = (q * 5 + d) * 5 + aheadI s := by unfold packI; simp
  have HP := Lib.hid hp
  generalize aheadI s = ah at *
  go_enter Try.func50, Try.ntmps50
  go_wp2_with fail
  refine (strIndex1_any _ _ c hc (by decide) _).mono ?_
  rintro e w' ⟨rfl, rfl⟩
  rw [show Lib.indexByte ({ data := #[36, 97, 98, 99, 100] } : ByteArray).data.toList c = (ah : Int) from hi]
  go_wp2_with fail
  go_ret
  exact ⟨ret_int (by rw [HP.out]; omega), (Below.refl _ _).alloc (Nat.le_refl _) _⟩
def lessI (x y : ItemT) : Bool := if x.1 ≠ y.1 then decide (x.1 < y.1) else if x.2.1 ≠ y.2.1 then decide (x.2.1 < y.2.1) else Op.bytesLess x.2.2.toList y.2.2.toList
set_option maxHeartbeats 1000000 in
theorem l5Less_any (r d : Int) (s : ByteArray) (r' d' : Int) (s' : ByteArray) (w : World) :
    Calls Try.prog 32 #[.agg #[.int .i64 r, .int .i64 d, .string s], .agg #[.int .i64 r', .int .i64 d', .string s']] w fun e w' => e = .returned (.bool (lessI (r, d, s) (r', d', s'))) ∧ Below w.heap.size w w' := by
  go_enter Try.func32, Try.ntmps32
  go_wp2_with fail
  all_goals go_ret
  all_goals refine ⟨ret_bool ?_, ((Below.refl _ _).alloc (Nat.le_refl _) _).alloc (by simp) _⟩
  · have h : (r != r') = true := by assumption
    unfold lessI; rw [if_pos (by simpa using h)]
  · have h : (r != r') = false := by assumption
    have h' : (d != d') = true := by assumption
    unfold lessI; rw [if_neg (by simpa using h), if_pos (by simpa using h')]
  · have h : (r != r') = false := by assumption
    have h' : (d != d') = false := by assumption
    unfold lessI; rw [if_neg (by simpa using h), if_neg (by simpa using h')]
theorem less_ahead {s s' : ByteArray} (h : aheadB s = true) (h' : aheadB s' = true) : Op.bytesLess s.toList s'.toList = decide (aheadI s < aheadI s') := by
  obtain ⟨c, e, hc⟩ := ahead_one h
  obtain ⟨c', e', hc'⟩ := ahead_one h'
  have hb : byteAt s 0 = (c.toNat : Int) := by unfold byteAt; rw [e]; rfl
  have hb' : byteAt s' 0 = (c'.toNat : Int) := by unfold byteAt; rw [e']; rfl
  unfold aheadI
  rw [hb, hb', Go.ByteArray.toList_eq, Go.ByteArray.toList_eq, e, e']
  rcases hc with rfl | rfl | rfl | rfl | rfl <;> rcases hc' with rfl | rfl | rfl | rfl | rfl <;> decide
/-- the numbers have the order of the items -/
theorem less_pack {st st' : ByteArray} {rs rs' : List RuleT} {x y : ItemT} (hx : itemB st rs x.1 x.2.1 x.2.2 = true) (hy : itemB st' rs' y.1 y.2.1 y.2.2 = true) (dx : x.2.1 ≤ 4) (dy : y.2.1 ≤ 4) : lessI x y = decide (packI x < packI y) := by
  obtain ⟨r, d, s⟩ := x
  obtain ⟨r', d', s'⟩ := y
  unfold itemB at hx hy
  simp only [Bool.and_eq_true, decide_eq_true_eq] at hx hy dx dy
  obtain ⟨x1, _, x2, _, x3, _⟩ := hx
  obtain ⟨y1, _, y2, _, y3, _⟩ := hy
  have hl := less_ahead x3 y3
  obtain ⟨c, e, hc⟩ := ahead_one x3
  obtain ⟨c', e', hc'⟩ := ahead_one y3
  have b1 := (ahead_idx e hc).2
  have b2 := (ahead_idx e' hc').2
  unfold lessI packI
  dsimp only
  rw [hl]
  generalize aheadI s = i at *
  generalize aheadI s' = i' at *
  split
  · rw [Bool.eq_iff_iff, decide_eq_true_eq, decide_eq_true_eq]; omega
  · rename_i hr
    split
    · rename_i hd
      rw [Bool.eq_iff_iff, decide_eq_true_eq, decide_eq_true_eq]; omega
    · rename_i hd
      rw [Bool.eq_iff_iff, decide_eq_true_eq, decide_eq_true_eq]; omega
/-- four words of a set of items -/
def Set4 (w : World) (b : Nat) (f : Nat → Nat) : Prop := w.heap[b]? = some (.cells #[.int .u64 (f 0 : Nat), .int .u64 (f 1 : Nat), .int .u64 (f 2 : Nat), .int .u64 (f 3 : Nat)] 54)
def wordsLt (f : Nat → Nat) : Prop := ∀ i, f i < 2 ^ 64
def addF (f : Nat → Nat) (p : Nat) (i : Nat) : Nat := if i = p / 64 then f i ||| 2 ^ (p % 64) else f i
theorem bits_or64 (a b : Nat) (ha : a < 2 ^ 64) (hb : b < 2 ^ 64) : bits .or .u64 (a : Int) (b : Int) = ((a ||| b : Nat) : Int) := by
  have hx : a ||| b < 2 ^ 64 := Nat.or_lt_two_pow ha hb
  have h1 : (BitVec.ofInt 64 (a : Int)).toNat = a := by
    rw [BitVec.ofInt_natCast, BitVec.toNat_ofNat]; exact Nat.mod_eq_of_lt ha
  have h2 : (BitVec.ofInt 64 (b : Int)).toNat = b := by
    rw [BitVec.ofInt_natCast, BitVec.toNat_ofNat]; exact Nat.mod_eq_of_lt hb
  have h3 : bits .or .u64 (a : Int) (b : Int) = IntKind.u64.wrap ((BitVec.ofInt 64 (a : Int) ||| BitVec.ofInt 64 (b : Int)).toNat : Int) := rfl
  rw [h3, BitVec.toNat_or, h1, h2]
  show ((a ||| b : Nat) : Int) % 18446744073709551616 = _
  omega
/-- only block b was written -/
def Apart1 (b : Nat) (w w' : World) : Prop := w'.os = w.os ∧ w'.tape = w.tape ∧ w'.output = w.output ∧ w.heap.size ≤ w'.heap.size ∧ ∀ k, k ≠ b → k < w.heap.size → w'.heap[k]? = w.heap[k]?
theorem Set4.cell {w : World} {b : Nat} {f : Nat → Nat} (h : Set4 w b f) {i : Nat} (hi : i < 4) : w.cell? ⟨b, i, none⟩ = some (.int .u64 (f i : Nat)) ∧ w.frozen? ⟨b, i, none⟩ = false := by
  refine ⟨?_, frozen_of_block h i⟩
  rw [cell_of_block h i]
  match i, hi with
  | 0, _ => rfl
  | 1, _ => rfl
  | 2, _ => rfl
  | 3, _ => rfl
theorem Set4.lt {w : World} {b : Nat} {f : Nat → Nat} (h : Set4 w b f) : b < w.heap.size := (Array.getElem?_eq_some_iff.1 h).1
theorem Set4.set {w : World} {b : Nat} {f : Nat → Nat} (h : Set4 w b f) (p : Nat) (hp : p / 64 < 4) : Set4 (w.setCell ⟨b, p / 64, none⟩ (.int .u64 (f (p / 64) ||| 2 ^ (p % 64) : Nat))) b (addF f p) := by
  unfold Set4 at *
  simp only [World.setCell, Array.getElem?_modify, h, Option.map_some]
  generalize hq : p / 64 = q at *
  unfold addF
  rw [hq]
  match q, hp with
  | 0, _ => simp
  | 1, _ => simp
  | 2, _ => simp
  | 3, _ => simp
set_option maxHeartbeats 1000000 in
theorem setAdd_any (b p : Nat) (f : Nat → Nat) (w : World) (hf : wordsLt f) (hp : p < 225) (H : Set4 w b f) :
    Calls Try.prog 51 #[.pointer (some ⟨b, 0, none⟩), .int .i64 (p : Int)] w fun e w' => (∃ v, e = .returned v) ∧ Set4 w' b (addF f p) ∧ Apart1 b w w' := by
  have hq : p / 64 < 4 := by omega
  obtain ⟨c1, c2⟩ := H.cell hq
  have q1 : IntKind.i64.wrap ((p : Int).tdiv 64) = ((p / 64 : Nat) : Int) := by
    rw [show (p : Int).tdiv 64 = ((p / 64 : Nat) : Int) from rfl]; exact IntWalk.i64_in _ (by omega)
  have q2 : IntKind.i64.wrap ((p : Int).tmod 64) = ((p % 64 : Nat) : Int) := by
    rw [show (p : Int).tmod 64 = ((p % 64 : Nat) : Int) from rfl]; exact IntWalk.i64_in _ (by omega)
  have hval : bits .or .u64 ((f (p / 64) : Nat) : Int) (IntKind.u64.wrap (2 ^ (p % 64))) = ((f (p / 64) ||| 2 ^ (p % 64) : Nat) : Int) := by
    have h64 : 2 ^ (p % 64) < 2 ^ 64 := Nat.pow_lt_pow_right (by omega) (by omega)
    have e : IntKind.u64.wrap (2 ^ (p % 64)) = ((2 ^ (p % 64) : Nat) : Int) := by
      show (2 ^ (p % 64) : Int) % 18446744073709551616 = _
      rw [show (2 ^ (p % 64) : Int) = ((2 ^ (p % 64) : Nat) : Int) from by simp]
      generalize 2 ^ (p % 64) = m at *
      clear q1 q2
      omega
    rw [e]
    exact bits_or64 _ _ (hf _) h64
  go_enter Try.func51, Try.ntmps51
  go_wp2_with fail
  go_region
  exact bodyPost_end (v := .tuple #[]) (by simp [results, Try.results51, go_sem]) rfl ⟨⟨_, rfl⟩, H.set p hq, rfl, rfl, rfl, by simp, fun k hk _ => Below.heap_setCell w ⟨b, p / 64, none⟩ _ k hk⟩
end Go.Proofs.Ytpbpddbeofdpcaa
