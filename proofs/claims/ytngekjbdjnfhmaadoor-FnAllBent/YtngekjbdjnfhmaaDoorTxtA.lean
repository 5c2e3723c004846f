/- The least fixed point of a growing number: contracts of growing and of leastFixedPoint at sets of symbols. -/
import Derived.Test.YtngekjbdjnfhmaaDoorSetD
import Derived.Test.YtngekjbdjnfhmaaDoorSeq
import Derived.Test.YtngekjbdjnfhmaaDoorOne
namespace Go.Proofs.YtngekjbdjnfhmaaDoor
open Go.ChangeShapes Go.WideShapes Go.ChangeAt Go.RowKit
attribute [local go_sem] Oper.semAt_some
set_option maxRecDepth 100000
def cellN (w : World) (b : Nat) : Nat := match w.cell? ⟨b, 0, none⟩ with
  | some (.int _ v) => v.toNat
  | _ => 0
theorem one1.cellN {w : World} {b : Nat} {x : Nat} {k : IntKind} {T : TypeId} (h : one1 w b (.int k (x : Int)) T) : cellN w b = x := by
  unfold Go.Proofs.YtngekjbdjnfhmaaDoor.cellN; rw [h.cell.1]; simp
end Go.Proofs.YtngekjbdjnfhmaaDoor
namespace Go.Proofs.YtngekjbdjnfhmaaDoor
open Go.ChangeShapes Go.WideShapes Go.ChangeAt Go.RowKit
set_option maxRecDepth 100000
/-- a grammar's box -/
def GBox (w : World) (b : Nat) (st : ByteArray) (a : Option Addr) (n cap : Nat) : Prop := w.heap[b]? = some (.cells #[.string st, .slice a n cap] 25)
theorem GBox.lt {w : World} {b : Nat} {st : ByteArray} {a : Option Addr} {n cap : Nat} (h : GBox w b st a n cap) : b < w.heap.size := (Array.getElem?_eq_some_iff.1 h).1
theorem GBox.below {w w' : World} {b : Nat} {st : ByteArray} {a : Option Addr} {n cap : Nat} (h : GBox w b st a n cap) (hb : Below w.heap.size w w') : GBox w' b st a n cap := (hb.block b h.lt).trans h
theorem GBox.cells {w : World} {b : Nat} {st : ByteArray} {a : Option Addr} {n cap : Nat} (h : GBox w b st a n cap) : w.cell? ⟨b, 0, none⟩ = some (.string st) ∧ w.cell? ⟨b, 1, none⟩ = some (.slice a n cap) := ⟨by rw [cell_of_block h 0]; rfl, by rw [cell_of_block h 1]; rfl⟩
end Go.Proofs.YtngekjbdjnfhmaaDoor
namespace Go.Proofs.YtngekjbdjnfhmaaDoor
open Go.ChangeShapes Go.WideShapes Go.ChangeAt Go.RowKit
set_option maxRecDepth 100000
theorem leftsLeast_lt (rs : List RuleT) (g : Nat) : leftsLeast rs g < 1024 := by
  unfold leftsLeast leastN
  have : ∀ (l : List Nat) (acc : Nat), acc < 1024 → l.foldl (fun acc S => if leftsClosedB rs g S then acc &&& S else acc) acc < 1024 := by
    intro l
    induction l with
    | nil => intro acc h; exact h
    | cons S l ih =>
      intro acc h
      refine ih _ ?_
      show (if leftsClosedB rs g S = true then acc &&& S else acc) < 1024
      split
      · exact Nat.lt_of_le_of_lt Nat.and_le_left h
      · exact h
  exact this _ _ (by omega)
def noneL (st : ByteArray) (rs : List RuleT) : List UInt8 := if gramOkB st rs = true then textN (leftsLeast rs 0) else []
def madeL (st : ByteArray) (rs : List RuleT) : List UInt8 := if gramOkB st rs = true then textN (leftsLeast rs 960) else []
end Go.Proofs.YtngekjbdjnfhmaaDoor
namespace Go.Proofs.YtngekjbdjnfhmaaDoor
open Go.ChangeShapes Go.WideShapes Go.ChangeAt Go.RowKit
set_option maxRecDepth 100000
def inL (l : List UInt8) (c : UInt8) : Bool := l.contains c
theorem contains_at {s : ByteArray} {c : UInt8} {k : Nat} (h : k < s.size) (e : s[k] = c) : inL s.data.toList c = true := by
  rw [inL, List.contains_iff_mem, ← e]; show s.data[k] ∈ _; simp
theorem contains_not {s : ByteArray} {c : UInt8} (h : ∀ k (hk : k < s.size), ¬ s[k] = c) : inL s.data.toList c = false := by
  cases hh : inL s.data.toList c with
  | false => rfl
  | true =>
    rw [inL, List.contains_iff_mem] at hh
    obtain ⟨k, hk, e⟩ := List.getElem_of_mem hh
    exact absurd e (h k (by simpa using hk))
theorem u8_eq (a b : UInt8) : (((a.toNat : Nat) : Int) == ((b.toNat : Nat) : Int)) = decide (a = b) := by
  by_cases h : a = b
  · subst h; simp
  · have : ¬ a.toNat = b.toNat := fun e => h (UInt8.toNat_inj.1 e)
    rw [decide_eq_false h, beq_eq_false_iff_ne]; omega
theorem small_all : ∀ n : Fin 256, hasN 960 (UInt8.ofNat n.val) = smallN ((UInt8.ofNat n.val).toNat : Int) := by decide +kernel
theorem has_small (c : UInt8) : hasN 960 c = smallN (c.toNat : Int) := by
  have h := small_all ⟨c.toNat, c.toNat_lt⟩
  simpa only [UInt8.ofNat_toNat] using h
theorem hasN_zero (c : UInt8) : hasN 0 c = false := by simp [hasN]
def smallSet (b : Bool) : Nat := if b then 960 else 0
theorem smallSet_lt (b : Bool) : smallSet b < 1024 := by cases b <;> simp [smallSet]
theorem has_smallSet (m : Nat) (b : Bool) (c : UInt8) : hasN (m ||| smallSet b) c = (hasN m c || (b && smallN (c.toNat : Int))) := by
  rw [hasN_or]
  cases b
  · simp [smallSet, hasN_zero]
  · simp [smallSet, has_small]
theorem hasAll_bad {m : Nat} {s : ByteArray} {k : Nat} (h : k < s.size) (hb : hasN m s[k] = false) : hasAllN m s.data.toList = false := by
  cases hh : hasAllN m s.data.toList with
  | false => rfl
  | true =>
    unfold hasAllN at hh
    rw [List.all_eq_true] at hh
    have := hh s[k] (by show s.data[k] ∈ _; simp)
    rw [hb] at this; cases this
theorem ok_left {st : ByteArray} {rs : List RuleT} (h : gramOkB st rs = true) {k : Nat} (hk : k < rs.length) : ∃ c : UInt8, rs[k].1 = ⟨#[c]⟩ ∧ bigN (c.toNat : Int) = true := by
  unfold gramOkB at h
  simp only [Bool.and_eq_true, decide_eq_true_eq, List.all_eq_true, List.mem_range] at h
  have h4 := h.2.2 k hk
  rw [goodB_at hk] at h4
  simp only [ruleOkB, Bool.and_eq_true] at h4
  have h5 := h4.1.1
  simp only [isBigS, Bool.and_eq_true, decide_eq_true_eq, byteAt] at h5
  obtain ⟨h6, h7⟩ := h5
  have hl : rs[k].1.data.toList.length = 1 := by simpa using h6
  match hs : rs[k].1.data.toList, hl with
  | [x], _ =>
    rw [hs] at h7
    exact ⟨x, bytesOf_ext (by rw [hs]), by simpa using h7⟩
theorem big_ord {c : UInt8} (h : bigN (c.toNat : Int) = true) : c ∈ ordL := by
  rcases bigN_cases h with rfl | rfl | rfl | rfl | rfl <;> decide
end Go.Proofs.YtngekjbdjnfhmaaDoor
namespace Go.Proofs.YtngekjbdjnfhmaaDoor
open Go.ChangeShapes Go.WideShapes Go.ChangeAt Go.RowKit
set_option maxRecDepth 100000
/-- a text of small signs, eight at most -/
def textB (s : ByteArray) : Bool := hasAllN 960 s.data.toList && decide ((s.size : Int) ≤ 8)
theorem smalls_set (w : World) : Calls Tryd.prog 12 #[.string ({ data := #[97, 98, 99, 100] } : ByteArray)] w fun e w' => e = .returned (.int .u16 ((960 : Nat) : Int)) ∧ w = w' := by
  have hset : setN (({ data := #[97, 98, 99, 100] } : ByteArray)).data.toList = 960 := by decide
  refine (setOf_any ({ data := #[97, 98, 99, 100] } : ByteArray) w (by simp [maxLen, ByteArray.size])).mono ?_
  rintro e w1 ⟨rfl, rfl⟩
  rw [hset]
  exact ⟨rfl, rfl⟩
set_option maxHeartbeats 1000000 in
theorem textOk_any (s : ByteArray) (w : World) (hs : s.size ≤ maxLen) :
    Calls Tryd.prog 5 #[.string s] w fun e w' => e = .returned (.bool (textB s)) ∧ w = w' := by
  by_cases h8 : (s.size : Int) ≤ 8
  · have hd : textB s = hasAllN 960 s.data.toList := by unfold textB; simp [h8]
    have HD := Lib.hid hd
    clear hd
    go_enter Tryd.func5, Tryd.ntmps5
    go_wp2_with fail
    refine (smalls_set _).mono ?_
    rintro e w' ⟨rfl, rfl⟩
    go_wp2_with fail
    refine (hasAll_any 960 s _ (by omega) hs).mono ?_
    rintro e w' ⟨rfl, rfl⟩
    generalize hasAllN 960 s.data.toList = b at *
    go_wp2_with fail
    go_ret
    exact ⟨ret_bool (by rw [HD.out]), rfl⟩
  · have hd : textB s = false := by unfold textB; simp [h8]
    go_enter Tryd.func5, Tryd.ntmps5
    go_wp2_with fail
    go_ret
    exact ⟨rfl, rfl⟩
set_option maxHeartbeats 1000000 in
theorem sTextOk_any (s : ByteArray) (w : World) (hs : s.size ≤ maxLen) :
    Calls Tryd.prog 6 #[.string s] w fun e w' => e = .returned (.bool (textB s)) ∧ w = w' := by
  unfold maxLen at hs
  go_enter Tryd.func6, Tryd.ntmps6
  go_wp2_with fail
  go_loop [3] (fun i => ∃ k : Nat, k ≤ s.size ∧ i = .int .i64 k ∧ Hid (hasAllN 960 (s.data.toList.take k) = true)) (fun i => s.size - (intOf i).toNat)
  case atStart => exact ⟨0, Nat.zero_le _, rfl, by simp [hasAllN, Hid]⟩
  case round =>
    obtain ⟨k, hk, rfl, H⟩ := hrel
    by_cases hlt : k < s.size
    · have HT : Hid (hasAllN 960 (s.data.toList.take (k + 1)) = (hasAllN 960 (s.data.toList.take k) && hasN 960 s[k])) := by
        show _ = _; rw [take_snoc s k hlt, hasAllN_snoc]
      have hsm := has_small s[k]
      cases hb : smallN (s[k].toNat : Int) with
      | false =>
        have HN : Hid (hasAllN 960 s.data.toList = false) := hasAll_bad hlt (by rw [hsm, hb])
        clear hsm
        go_wp2_with (go_at_call 14; refine (l1Small_any _ _).mono ?_; rintro e w' ⟨rfl, rfl⟩; rw [hb])
        go_ret
        exact ⟨ret_bool (by unfold textB; rw [HN.out]; rfl), rfl⟩
      | true =>
        rw [hb] at hsm
        have HS := Lib.hid hsm
        clear hsm
        go_wp2_with (go_at_call 14; refine (l1Small_any _ _).mono ?_; rintro e w' ⟨rfl, rfl⟩; rw [hb])
        go_round
        case rel => exact ⟨k + 1, by omega, by go_num, by show _ = _; rw [HT.out, H.out, HS.out]; rfl⟩
        case measure => simp [intOf]; omega
    · have HA : Hid (hasAllN 960 s.data.toList = true) := by
        have := H.out
        rw [List.take_of_length_le (by simp; omega)] at this
        exact this
      go_wp2_with fail
      go_ret
      exact ⟨ret_bool (by unfold textB; rw [HA.out]; simp), rfl⟩
end Go.Proofs.YtngekjbdjnfhmaaDoor
