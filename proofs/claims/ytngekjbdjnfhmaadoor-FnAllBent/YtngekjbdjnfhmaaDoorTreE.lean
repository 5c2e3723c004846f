/- The model's l3Shape: whether a tree is one by rules, so deep at most. -/
import Derived.Test.YtngekjbdjnfhmaaDoorTreD
namespace Go.Proofs.YtngekjbdjnfhmaaDoor
open Go.ChangeShapes Go.WideShapes Go.ChangeAt Go.RowKit Go.Deep
set_option maxRecDepth 100000
def Tr.sign : Tr → ByteArray
  | .node s _ _ => s
/-- kid j has the sign that stands at place j of the right side, and is a tree -/
def kidB (f : Tr → Bool) (rt : ByteArray) (k : Tr) (j : Nat) : Bool := (k.sign.toList == (rt.extract j (j + 1)).toList) && f k
def kidsTo (f : Tr → Bool) (rt : ByteArray) (ks : List Tr) : Nat → Bool
  | 0 => true
  | i + 1 => kidsTo f rt ks i && (match ks[i]? with
    | some k => kidB f rt k i
    | none => true)
def ruleAt (rs : List RuleT) (r : Int) (s : ByteArray) (n : Nat) : Option ByteArray := if r < 0 then none else match rs[r.toNat]? with
  | some q => if (q.1.toList == s.toList) = true ∧ n = q.2.size then some q.2 else none
  | none => none
def shapeB (rs : List RuleT) : Nat → Tr → Bool
  | 0, _ => false
  | d + 1, .node s r ks => if isSmallS s = true then r == -1 && ks.length == 0 else match ruleAt rs r s ks.length with
    | some rt => kidsTo (shapeB rs d) rt ks ks.length
    | none => false
theorem kidsTo_succ {f : Tr → Bool} {rt : ByteArray} {ks : List Tr} {i : Nat} (h : i < ks.length) : kidsTo f rt ks (i + 1) = (kidsTo f rt ks i && kidB f rt ks[i] i) := by
  rw [kidsTo, List.getElem?_eq_getElem h]
theorem kidsTo_false {f : Tr → Bool} {rt : ByteArray} {ks : List Tr} {i : Nat} (h : i < ks.length) (hf : kidB f rt ks[i] i = false) : ∀ j, i < j → j ≤ ks.length → kidsTo f rt ks j = false
  | 0, h1, _ => absurd h1 (Nat.not_lt_zero _)
  | j + 1, h1, h2 => by
    rw [kidsTo_succ (by omega)]
    by_cases e : i = j
    · subst e; rw [hf]; simp
    · rw [kidsTo_false h hf j (by omega) (by omega)]; rfl
theorem TrIn.signs {w : World} {B : Nat} {s : ByteArray} {r : Int} {x : Value} {T : Tr} (h : TrIn w B (.agg #[.string s, .int .i64 r, x]) T) : T.sign = s ∧ s.size ≤ maxLen := by
  obtain ⟨s', r', ks, a, cap, e, rfl, hs, _⟩ := h.open
  simp only [Value.agg.injEq, Array.mk.injEq, List.cons.injEq, and_true, Value.string.injEq] at e
  rw [e.1]
  exact ⟨rfl, hs⟩
theorem ruleAt_at {rs : List RuleT} {n : Nat} (s : ByteArray) (k : Nat) (hrn : n < rs.length) : ruleAt rs (n : Int) s k = if (rs[n].1.toList == s.toList) = true ∧ k = rs[n].2.size then some rs[n].2 else none := by
  unfold ruleAt
  rw [if_neg (by omega), Int.toNat_natCast, List.getElem?_eq_getElem hrn]
def GB2 (w : World) (b : Nat) (v0 v1 : Value) : Prop := w.heap[b]? = some (.cells #[v0, v1] 25)
theorem GB2.lt {w : World} {b : Nat} {v0 v1 : Value} (h : GB2 w b v0 v1) : b < w.heap.size := (Array.getElem?_eq_some_iff.1 h).1
theorem GB2.cells {w : World} {b : Nat} {v0 v1 : Value} (h : GB2 w b v0 v1) : w.cell? ⟨b, 0, none⟩ = some v0 ∧ w.cell? ⟨b, 1, none⟩ = some v1 := ⟨by rw [cell_of_block h 0]; rfl, by rw [cell_of_block h 1]; rfl⟩
theorem Below.drewN' {B n : Nat} {a w : World} (h : Below B a w) : Below B a (w.drewN n) := h.trans ⟨rfl, rfl, rfl, by simp, fun _ _ => rfl⟩
end Go.Proofs.YtngekjbdjnfhmaaDoor
