/- The contracts of the program's rightOf and nodeOk. -/
import Derived.Test.YtngekjbdjnfhmaaDoorPtB
namespace Go.Proofs.YtngekjbdjnfhmaaDoor
open Go.ChangeShapes Go.WideShapes Go.ChangeAt Go.RowKit Go.Deep
set_option maxRecDepth 100000
/-- the right side of the rule at r, if it is one of s -/
def rightO (rs : List RuleT) (r : Int) (s : ByteArray) : Option ByteArray := if r < 0 then none else match rs[r.toNat]? with
  | some q => if (q.1.toList == s.toList) = true then some q.2 else none
  | none => none
def rightV : Option ByteArray → Value
  | some x => .tuple #[.string x, .bool true]
  | none => .tuple #[.string ⟨#[]⟩, .bool false]
theorem rightO_at {rs : List RuleT} {n : Nat} (s : ByteArray) (h : n < rs.length) : rightO rs (n : Int) s = if (rs[n].1.toList == s.toList) = true then some rs[n].2 else none := by
  unfold rightO
  rw [if_neg (by omega), Int.toNat_natCast, List.getElem?_eq_getElem h]
theorem ruleAt_right (rs : List RuleT) (r : Int) (s : ByteArray) (k : Nat) : ruleAt rs r s k = match rightO rs r s with
  | some x => if k = x.size then some x else none
  | none => none := by
  unfold ruleAt rightO
  by_cases h : r < 0
  · rw [if_pos h, if_pos h]
  · rw [if_neg h, if_neg h]
    cases rs[r.toNat]? with
    | none => rfl
    | some q =>
      show (if (q.1.toList == s.toList) = true ∧ k = q.2.size then some q.2 else none) = match (if (q.1.toList == s.toList) = true then some q.2 else none) with
        | some x => if k = x.size then some x else none
        | none => none
      by_cases hq : (q.1.toList == s.toList) = true
      · rw [if_pos hq]
        by_cases hk : k = q.2.size
        · rw [if_pos ⟨hq, hk⟩]
          show some q.2 = if k = q.2.size then some q.2 else none
          rw [if_pos hk]
        · rw [if_neg (fun h => hk h.2)]
          show none = if k = q.2.size then some q.2 else none
          rw [if_neg hk]
      · rw [if_neg (fun h => hq h.1), if_neg hq]
theorem len_zero (n : Nat) : ((n : Int) == 0) = (n == 0) := by rw [Bool.eq_iff_iff]; simp
theorem nodeB_small (rs : List RuleT) (t : PT) (h : isSmallS t.s = true) : nodeB rs t.tr = (t.r == -1 && t.ks.length == 0) := by
  rw [t.tr_eq, nodeB_eq, if_pos h, List.length_map]
theorem nodeB_none (rs : List RuleT) (t : PT) (h : isSmallS t.s = false) (h1 : rightO rs t.r t.s = none) : nodeB rs t.tr = false := by
  rw [t.tr_eq, nodeB_eq, if_neg (by rw [h]; simp), ruleAt_right, h1]
theorem nodeB_len (rs : List RuleT) (t : PT) (x : ByteArray) (h : isSmallS t.s = false) (h1 : rightO rs t.r t.s = some x) (h2 : t.ks.length ≠ x.size) : nodeB rs t.tr = false := by
  rw [t.tr_eq, nodeB_eq, if_neg (by rw [h]; simp), ruleAt_right, h1, List.length_map]
  show (match (if t.ks.length = x.size then some x else none) with
    | some rt => kidsTo (fun _ => true) rt (t.ks.map PT.tr) t.ks.length
    | none => false) = false
  rw [if_neg h2]
theorem nodeB_kids (rs : List RuleT) (t : PT) (x : ByteArray) (h : isSmallS t.s = false) (h1 : rightO rs t.r t.s = some x) (h2 : t.ks.length = x.size) : nodeB rs t.tr = kidsTo (fun _ => true) x (t.ks.map PT.tr) t.ks.length := by
  rw [t.tr_eq, nodeB_eq, if_neg (by rw [h]; simp), ruleAt_right, h1, List.length_map]
  show (match (if t.ks.length = x.size then some x else none) with
    | some rt => kidsTo (fun _ => true) rt (t.ks.map PT.tr) t.ks.length
    | none => false) = _
  rw [if_pos h2]
theorem kid_step (x : ByteArray) (t : PT) (i : Nat) (h : i < t.ks.length) : kidsTo (fun _ => true) x (t.ks.map PT.tr) (i + 1) = (kidsTo (fun _ => true) x (t.ks.map PT.tr) i && (t.ks[i].s.toList == (x.extract i (i + 1)).toList)) := by
  rw [kidsTo_succ (by simpa using h), List.getElem_map]
  unfold kidB
  rw [Bool.and_true, show t.ks[i].tr.sign = t.ks[i].s from by rw [PT.tr_eq]; rfl]
theorem kid_bad (x : ByteArray) (t : PT) (i : Nat) (h : i < t.ks.length) (hb : (t.ks[i].s.toList == (x.extract i (i + 1)).toList) = false) : kidsTo (fun _ => true) x (t.ks.map PT.tr) t.ks.length = false := by
  refine kidsTo_false (i := i) (by simpa using h) ?_ t.ks.length h (by simp)
  unfold kidB
  rw [Bool.and_true, List.getElem_map, show t.ks[i].tr.sign = t.ks[i].s from by rw [PT.tr_eq]; rfl, hb]
theorem rightO_size {w : World} {ag : Option Addr} {rs : List RuleT} (HR : RulesAt w ag rs) {r : Int} {s x : ByteArray} (h : rightO rs r s = some x) : x.size ≤ maxLen := by
  unfold rightO at h
  split at h
  · cases h
  · split at h
    · rename_i q hq
      split at h
      · obtain ⟨hi, rfl⟩ := List.getElem?_eq_some_iff.1 hq
        simp only [Option.some.injEq] at h
        rw [← h]
        exact (HR.2 _ hi).2.1
      · cases h
    · cases h
theorem PtIn.keep {w w' : World} {M : Nat → Prop} {t : PT} (h : PtIn w M t) (hM : ∀ k, M k → k < w.heap.size) (hb : Below w.heap.size w w') : PtIn w' M t := h.stay (fun g hg => hb.block g (hM g hg)) (fun _ h => h)
theorem ret_b {a b : Bool} (h : a = b) : Ending.returned (.bool a) = .returned (.bool b) := by rw [h]
end Go.Proofs.YtngekjbdjnfhmaaDoor
