/- Rules in memory; contracts of slices.Index and slices.Contains over rules, and of the model's l1Place. -/
import Derived.Test.YtiejfbodcjckeaaOkA
import Derived.Laws.StructEq
namespace Go.Proofs.Ytiejfbodcjckeaa
open Go.ChangeShapes Go.WideShapes Go.ChangeAt Go.RowKit
abbrev RuleT := ByteArray × ByteArray
/-- the slice at a holds the rules rs -/
def RulesAt (w : World) (a : Option Addr) (rs : List RuleT) : Prop :=
  rs.length ≤ maxLen ∧ ∀ i (h : i < rs.length), rs[i].1.size ≤ maxLen ∧ rs[i].2.size ≤ maxLen ∧ ∃ b off, a = some ⟨b, off, none⟩ ∧ b < w.heap.size ∧ w.cell? ⟨b, off + i * 2, none⟩ = some (.string rs[i].1) ∧ w.cell? ⟨b, off + i * 2 + 1, none⟩ = some (.string rs[i].2)
theorem RulesAt.below {w w' : World} {B : Nat} {a : Option Addr} {rs : List RuleT} (h : RulesAt w a rs) (hb : Below B w w') (hB : w.heap.size ≤ B) : RulesAt w' a rs := by
  refine ⟨h.1, fun i hi => ?_⟩
  obtain ⟨h1, h2, b, off, e, hlt, c1, c2⟩ := h.2 i hi
  refine ⟨h1, h2, b, off, e, Nat.lt_of_lt_of_le hlt hb.size, ?_, ?_⟩
  · rw [hb.cell (p := ⟨b, _, none⟩) (Nat.lt_of_lt_of_le hlt hB), c1]
  · rw [hb.cell (p := ⟨b, _, none⟩) (Nat.lt_of_lt_of_le hlt hB), c2]
theorem RulesAt.take {w : World} {a : Option Addr} {rs : List RuleT} (h : RulesAt w a rs) (k : Nat) : RulesAt w a (rs.take k) := by
  refine ⟨by have := h.1; simp; omega, fun i hi => ?_⟩
  have hi' : i < rs.length := by simp at hi; omega
  have := h.2 i hi'
  simpa using this
def eqR (x y : RuleT) : Bool := x.1.toList == y.1.toList && x.2.toList == y.2.toList
theorem eqR_comm (x y : RuleT) : eqR x y = eqR y x := by
  unfold eqR
  rw [Bool.eq_iff_iff]
  simp only [Bool.and_eq_true, beq_iff_eq]
  exact ⟨fun h => ⟨h.1.symm, h.2.symm⟩, fun h => ⟨h.1.symm, h.2.symm⟩⟩
def idxR (rs : List RuleT) (x : RuleT) : Int := match rs.findIdx? (fun y => eqR y x) with
  | some i => (i : Int)
  | none => -1
theorem idxR_some (rs : List RuleT) (x : RuleT) (k : Nat) (hk : k < rs.length) (hn : ∀ j (h : j < rs.length), j < k → eqR rs[j] x = false) (h : eqR rs[k] x = true) : idxR rs x = k := by
  unfold idxR
  rw [(List.findIdx?_eq_some_iff_getElem (p := fun y => eqR y x) (i := k)).2 ⟨hk, h, fun j hj => by simpa using hn j (by omega) hj⟩]
theorem idxR_none (rs : List RuleT) (x : RuleT) (hn : ∀ j (h : j < rs.length), eqR rs[j] x = false) : idxR rs x = -1 := by
  unfold idxR
  rw [List.findIdx?_eq_none_iff.2]
  intro y hy
  obtain ⟨j, hj, rfl⟩ := List.getElem_of_mem hy
  simpa using hn j hj
theorem below_box (w : World) (o : Obj) (n : Nat) : Below w.heap.size w ((w.alloc o).drewN n) :=
  ((Below.refl _ _).alloc (Nat.le_refl _) _).trans ⟨rfl, rfl, rfl, by simp, fun _ _ => rfl⟩
theorem idx_step {rs : List RuleT} {x : RuleT} {k : Nat} (hn : ∀ j (h : j < rs.length), j < k → eqR rs[j] x = false) (hlt : k < rs.length) (he : eqR rs[k] x = false) : ∀ j (h : j < rs.length), j < k + 1 → eqR rs[j] x = false := by
  intro j h hj
  by_cases e : j = k
  · subst e; exact he
  · exact hn j h (by omega)

end Go.Proofs.Ytiejfbodcjckeaa
