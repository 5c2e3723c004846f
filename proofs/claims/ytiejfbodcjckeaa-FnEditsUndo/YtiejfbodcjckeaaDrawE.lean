/- The contract of l1Gram: rules are drawn. -/
import Derived.Test.YtiejfbodcjckeaaDrawD
namespace Go.Proofs.Ytiejfbodcjckeaa
open Go.ChangeShapes Go.WideShapes Go.ChangeAt Go.RowKit
theorem Rdk.other {w : World} {R k : Nat} (h : Rdk w R k) {p : Addr} (hR : R < p.block) (u : Value) : Rdk (w.setCell p u) R k := by
  obtain ⟨a, n, cap, q, h1, h2, h3, h4⟩ := h
  refine ⟨a, n, cap, q, (Below.heap_setCell _ _ _ _ (by omega)).trans h1, h2, h3, fun i hi => ?_⟩
  obtain ⟨b, off, x, e, hbl, hc, hx⟩ := h4 i hi
  exact ⟨b, off, x, e, hbl, by rw [World.cell?_of_block (w := w) (a := ⟨b, off + i, none⟩) (Below.heap_setCell _ _ _ _ (by show b ≠ p.block; omega))]; exact hc, hx⟩
theorem Only.store {R B : Nat} {w w' : World} (h : Only R w w') (hB : w.heap.size ≤ B) {p : Addr} (hp : B ≤ p.block) (u : Value) : Only R w (w'.setCell p u) :=
  ⟨h.os, h.tape, h.output, by have := h.size; simpa [World.setCell] using this, fun k hk hR => (Below.heap_setCell _ _ _ _ (by omega)).trans (h.block k hk hR)⟩

theorem RulesAt.other {w : World} {a : Option Addr} {rs : List RuleT} (h : RulesAt w a rs) {p : Addr} (hp : ∀ x : Addr, a = some x → x.block ≠ p.block) (u : Value) : RulesAt (w.setCell p u) a rs := by
  refine ⟨h.1, fun i hi => ?_⟩
  obtain ⟨h1, h2, b, off, rfl, hlt, c1, c2⟩ := h.2 i hi
  have hne : b ≠ p.block := hp _ rfl
  refine ⟨h1, h2, b, off, rfl, by simpa [World.setCell] using hlt, ?_, ?_⟩
  · rw [World.cell?_of_block (w := w) (a := ⟨b, _, none⟩) (Below.heap_setCell _ _ _ _ hne)]; exact c1
  · rw [World.cell?_of_block (w := w) (a := ⟨b, _, none⟩) (Below.heap_setCell _ _ _ _ hne)]; exact c2
theorem GramVal.other {w : World} {B m : Nat} {v : Value} {st : ByteArray} {rs : List RuleT} (h : GramVal w B m v st rs) {p : Addr} (hp : p.block < B) (u : Value) : GramVal (w.setCell p u) B m v st rs := by
  obtain ⟨b, off, cap, g0, g1, g2, g3, g4, g5, g6⟩ := h
  exact ⟨b, off, cap, g0, g1, g2.other (fun x hx => by cases hx; show b ≠ p.block; omega) u, g3, g4, g5, g6⟩
theorem GramVal.below {w w' : World} {B m : Nat} {v : Value} {st : ByteArray} {rs : List RuleT} (h : GramVal w B m v st rs) (hb : Below w.heap.size w w') : GramVal w' B m v st rs := by
  obtain ⟨b, off, cap, g0, g1, g2, g3, g4, g5, g6⟩ := h
  exact ⟨b, off, cap, g0, g1, g2.below hb (Nat.le_refl _), g3, g4, g5, g6⟩
theorem GramVal.mono {w : World} {B B' m : Nat} {v : Value} {st : ByteArray} {rs : List RuleT} (h : GramVal w B m v st rs) (hB : B' ≤ B) : GramVal w B' m v st rs := by
  obtain ⟨b, off, cap, g0, g1, g2, g3, g4, g5, g6⟩ := h
  exact ⟨b, off, cap, g0, g1, g2, g3, g4, g5, Nat.le_trans hB g6⟩

theorem flatR_snoc (rs : List RuleT) (l r : ByteArray) : flatR (rs ++ [(l, r)]) = flatR rs ++ [.string l, .string r] := by simp [flatR]
end Go.Proofs.Ytiejfbodcjckeaa
