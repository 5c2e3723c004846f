/- The contract of l1Gram: rules are drawn. -/
import Derived.Test.YtcningdeocmbgaaDrawD
namespace Go.Proofs.Ytcningdeocmbgaa
open Go.ChangeShapes Go.WideShapes Go.ChangeAt Go.RowKit
/-- block b is a box of these two values -/
def BoxG (w : World) (b : Nat) (v0 v1 : Value) : Prop := w.heap[b]? = some (.cells #[v0, v1] 35)
theorem BoxG.lt {w : World} {b : Nat} {v0 v1 : Value} (h : BoxG w b v0 v1) : b < w.heap.size := (Array.getElem?_eq_some_iff.1 h).1
theorem BoxG.below {w w' : World} {b : Nat} {v0 v1 : Value} (h : BoxG w b v0 v1) (hb : Below w.heap.size w w') : BoxG w' b v0 v1 := (hb.block b h.lt).trans h
theorem BoxG.only {R : Nat} {w w' : World} {b : Nat} {v0 v1 : Value} (h : BoxG w b v0 v1) (hb : Only R w w') (hR : b ≠ R) : BoxG w' b v0 v1 := (hb.block b h.lt hR).trans h
theorem BoxG.cells {w : World} {b : Nat} {v0 v1 : Value} (h : BoxG w b v0 v1) : w.cell? ⟨b, 0, none⟩ = some v0 ∧ w.cell? ⟨b, 1, none⟩ = some v1 ∧ w.frozen? ⟨b, 0, none⟩ = false ∧ w.frozen? ⟨b, 1, none⟩ = false :=
  ⟨cell_of_block h 0, cell_of_block h 1, frozen_of_block h 0, frozen_of_block h 1⟩
theorem BoxG.set0 {w : World} {b : Nat} {v0 v1 : Value} (h : BoxG w b v0 v1) (u : Value) : BoxG (w.setCell ⟨b, 0, none⟩ u) b u v1 := by
  have h' : w.heap[b]? = some (.cells #[v0, v1] 35) := h
  simp [BoxG, World.setCell, Array.getElem?_modify, h']
theorem BoxG.set1 {w : World} {b : Nat} {v0 v1 : Value} (h : BoxG w b v0 v1) (u : Value) : BoxG (w.setCell ⟨b, 1, none⟩ u) b v0 u := by
  have h' : w.heap[b]? = some (.cells #[v0, v1] 35) := h
  simp [BoxG, World.setCell, Array.getElem?_modify, h']
theorem BoxG.other {w : World} {b : Nat} {v0 v1 : Value} (h : BoxG w b v0 v1) {p : Addr} (hp : b ≠ p.block) (u : Value) : BoxG (w.setCell p u) b v0 v1 := (Below.heap_setCell _ _ _ _ hp).trans h
theorem Rdk.other {w : World} {R k : Nat} (h : Rdk w R k) {p : Addr} (hR : R < p.block) (u : Value) : Rdk (w.setCell p u) R k := by
  obtain ⟨a, n, cap, q, h1, h2, h3, h4⟩ := h
  refine ⟨a, n, cap, q, (Below.heap_setCell _ _ _ _ (by omega)).trans h1, h2, h3, fun i hi => ?_⟩
  obtain ⟨b, off, x, e, hbl, hc, hx⟩ := h4 i hi
  exact ⟨b, off, x, e, hbl, by rw [World.cell?_of_block (w := w) (a := ⟨b, off + i, none⟩) (Below.heap_setCell _ _ _ _ (by show b ≠ p.block; omega))]; exact hc, hx⟩
theorem Only.store {R B : Nat} {w w' : World} (h : Only R w w') (hB : w.heap.size ≤ B) {p : Addr} (hp : B ≤ p.block) (u : Value) : Only R w (w'.setCell p u) :=
  ⟨h.os, h.tape, h.output, by have := h.size; simpa [World.setCell] using this, fun k hk hR => (Below.heap_setCell _ _ _ _ (by omega)).trans (h.block k hk hR)⟩

theorem RulesAt.other {w : World} {a : Option Addr} {rs : List RuleT} (h : RulesAt w a rs) {p : Addr} (hp : ∀ x : Addr, a = some x → x.block ≠ p.block) (u : Value) : RulesAt (w.setCell p u) a rs := by
  refine ⟨h.1, fun i hi => ?_⟩
  obtain ⟨h1, h2, b, off, rfl, hlt, c1, c2⟩ := h.2 i hi
  have hne : b ≠ p.block := hp _ rfl
  refine ⟨h1, h2, b, off, rfl, by simpa [World.setCell] using hlt, ?_, ?_⟩
  · rw [World.cell?_of_block (w := w) (a := ⟨b, _, none⟩) (Below.heap_setCell _ _ _ _ hne)]; exact c1
  · rw [World.cell?_of_block (w := w) (a := ⟨b, _, none⟩) (Below.heap_setCell _ _ _ _ hne)]; exact c2
theorem GramVal.other {w : World} {B m : Nat} {v : Value} {st : ByteArray} {rs : List RuleT} (h : GramVal w B m v st rs) {p : Addr} (hp : p.block < B) (u : Value) : GramVal (w.setCell p u) B m v st rs := by
  obtain ⟨b, off, cap, g0, g1, g2, g3, g4, g5, g6⟩ := h
  exact ⟨b, off, cap, g0, g1, g2.other (fun x hx => by cases hx; show b ≠ p.block; omega) u, g3, g4, g5, g6⟩
theorem GramVal.below {w w' : World} {B m : Nat} {v : Value} {st : ByteArray} {rs : List RuleT} (h : GramVal w B m v st rs) (hb : Below w.heap.size w w') : GramVal w' B m v st rs := by
  obtain ⟨b, off, cap, g0, g1, g2, g3, g4, g5, g6⟩ := h
  exact ⟨b, off, cap, g0, g1, g2.below hb (Nat.le_refl _), g3, g4, g5, g6⟩
theorem GramVal.mono {w : World} {B B' m : Nat} {v : Value} {st : ByteArray} {rs : List RuleT} (h : GramVal w B m v st rs) (hB : B' ≤ B) : GramVal w B' m v st rs := by
  obtain ⟨b, off, cap, g0, g1, g2, g3, g4, g5, g6⟩ := h
  exact ⟨b, off, cap, g0, g1, g2, g3, g4, g5, Nat.le_trans hB g6⟩

theorem flatR_snoc (rs : List RuleT) (l r : ByteArray) : flatR (rs ++ [(l, r)]) = flatR rs ++ [.string l, .string r] := by simp [flatR]
/-- a block that an append to a slice of rules leaves alone -/
theorem grown_keep {w w' : World} {B : Nat} {v : Value} {rs : List RuleT} (h : OwnR w B v rs) (hg : w.grownBy w' v.ownBlock) {b : Nat} {o : Obj} (hb : w.heap[b]? = some o) (ho : ∀ cur, o ≠ .cells cur 84 (0, 0)) : w'.heap[b]? = some o := by
  obtain ⟨g, cap, cur, rfl, _, _, hh, _, _⟩ := h.block
  have hlt : b < w.heap.size := (Array.getElem?_eq_some_iff.1 hb).1
  rw [hg.block b hlt (fun e => by
    simp only [Value.ownBlock, Option.some.injEq] at e
    subst e
    rw [hh] at hb
    simp only [Option.some.injEq] at hb
    exact ho _ hb.symm)]
  exact hb
theorem own_grown {w' : World} {B : Nat} {v' : Value} {rs : List RuleT} {l r : ByteArray} (ho : w'.ownsRow B 84 2 v' (rs.length + 1) (flatR rs ++ [.string l, .string r])) (hn : ¬ v' = .slice none 0 0) : OwnR w' B v' (rs ++ [(l, r)]) := by
  have hlen : (rs ++ [(l, r)]).length = rs.length + 1 := by simp
  refine ⟨?_, by rw [flatR_snoc, hlen]; exact ho⟩
  rcases ho.2 with ⟨h0, _⟩ | ⟨g, cap, cur, hv, hB, _, hl, _⟩
  · exact absurd h0 hn
  · exact ⟨g, cap, by rw [hlen]; exact hv, hB, by rw [hlen]; exact hl⟩
theorem only_grown {R : Nat} {w w1 w' : World} {B : Nat} {v : Value} {rs : List RuleT} (h : Only R w w1) (hB : w.heap.size ≤ B) (ho : OwnR w1 B v rs) (hg : w1.grownBy w' v.ownBlock) : Only R w w' := by
  obtain ⟨g, cap, cur, rfl, hgB, _, _, _, _⟩ := ho.block
  exact ⟨hg.os.trans h.os, hg.tape.trans h.tape, hg.output.trans h.output, Nat.le_trans h.size hg.size, fun j hj hR => (hg.block j (Nat.lt_of_lt_of_le hj h.size) (fun e => by simp only [Value.ownBlock, Option.some.injEq] at e; omega)).trans (h.block j hj hR)⟩
theorem rdk_grown {R k : Nat} {w1 w' : World} {B : Nat} {v : Value} {rs : List RuleT} (h : Rdk w1 R k) (hB : R < B) (ho : OwnR w1 B v rs) (hg : w1.grownBy w' v.ownBlock) : Rdk w' R k := by
  have hlt := h.lt
  obtain ⟨g, cap, cur, rfl, hgB, _, _, _, _⟩ := ho.block
  have hk : ∀ j, j ≤ R → w'.heap[j]? = w1.heap[j]? := fun j hj => hg.block j (by omega) (fun e => by simp only [Value.ownBlock, Option.some.injEq] at e; omega)
  obtain ⟨a, n, cap', q, h1, h2, h3, h4⟩ := h
  refine ⟨a, n, cap', q, (hk R (Nat.le_refl _)).trans h1, h2, h3, fun i hi => ?_⟩
  obtain ⟨b, off, x, e, hbl, hc, hx⟩ := h4 i hi
  exact ⟨b, off, x, e, hbl, by rw [World.cell?_of_block (w := w1) (a := ⟨b, off + i, none⟩) (hk b (Nat.le_of_lt hbl))]; exact hc, hx⟩
/-- what holds at the head of each round -/
def GramRel (R k j A G : Nat) (w wr : World) : Prop := ∃ vr rs, BoxG wr G (.string ⟨#[65]⟩) vr ∧ OwnR wr (A + 1) vr rs ∧ SmallR rs ∧ rs.length + j ≤ 5 ∧ Rdk wr R (k + 2 + (5 - j) * 8) ∧ BoxG wr A (.string ⟨#[]⟩) (.slice none 0 0) ∧ Only R w wr

end Go.Proofs.Ytcningdeocmbgaa
