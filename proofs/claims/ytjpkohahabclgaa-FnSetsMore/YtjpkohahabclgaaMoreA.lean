/- Rules with a rule more: what stands behind the statement that makes them, whatever order was drawn. -/
import Derived.Test.YtjpkohahabclgaaDrawG
namespace Go.Proofs.Ytjpkohahabclgaa
open Go.ChangeShapes Go.WideShapes Go.ChangeAt Go.RowKit
set_option maxRecDepth 100000
/-- block k is this -/
def Blk (w : World) (k : Nat) (o : Obj) : Prop := w.heap[k]? = some o
theorem Blk.old {w : World} {k : Nat} {o : Obj} (h : Blk w k o) (o' : Obj) : Blk (w.alloc o') k o := (blk_old _ _ (Array.getElem?_eq_some_iff.1 h).1).trans h
theorem Blk.new (w : World) (o : Obj) {k : Nat} (h : k = w.heap.size) : Blk (w.alloc o) k o := blk_new _ _ h
theorem Blk.drew {w : World} {k : Nat} {o : Obj} (h : Blk w k o) : Blk w.drew k o := h
theorem Blk.grown {w w' : World} {k n l c : Nat} {o : Obj} (h : Blk w k o) (hg : w.grownBy w' (Value.slice (some ⟨n, 0, none⟩) l c).ownBlock) (hk : k ≠ n) : Blk w' k o := by
  obtain ⟨_, _, _, _, hblk⟩ := hg
  exact (hblk k (Array.getElem?_eq_some_iff.1 h).1 (by simp [Value.ownBlock]; exact hk)).trans h
theorem own_blk {w : World} {n B : Nat} (h : Blk w n (.cells #[] 55)) (hB : B ≤ n) : OwnR w B (.slice (some ⟨n, 0, none⟩) 0 0) [] :=
  ⟨⟨n, 0, rfl, hB, Nat.le_refl _⟩, rfl, .inr ⟨n, 0, #[], rfl, hB, h, Nat.le_refl _, Nat.zero_le _, rfl, rfl⟩⟩
theorem own_ge {w : World} {B g n cap : Nat} {rs : List RuleT} (h : OwnR w B (.slice (some ⟨g, 0, none⟩) n cap) rs) : B ≤ g := by
  obtain ⟨⟨g', cap', e, hB, _⟩, _⟩ := h
  simp only [Value.slice.injEq, Option.some.injEq, Addr.mk.injEq] at e
  rw [e.1.1]; exact hB
theorem rules_blk {w : World} {n : Nat} {l r : ByteArray} (h : Blk w n (.cells #[.string l, .string r] 55)) (h1 : l.size ≤ 100) (h2 : r.size ≤ 100) : RulesAt w (some ⟨n, 0, none⟩) [(l, r)] := by
  refine ⟨by unfold maxLen; simp, fun i hi => ?_⟩
  match i, hi with
  | 0, _ =>
    refine ⟨by unfold maxLen; show l.size ≤ _; omega, by unfold maxLen; show r.size ≤ _; omega, n, 0, rfl, (Array.getElem?_eq_some_iff.1 h).1, ?_, ?_⟩
    · rw [cell_of_block h]; rfl
    · rw [cell_of_block h]; rfl
theorem grow_below {w1 w w' : World} {n l c B : Nat} (h : Below B w1 w) (hg : w.grownBy w' (Value.slice (some ⟨n, 0, none⟩) l c).ownBlock) (hs : B ≤ w.heap.size) (hn : B ≤ n) : Below B w1 w' :=
  h.grown hg hs (by intro k hk; simp [Value.ownBlock] at hk; omega)
/-- the slot points to the rules us with the start st, and what lay before is as it was -/
def MoreTo (w1 : World) (st : ByteArray) (us : List RuleT) (s : Value) (wx : World) : Prop := ∃ X g cap, s = .pointer (some ⟨X, 0, none⟩) ∧ w1.heap.size ≤ X ∧ BoxG wx X (.string st) (.slice (some ⟨g, 0, none⟩) us.length cap) ∧ us.length ≤ cap ∧ RulesAt wx (some ⟨g, 0, none⟩) us ∧ Below w1.heap.size w1 wx
theorem OwnR.rules {w : World} {B g n cap : Nat} {rs : List RuleT} (h : OwnR w B (.slice (some ⟨g, 0, none⟩) n cap) rs) (hs : SmallR rs) (hl : rs.length ≤ 1000) : rs.length ≤ cap ∧ RulesAt w (some ⟨g, 0, none⟩) rs := by
  obtain ⟨g', cap', e, _, hc, _, hR⟩ := h.at hs hl
  simp only [Value.slice.injEq, Option.some.injEq, Addr.mk.injEq] at e
  obtain ⟨⟨rfl, _⟩, _, rfl⟩ := e
  exact ⟨hc, hR⟩
theorem more_end1 {w1 w9 : World} {st : ByteArray} {us : List RuleT} {g n cap : Nat} (hV : Below w1.heap.size w1 w9) (hO : OwnR w9 w1.heap.size (.slice (some ⟨g, 0, none⟩) n cap) us) (hn : n = us.length) (hs : SmallR us) (hl : us.length ≤ 1000) :
    MoreTo w1 st us (.pointer (some ⟨w9.heap.size, 0, none⟩)) (w9.alloc (.cells #[.string st, .slice (some ⟨g, 0, none⟩) n cap] 24)) := by
  subst hn
  obtain ⟨h1, h2⟩ := (hO.alloc (.cells #[.string st, .slice (some ⟨g, 0, none⟩) us.length cap] 24)).rules hs hl
  exact ⟨_, g, cap, rfl, hV.size, blk_new _ _ rfl, h1, h2, hV.alloc hV.size _⟩
theorem more_end2 {w1 w9 : World} {st : ByteArray} {us : List RuleT} {g n cap C : Nat} {v0 v1 : Value} (hV : Below w1.heap.size w1 w9) (hO : OwnR w9 w1.heap.size (.slice (some ⟨g, 0, none⟩) n cap) us) (hn : n = us.length) (hs : SmallR us) (hl : us.length ≤ 1000) (hC : BoxG w9 C v0 v1) (hS : w1.heap.size ≤ C) :
    MoreTo w1 st us (.pointer (some ⟨C, 0, none⟩)) ((w9.setCell ⟨C, 0, none⟩ (.string st)).setCell ⟨C, 1, none⟩ (.slice (some ⟨g, 0, none⟩) n cap)) := by
  subst hn
  obtain ⟨h1, h2⟩ := ((hO.store (p := ⟨C, 0, none⟩) hC (by decide) (.string st)).store (p := ⟨C, 1, none⟩) (hC.set0 _) (by decide) (.slice (some ⟨g, 0, none⟩) us.length cap)).rules hs hl
  exact ⟨C, g, cap, rfl, hS, (hC.set0 _).set1 _, h1, h2, (hV.setCell (p := ⟨C, 0, none⟩) hS _).setCell (p := ⟨C, 1, none⟩) hS _⟩
theorem keep_box {w : World} {G : Nat} {v0 v1 : Value} (h : BoxG w G v0 v1) : w.cell? ⟨G, 0, none⟩ = some v0 ∧ w.cell? ⟨G, 1, none⟩ = some v1 := ⟨h.cells.1, h.cells.2.1⟩
theorem keep_st {w : World} {G C : Nat} {v0 v1 u0 u1 : Value} (h : BoxG w G v0 v1) (_ : BoxG w C u0 u1) (hne : G ≠ C) (x y : Value) : ((w.setCell ⟨C, 0, none⟩ x).setCell ⟨C, 1, none⟩ y).cell? ⟨G, 0, none⟩ = some v0 ∧ ((w.setCell ⟨C, 0, none⟩ x).setCell ⟨C, 1, none⟩ y).cell? ⟨G, 1, none⟩ = some v1 :=
  keep_box ((h.other (p := ⟨C, 0, none⟩) hne x).other (p := ⟨C, 1, none⟩) hne y)
theorem step_append_first {ops : Array Oper} {o : Oper} {a : Act} {w : World} {K : Act → World → Prop} {Q : Exit → Act → World → Prop} {E : Prop} (hgd : o.guard = none) (s x : Operand)
    (ho : o.op = .call { callee := .builtin .append, args := #[s, x], argTypes := #[22, 22] })
    (B : Nat) (v : Value) (us : List RuleT) (b off c : Nat) (hs : a.eval s = v) (hx : a.eval x = .slice (some ⟨b, off, none⟩) us.length c) (hown : OwnR w B v []) (hU : RulesAt w (some ⟨b, off, none⟩) us)
    (hlen : us.length ≤ 1000) (hB : B ≤ w.heap.size)
    (h : ∀ g cap w', OwnR w' B (.slice (some ⟨g, 0, none⟩) us.length cap) us → w.grownBy w' v.ownBlock → K (a.put o.dst (.slice (some ⟨g, 0, none⟩) us.length cap)) w') :
    if Region.wanted o (yielded ops a.tmps) = true then Oper.wp Try.prog o a w K Q else E :=
  step_append_rules hgd s x ho B v [] us b off c hs hx hown hU (by simpa using hlen) hB (fun g cap w' h1 h2 => by
    have h3 := h g cap w' (by simpa using h1) h2
    rwa [show ([] : List RuleT).length + us.length = us.length from by simp])
end Go.Proofs.Ytjpkohahabclgaa
