/- Boxes of two cells, kept over calls; what the bound of the exact laws gives. -/
import Derived.Test.YtpkejcjjbkgomaaDoorLawB
import Derived.Deep.RegionHeld3
namespace Go.Proofs.YtpkejcjjbkgomaaDoor
open Go.ChangeShapes Go.WideShapes Go.ChangeAt Go.RowKit
/-- block b holds these two values ahead -/
def Box2 (w : World) (b : Nat) (v0 v1 : Value) : Prop := b < w.heap.size ∧ w.cell? ⟨b, 0, none⟩ = some v0 ∧ w.cell? ⟨b, 1, none⟩ = some v1
theorem Box2.below {w w' : World} {b : Nat} {v0 v1 : Value} (h : Box2 w b v0 v1) (hb : Below w.heap.size w w') : Box2 w' b v0 v1 :=
  ⟨Nat.lt_of_lt_of_le h.1 hb.size, (hb.cell (p := ⟨b, 0, none⟩) h.1).trans h.2.1, (hb.cell (p := ⟨b, 1, none⟩) h.1).trans h.2.2⟩
theorem Box2.new (w : World) (v0 v1 : Value) (T : TypeId) : Box2 (w.alloc (.cells #[v0, v1] T)) w.heap.size v0 v1 := ⟨by simp, by simp, by simp⟩
theorem Box2.old {w : World} {b : Nat} {v0 v1 : Value} (h : Box2 w b v0 v1) (o : Obj) : Box2 (w.alloc o) b v0 v1 := h.below ((Below.refl _ _).alloc (Nat.le_refl _) _)
theorem keep4 {w w' : World} (hb : Below w.heap.size w w') {b c : Nat} {v0 v1 u0 u1 : Value} (h1 : b < w.heap.size) (h2 : c < w.heap.size)
    (k0 : w.cell? ⟨b, 0, none⟩ = some v0) (k1 : w.cell? ⟨b, 1, none⟩ = some v1) (m0 : w.cell? ⟨c, 0, none⟩ = some u0) (m1 : w.cell? ⟨c, 1, none⟩ = some u1) :
    w'.cell? ⟨b, 0, none⟩ = some v0 ∧ w'.cell? ⟨b, 1, none⟩ = some v1 ∧ w'.cell? ⟨c, 0, none⟩ = some u0 ∧ w'.cell? ⟨c, 1, none⟩ = some u1 :=
  ⟨(hb.cell (p := ⟨b, 0, none⟩) h1).trans k0, (hb.cell (p := ⟨b, 1, none⟩) h1).trans k1, (hb.cell (p := ⟨c, 0, none⟩) h2).trans m0, (hb.cell (p := ⟨c, 1, none⟩) h2).trans m1⟩
theorem below_of_drew {w w' : World} (h : Below w.drew.heap.size w.drew w') : Below w.heap.size w w' := ⟨h.os, h.tape, h.output, h.size, h.block⟩
theorem RulesAt.drew {w : World} {a : Option Addr} {rs : List RuleT} (h : RulesAt w a rs) : RulesAt w.drew a rs := h
/-- one step more, made of what was there -/
theorem Below.on {B : Nat} {a b c : World} (h : Below B a b) (k : Below b.heap.size b c) (hB : B ≤ a.heap.size) : Below B a c := h.trans (k.mono (Nat.le_trans hB h.size))
theorem szGram_bounds {st : ByteArray} {rs : List RuleT} {left : Int} (h1 : left ≤ 1048576) (h : 0 ≤ szGramM st rs left) : szGramM st rs left ≤ left ∧ rs.length ≤ 1048576 ∧ st.size ≤ 1048576 ∧ ∀ i (hi : i < rs.length), rs[i].1.size ≤ 1048576 ∧ rs[i].2.size ≤ 1048576 := by
  unfold szGramM at h ⊢
  split at h
  · omega
  · rename_i h2
    rw [if_neg h2]
    have h3 := szRulesM_le rs (left - st.size) (by omega)
    have h4 := h
    unfold szRulesM at h4
    split at h4
    · omega
    · rename_i h5
      refine ⟨by omega, by omega, by omega, fun i hi => ?_⟩
      have := szFold_mem rs _ (by omega) h4 rs[i] (List.getElem_mem hi)
      omega
end Go.Proofs.YtpkejcjjbkgomaaDoor
