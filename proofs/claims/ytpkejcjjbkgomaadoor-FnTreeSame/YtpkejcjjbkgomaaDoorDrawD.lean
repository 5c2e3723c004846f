/- The contract of l1Gram: rules are drawn. -/
import Derived.Test.YtpkejcjjbkgomaaDoorDrawC
namespace Go.Proofs.YtpkejcjjbkgomaaDoor
open Go.ChangeShapes Go.WideShapes Go.ChangeAt Go.RowKit
theorem infoRule : (Tryd.prog.info? 159).map (fun i => (i.zero, i.size, i.bytes)) = some (some (.agg #[.string ByteArray.empty, .string ByteArray.empty]), 2, 32) := by kernel_rfl
theorem SmallR.fits {rs : List RuleT} (h : SmallR rs) (hl : rs.length ≤ 1000) : Fits rs := ⟨by unfold maxLen; omega, fun i hi => by have := h rs[i] (List.getElem_mem hi); unfold maxLen; omega⟩
/-- the slice v is the call's own, from block B on, and holds these rules -/
def OwnR (w : World) (B : Nat) (v : Value) (rs : List RuleT) : Prop := (∃ g cap, v = .slice (some ⟨g, 0, none⟩) rs.length cap ∧ B ≤ g ∧ rs.length ≤ cap) ∧ w.ownsRow B 159 2 v rs.length (flatR rs)
theorem OwnR.block {w : World} {B : Nat} {v : Value} {rs : List RuleT} (h : OwnR w B v rs) : ∃ g cap cur, v = .slice (some ⟨g, 0, none⟩) rs.length cap ∧ B ≤ g ∧ rs.length ≤ cap ∧ w.heap[g]? = some (.cells cur 159 (0, 0)) ∧ cur.size = cap * 2 ∧ cur.toList.take (rs.length * 2) = flatR rs := by
  obtain ⟨⟨g, cap, rfl, hg, hl⟩, _, h2⟩ := h
  rcases h2 with ⟨h, _⟩ | ⟨g', cap', cur, hv, hB, hh, _, _, hs, ht⟩
  · cases h
  · simp only [Value.slice.injEq, Option.some.injEq, Addr.mk.injEq] at hv
    obtain ⟨⟨rfl, _⟩, _, rfl⟩ := hv
    exact ⟨g, cap, cur, rfl, hg, hl, hh, hs, ht⟩
theorem OwnR.at {w : World} {B : Nat} {v : Value} {rs : List RuleT} (h : OwnR w B v rs) (hs : SmallR rs) (hl : rs.length ≤ 1000) : ∃ g cap, v = .slice (some ⟨g, 0, none⟩) rs.length cap ∧ B ≤ g ∧ rs.length ≤ cap ∧ g < w.heap.size ∧ RulesAt w (some ⟨g, 0, none⟩) rs := by
  obtain ⟨g, cap, cur, rfl, hg, hlc, hh, hcs, ht⟩ := h.block
  have hlt : g < w.heap.size := (Array.getElem?_eq_some_iff.1 hh).1
  refine ⟨g, cap, rfl, hg, hlc, hlt, (hs.fits hl).1, fun i hi => ?_⟩
  have hf := (hs.fits hl).2 i hi
  have hc : ∀ j, j < rs.length * 2 → w.cell? ⟨g, j, none⟩ = some (ruleCells rs j) := fun j hj => by
    rw [cell_of_block hh j, ← flatR_at rs j hj, ← ht, List.getElem?_take, if_pos hj]; simp
  exact ⟨hf.1, hf.2, g, 0, rfl, hlt, by rw [Nat.zero_add, hc _ (by omega), ruleCells_even rs i hi], by rw [Nat.zero_add, hc _ (by omega), ruleCells_odd rs i hi]⟩
theorem OwnR.keep {w w' : World} {B : Nat} {v : Value} {rs : List RuleT} (h : OwnR w B v rs) (hk : ∀ g, B ≤ g → g < w.heap.size → w.heap[g]? ≠ none → (∃ cur, w.heap[g]? = some (.cells cur 159 (0, 0))) → w'.heap[g]? = w.heap[g]?) : OwnR w' B v rs := by
  obtain ⟨g, cap, cur, rfl, hg, hlc, hh, hcs, ht⟩ := h.block
  have hlt : g < w.heap.size := (Array.getElem?_eq_some_iff.1 hh).1
  refine ⟨⟨g, cap, rfl, hg, hlc⟩, h.2.1, .inr ⟨g, cap, cur, rfl, hg, ?_, hlc, ?_, hcs, ht⟩⟩
  · rw [hk g hg hlt (by rw [hh]; simp) ⟨cur, hh⟩]; exact hh
  · rcases h.2.2 with ⟨h, _⟩ | ⟨g', cap', cur', hv, _, _, _, hm, _⟩
    · cases h
    · simp only [Value.slice.injEq] at hv
      rw [hv.2.2]; exact hm
theorem OwnR.below {w w' : World} {B : Nat} {v : Value} {rs : List RuleT} (h : OwnR w B v rs) (hb : Below w.heap.size w w') : OwnR w' B v rs := h.keep fun g _ hlt _ _ => hb.block g hlt
theorem OwnR.only {R : Nat} {w w' : World} {B : Nat} {v : Value} {rs : List RuleT} (h : OwnR w B v rs) (hb : Only R w w') (hR : R < B) : OwnR w' B v rs := h.keep fun g hg hlt _ _ => hb.block g hlt (by omega)
/-- a store elsewhere: into a block of another type -/
theorem OwnR.store {w : World} {B : Nat} {v : Value} {rs : List RuleT} (h : OwnR w B v rs) {p : Addr} {c : Array Value} {T : TypeId} (hp : w.heap[p.block]? = some (.cells c T)) (hT : T ≠ 159) (u : Value) : OwnR (w.setCell p u) B v rs :=
  h.keep fun g _ _ _ ⟨cur, hc⟩ => Below.heap_setCell _ _ _ _ (fun e => by rw [e, hp] at hc; simp only [Option.some.injEq, Obj.cells.injEq] at hc; exact hT hc.2.1)
def DrawnG (R k m : Nat) (w : World) (e : Ending) (w' : World) : Prop := ∃ v st rs, e = .returned v ∧ GramVal w' w.heap.size m v st rs ∧ Rdk w' R k ∧ Only R w w'
end Go.Proofs.YtpkejcjjbkgomaaDoor
