/- Numbers of the call's own. -/
import Derived.Test.YtpkejcjjbkgomaaDoorIntZ
import Derived.Maps.AppendAt
namespace Go.Proofs.YtpkejcjjbkgomaaDoor
open Go.ChangeShapes Go.WideShapes Go.ChangeAt Go.RowKit
set_option maxRecDepth 100000
theorem infoInt : (Tryd.prog.info? 3).map (fun i => (i.zero, i.size, i.bytes)) = some (some (.int .i64 0), 1, 8) := by kernel_rfl
def intCells (zs : List Int) : List Value := zs.map (Value.int .i64)
/-- numbers of the call's own -/
def OwnZ (w : World) (B : Nat) (v : Value) (zs : List Int) : Prop := (∃ g cap, v = .slice (some ⟨g, 0, none⟩) zs.length cap) ∧ w.ownsRow B 3 1 v zs.length (intCells zs)
theorem OwnZ.row {w : World} {B : Nat} {v : Value} {zs : List Int} (h : OwnZ w B v zs) : ∀ k, v.ownBlock = some k → B ≤ k := by
  intro k hk
  rcases h.2.2 with ⟨hv, _⟩ | ⟨g, _, _, hv, hg, _⟩
  · rw [hv] at hk; simp [Value.ownBlock] at hk
  · rw [hv] at hk; simp [Value.ownBlock] at hk; omega
theorem OwnZ.keep {w w' : World} {B : Nat} {v : Value} {zs : List Int} (h : OwnZ w B v zs) (hk : ∀ g, B ≤ g → g < w.heap.size → w'.heap[g]? = w.heap[g]?) : OwnZ w' B v zs := by
  refine ⟨h.1, h.2.1, ?_⟩
  rcases h.2.2 with h0 | ⟨g, cap, cur, hv, hg, hh, hl, hm, hs, ht⟩
  · exact .inl h0
  · exact .inr ⟨g, cap, cur, hv, hg, by rw [hk g hg (Array.getElem?_eq_some_iff.1 hh).1]; exact hh, hl, hm, hs, ht⟩
theorem OwnZ.at {w : World} {B : Nat} {v : Value} {zs : List Int} (h : OwnZ w B v zs) (hl : zs.length ≤ 1000) : ∃ g cap, v = .slice (some ⟨g, 0, none⟩) zs.length cap ∧ B ≤ g ∧ IntsAt w (some ⟨g, 0, none⟩) zs := by
  obtain ⟨⟨g, cap, rfl⟩, _, h2⟩ := h
  rcases h2 with ⟨h0, _⟩ | ⟨g', cap', cur, hv, hg, hh, hlc, hm, hs, ht⟩
  · cases h0
  · simp only [Value.slice.injEq, Option.some.injEq, Addr.mk.injEq] at hv
    obtain ⟨⟨rfl, _⟩, _, rfl⟩ := hv
    refine ⟨g, cap, rfl, hg, by unfold maxLen; omega, fun i hi => ⟨g, 0, rfl, (Array.getElem?_eq_some_iff.1 hh).1, ?_⟩⟩
    rw [cell_of_block hh (0 + i)]
    have e : cur.toList[i]? = some (.int .i64 zs[i]) := by
      have := congrArg (fun l => l[i]?) ht
      simp only [intCells, List.getElem?_map, List.getElem?_take] at this
      rw [if_pos (by omega)] at this
      rw [this]; simp [hi]
    simpa using e
end Go.Proofs.YtpkejcjjbkgomaaDoor
