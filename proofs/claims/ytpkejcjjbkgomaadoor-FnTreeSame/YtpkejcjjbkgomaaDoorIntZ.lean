/- Numbers in memory. -/
import Derived.Test.YtpkejcjjbkgomaaDoorDrawG
namespace Go.Proofs.YtpkejcjjbkgomaaDoor
open Go.ChangeShapes Go.WideShapes Go.ChangeAt Go.RowKit
def IntsAt (w : World) (a : Option Addr) (zs : List Int) : Prop := zs.length ≤ maxLen ∧ ∀ i (h : i < zs.length), ∃ b off, a = some ⟨b, off, none⟩ ∧ b < w.heap.size ∧ w.cell? ⟨b, off + i, none⟩ = some (.int .i64 zs[i])
theorem IntsAt.below {w w' : World} {a : Option Addr} {zs : List Int} (h : IntsAt w a zs) (hb : Below w.heap.size w w') : IntsAt w' a zs := by
  refine ⟨h.1, fun i hi => ?_⟩
  obtain ⟨b, off, e, hl, hc⟩ := h.2 i hi
  exact ⟨b, off, e, Nat.lt_of_lt_of_le hl hb.size, by rw [hb.cell (p := ⟨b, _, none⟩) hl]; exact hc⟩
def hasI (zs : List Int) (v : Int) : Bool := zs.any fun z => z == v
theorem hasI_true {zs : List Int} {v : Int} {k : Nat} (h : k < zs.length) (e : v = zs[k]) : hasI zs v = true := by
  unfold hasI
  rw [List.any_eq_true]
  exact ⟨zs[k], List.getElem_mem h, by simp [e]⟩
theorem hasI_false {zs : List Int} {v : Int} (h : ∀ k (hk : k < zs.length), ¬ v = zs[k]) : hasI zs v = false := by
  unfold hasI
  rw [List.any_eq_false]
  intro z hz
  obtain ⟨k, hk, rfl⟩ := List.getElem_of_mem hz
  have := h k hk
  rw [beq_iff_eq]
  exact fun e => this e.symm
end Go.Proofs.YtpkejcjjbkgomaaDoor
