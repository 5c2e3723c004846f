/- Contracts of l1Base: rules that one meets often. -/
import Derived.Test.YtiejfbodcjckeaaDrawB
namespace Go.Proofs.Ytiejfbodcjckeaa
open Go.ChangeShapes Go.WideShapes Go.ChangeAt Go.RowKit
def SmallR (rs : List RuleT) : Prop := ∀ r ∈ rs, r.1.size ≤ 5 ∧ r.2.size ≤ 5
/-- v is a grammar, of few and short rules, that lie from block B on -/
def GramVal (w : World) (B m : Nat) (v : Value) (st : ByteArray) (rs : List RuleT) : Prop := ∃ b off cap, v = .agg #[.string st, .slice (some ⟨b, off, none⟩) rs.length cap] ∧ rs.length ≤ cap ∧ RulesAt w (some ⟨b, off, none⟩) rs ∧ rs.length ≤ m ∧ st.size ≤ 100 ∧ SmallR rs ∧ B ≤ b
def MadeG (w : World) (e : Ending) (w' : World) : Prop := ∃ v st rs, e = .returned v ∧ GramVal w' w.heap.size 6 v st rs ∧ Below w.heap.size w w'
def flatR (rs : List RuleT) : List Value := rs.flatMap fun r => [.string r.1, .string r.2]
theorem flatR_len (rs : List RuleT) : (flatR rs).length = rs.length * 2 := by
  unfold flatR
  induction rs with
  | nil => rfl
  | cons r rs ih => rw [List.flatMap_cons, List.length_append, ih, List.length_cons]; simp; omega
theorem flatR_at : ∀ (rs : List RuleT) (i : Nat), i < rs.length * 2 → (flatR rs)[i]? = some (ruleCells rs i)
  | [], i, h => by simp at h
  | r :: rs, 0, _ => by simp [flatR, ruleCells]
  | r :: rs, 1, _ => by simp [flatR, ruleCells]
  | r :: rs, i + 2, h => by
    have ih := flatR_at rs i (by simp at h; omega)
    have e : ruleCells (r :: rs) (i + 2) = ruleCells rs i := by
      unfold ruleCells
      rw [show (i + 2) / 2 = i / 2 + 1 from by omega, show (i + 2) % 2 = i % 2 from by omega, List.getElem?_cons_succ]
    rw [e, ← ih]
    simp [flatR]
theorem row_flat (w : World) (rs : List RuleT) (T : TypeId) {cs : Array Value} (h : cs = (flatR rs).toArray) : (w.alloc (.cells cs T)).rowIs w.heap.size T (rs.length * 2) (ruleCells rs) := by
  subst h
  have := World.rowIs_alloc w (flatR rs).toArray T (ruleCells rs) (fun i hi => by rw [List.getElem?_toArray]; exact flatR_at rs i (by rw [← flatR_len]; simpa using hi))
  have hsz : (flatR rs).toArray.size = rs.length * 2 := by rw [List.size_toArray, flatR_len]
  rwa [hsz] at this
end Go.Proofs.Ytiejfbodcjckeaa
