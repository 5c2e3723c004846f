/- Boxes of three cells; a tree's weight and its size. -/
import Derived.Test.YtpkejcjjbkgomaaDoorTreB
import Derived.Test.YtpkejcjjbkgomaaDoorBox
namespace Go.Proofs.YtpkejcjjbkgomaaDoor
open Go.ChangeShapes Go.WideShapes Go.ChangeAt Go.RowKit Go.Deep
set_option maxRecDepth 100000
def Box3 (w : World) (b : Nat) (v0 v1 v2 : Value) : Prop := b < w.heap.size ∧ w.cell? ⟨b, 0, none⟩ = some v0 ∧ w.cell? ⟨b, 1, none⟩ = some v1 ∧ w.cell? ⟨b, 2, none⟩ = some v2
theorem Box3.below {w w' : World} {b : Nat} {v0 v1 v2 : Value} (h : Box3 w b v0 v1 v2) (hb : Below w.heap.size w w') : Box3 w' b v0 v1 v2 :=
  ⟨Nat.lt_of_lt_of_le h.1 hb.size, (hb.cell (p := ⟨b, 0, none⟩) h.1).trans h.2.1, (hb.cell (p := ⟨b, 1, none⟩) h.1).trans h.2.2.1, (hb.cell (p := ⟨b, 2, none⟩) h.1).trans h.2.2.2⟩
theorem Box3.new (w : World) (v0 v1 v2 : Value) (T : TypeId) : Box3 (w.alloc (.cells #[v0, v1, v2] T)) w.heap.size v0 v1 v2 := ⟨by simp, by simp, by simp, by simp⟩
theorem Box3.old {w : World} {b : Nat} {v0 v1 v2 : Value} (h : Box3 w b v0 v1 v2) (o : Obj) : Box3 (w.alloc o) b v0 v1 v2 := h.below ((Below.refl _ _).alloc (Nat.le_refl _) _)
theorem keep5 {w : World} {b c : Nat} {v0 v1 u0 u1 u2 : Value} (X : Box2 w b v0 v1) (Y : Box3 w c u0 u1 u2) : w.cell? ⟨b, 0, none⟩ = some v0 ∧ w.cell? ⟨b, 1, none⟩ = some v1 ∧ w.cell? ⟨c, 0, none⟩ = some u0 ∧ w.cell? ⟨c, 1, none⟩ = some u1 ∧ w.cell? ⟨c, 2, none⟩ = some u2 := ⟨X.2.1, X.2.2, Y.2⟩
theorem keep4' {w : World} {b c : Nat} {v0 v1 u0 u1 : Value} (X : Box2 w b v0 v1) (Y : Box2 w c u0 u1) : w.cell? ⟨b, 0, none⟩ = some v0 ∧ w.cell? ⟨b, 1, none⟩ = some v1 ∧ w.cell? ⟨c, 0, none⟩ = some u0 ∧ w.cell? ⟨c, 1, none⟩ = some u1 := ⟨X.2.1, X.2.2, Y.2⟩
theorem keep6 {w : World} {b c : Nat} {v0 v1 v2 u0 u1 u2 : Value} (X : Box3 w b v0 v1 v2) (Y : Box3 w c u0 u1 u2) : w.cell? ⟨b, 0, none⟩ = some v0 ∧ w.cell? ⟨b, 1, none⟩ = some v1 ∧ w.cell? ⟨b, 2, none⟩ = some v2 ∧ w.cell? ⟨c, 0, none⟩ = some u0 ∧ w.cell? ⟨c, 1, none⟩ = some u1 ∧ w.cell? ⟨c, 2, none⟩ = some u2 := ⟨X.2.1, X.2.2.1, X.2.2.2, Y.2⟩
theorem TrIn.drew {w : World} {B : Nat} {v : Value} {T : Tr} (h : TrIn w B v T) : TrIn w.drew B v T := h.stay (fun _ _ _ => rfl) (Nat.le_refl _)
theorem sz_le_wt (m : Nat) : ∀ T : Tr, T.sz ≤ m → T.sz ≤ T.wt + 1 := by
  induction m with
  | zero => intro T h; cases T with | node s r ks => rw [Tr.sz] at h; omega
  | succ m ih =>
    intro T h
    cases T with
    | node s r ks =>
      rw [Tr.sz, Tr.wt]
      have hk : ∀ k ∈ ks, k.sz ≤ k.wt + 1 := fun k hk => ih k (by have := Tr.sz_kid (s := s) (r := r) hk; omega)
      have : (ks.map Tr.sz).sum ≤ (ks.map Tr.wt).sum + ks.length := by
        clear h ih
        induction ks with
        | nil => simp
        | cons x xs ih2 =>
          have h1 := hk x (List.mem_cons_self ..)
          have h2 := ih2 (fun k h => hk k (List.mem_cons_of_mem _ h))
          simp only [List.map_cons, List.sum_cons, List.length_cons]
          omega
      omega
end Go.Proofs.YtpkejcjjbkgomaaDoor
