/- The small signs of a tree. -/
import Derived.Test.YtpkejcjjbkgomaaDoorPtA
namespace Go.Proofs.YtpkejcjjbkgomaaDoor
set_option maxRecDepth 100000
/-- the small signs of a tree -/
def yieldL : Tr → List UInt8
  | .node s _ ks => if isSmallS s = true then s.data.toList else ks.flatMap yieldL
theorem yield_len (m : Nat) : ∀ (T : Tr), T.sz ≤ m → (yieldL T).length ≤ T.sz := by
  induction m with
  | zero =>
    intro T hT
    cases T with
    | node s r ks => rw [Tr.sz] at hT; omega
  | succ m ih =>
    intro T hT
    cases T with
    | node s r ks =>
      have hk : ∀ k ∈ ks, (yieldL k).length ≤ k.sz := fun k hk => ih k (by have := Tr.sz_kid (s := s) (r := r) hk; omega)
      rw [yieldL, Tr.sz]
      split
      · rename_i hs
        have : s.size = 1 := by unfold isSmallS at hs; simp at hs; exact hs.1
        show s.data.toList.length ≤ _
        rw [Array.length_toList, show s.data.size = s.size from rfl, this]; omega
      · have : ∀ l : List Tr, (∀ k ∈ l, (yieldL k).length ≤ k.sz) → (l.flatMap yieldL).length ≤ (l.map Tr.sz).sum := by
          intro l
          induction l with
          | nil => intro _; simp
          | cons x xs ih2 =>
            intro h
            have h1 := h x (List.mem_cons_self ..)
            have h2 := ih2 (fun k hk => h k (List.mem_cons_of_mem _ hk))
            simp only [List.flatMap_cons, List.length_append, List.map_cons, List.sum_cons]
            omega
        have := this ks hk
        omega
end Go.Proofs.YtpkejcjjbkgomaaDoor
