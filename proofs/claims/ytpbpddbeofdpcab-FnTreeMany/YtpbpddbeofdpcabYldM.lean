/- What the program's TreeYield writes over the events of a walk. -/
import Derived.Test.YtpbpddbeofdpcabEndB
import Derived.Test.YtpbpddbeofdpcabSizA
import Derived.Test.YtpbpddbeofdpcabTextB
import Derived.Shelf.Strings.BuilderK
namespace Go.Proofs.Ytpbpddbeofdpcab
open Go.ChangeShapes Go.WideShapes Go.ChangeAt Go.RowKit Go.Deep Go.Shelf
set_option maxRecDepth 100000
/-- the small signs of a tree -/
def yieldL : Tr → List UInt8
  | .node s _ ks => if isSmallS s = true then s.data.toList else ks.flatMap yieldL
/-- what is still written: none: no terminal is open; some j: j nodes are open within it -/
def yRun : Option Nat → List (PT × Bool) → List UInt8
  | _, [] => []
  | none, (t, true) :: es => if isSmallS t.s = true then t.s.data.toList ++ yRun (some 0) es else yRun none es
  | none, (_, false) :: es => yRun none es
  | some j, (_, true) :: es => yRun (some (j + 1)) es
  | some 0, (_, false) :: es => yRun none es
  | some (j + 1), (_, false) :: es => yRun (some j) es
theorem yRun_in_kids : ∀ (l : List PT), (∀ t ∈ l, ∀ j rest, yRun (some j) (t.evs ++ rest) = yRun (some j) rest) → ∀ j rest, yRun (some j) (l.flatMap PT.evs ++ rest) = yRun (some j) rest
  | [], _, j, rest => rfl
  | t :: l, h, j, rest => by
    rw [List.flatMap_cons, List.append_assoc, h t (List.mem_cons_self ..), yRun_in_kids l (fun x hx => h x (List.mem_cons_of_mem _ hx))]
theorem yRun_in (m : Nat) : ∀ (t : PT), t.sz ≤ m → ∀ j rest, yRun (some j) (t.evs ++ rest) = yRun (some j) rest := by
  induction m with
  | zero => intro t h; have := t.sz_pos; omega
  | succ m ih =>
    intro t h j rest
    rw [t.evs_eq, List.cons_append, yRun, List.append_assoc, yRun_in_kids t.ks (fun k hk => ih k (by have := PT.sz_kid hk; omega))]
    rfl
theorem yRun_kids : ∀ (l : List PT), (∀ t ∈ l, ∀ rest, yRun none (t.evs ++ rest) = yieldL t.tr ++ yRun none rest) → ∀ rest, yRun none (l.flatMap PT.evs ++ rest) = (l.map PT.tr).flatMap yieldL ++ yRun none rest
  | [], _, rest => rfl
  | t :: l, h, rest => by
    rw [List.flatMap_cons, List.append_assoc, h t (List.mem_cons_self ..), yRun_kids l (fun x hx => h x (List.mem_cons_of_mem _ hx)), List.map_cons, List.flatMap_cons, List.append_assoc]
theorem yRun_evs (m : Nat) : ∀ (t : PT), t.sz ≤ m → ∀ rest, yRun none (t.evs ++ rest) = yieldL t.tr ++ yRun none rest := by
  induction m with
  | zero => intro t h; have := t.sz_pos; omega
  | succ m ih =>
    intro t h rest
    have hk := yRun_kids t.ks (fun k hk => ih k (by have := PT.sz_kid hk; omega))
    rw [t.evs_eq, List.cons_append, yRun, List.append_assoc, t.tr_eq, yieldL]
    by_cases hs : isSmallS t.s = true
    · rw [if_pos hs, if_pos hs, yRun_in_kids t.ks (fun k _ => yRun_in _ k (Nat.le_refl _))]
      rfl
    · rw [if_neg hs, if_neg hs, hk]
      rfl
theorem yRun_all (t : PT) : yRun none t.evs = yieldL t.tr := by
  have h := yRun_evs _ t (Nat.le_refl _) []
  rw [List.append_nil] at h
  rw [h]; simp [yRun]
theorem yield_len (m : Nat) : ∀ (T : Tr), T.sz ≤ m → (yieldL T).length ≤ T.sz := by
  induction m with
  | zero =>
    intro T hT
    cases T with
    | node s r ks => rw [Tr.sz] at hT; omega
  | succ m ih =>
    intro T hT
    cases T with
    | node s r ks =>
      have hk : ∀ k ∈ ks, (yieldL k).length ≤ k.sz := fun k hk => ih k (by have := Tr.sz_kid (s := s) (r := r) hk; omega)
      rw [yieldL, Tr.sz]
      split
      · rename_i hs
        have : s.size = 1 := by unfold isSmallS at hs; simp at hs; exact hs.1
        show s.data.toList.length ≤ _
        rw [Array.length_toList, show s.data.size = s.size from rfl, this]; omega
      · have : ∀ l : List Tr, (∀ k ∈ l, (yieldL k).length ≤ k.sz) → (l.flatMap yieldL).length ≤ (l.map Tr.sz).sum := by
          intro l
          induction l with
          | nil => intro _; simp
          | cons x xs ih2 =>
            intro h
            have h1 := h x (List.mem_cons_self ..)
            have h2 := ih2 (fun k hk => h k (List.mem_cons_of_mem _ hk))
            simp only [List.flatMap_cons, List.length_append, List.map_cons, List.sum_cons]
            omega
        have := this ks hk
        omega
/-- the builder in block b, its bytes wherever they lie -/
def BuildsF (b : Nat) (l : List UInt8) (w : World) : Prop := Lib.IsBuilderF 66 5 b b (Lib.byteCells l) w
theorem BuildsF.stay {b : Nat} {l : List UInt8} {w w' : World} (h : BuildsF b l w) (hb : w'.heap[b]? = w.heap[b]?) (hr : ∀ (k : Nat) c fz, w.heap[k]? = some (.cells c 5 fz) → w'.heap[k]? = w.heap[k]?) : BuildsF b l w' := by
  have one : ∀ p, Lib.BuilderAtF 66 5 b b p (Lib.byteCells l) w → Lib.BuilderAtF 66 5 b b p (Lib.byteCells l) w' := by
    rintro p ⟨h1, v, h2, ⟨h3, h4⟩, h5⟩
    refine ⟨h1, v, hb.trans h2, ⟨h3, ?_⟩, h5⟩
    rcases h4 with h4 | ⟨g, cap, cur, fz, e1, e2, e3, e4⟩
    · exact .inl h4
    · exact .inr ⟨g, cap, cur, fz, e1, e2, (hr g cur fz e3).trans e3, e4⟩
  rcases h with h | h
  · exact .inl (one _ h)
  · exact .inr (one _ h)
theorem writeF_any (b : Nat) (l : List UInt8) (s : ByteArray) (w : World) (h : BuildsF b l w) (hlen : l.length + s.size ≤ 100000000) (hB : b ≤ w.heap.size) :
    Calls Try.prog 38 #[.pointer (some ⟨b, 0, none⟩), .string s] w fun e w' => e = .returned (.tuple #[.int .i64 s.size, .nilIface]) ∧ BuildsF b (l ++ s.data.toList) w' ∧ Below b w w' ∧ Lib.OthersKept 5 (some b) w w' :=
  (Any.Builder_WriteString_k lay166 extra166 b b _ s w h (by rw [Lib.byteCells_length]; omega) hB).mono fun e w' ⟨he, hb, h1, h2⟩ =>
    ⟨he, .inr (by rw [Lib.byteCells_append]; exact hb), h1, h2⟩
theorem stringF_any (b : Nat) (l : List UInt8) (w : World) (h : BuildsF b l w) (hB : b ≤ w.heap.size) :
    Calls Try.prog 39 #[.pointer (some ⟨b, 0, none⟩)] w fun e w' => e = .returned (.string (bytesOf l)) ∧ Below b w w' ∧ Lib.OthersKept 5 (some b) w w' :=
  (Any.Builder_String_any_k lay169 extra169 b b l w h hB).mono fun _ _ ⟨he, _, h1, h2⟩ => ⟨he, h1, h2⟩
theorem eql_same (a : Addr) (w : World) : (binOp .eql 59 (.pointer (some a)) (.pointer (some a))).run Try.prog w = .ok (.bool true) w := by
  simp only [binOp]
  simp [equal_same]
theorem eql_other {a b : Addr} {w : World} (hne : a ≠ b) (ha : PlainB w a.block) (hb : PlainB w b.block) : (binOp .eql 59 (.pointer (some a)) (.pointer (some b))).run Try.prog w = .ok (.bool false) w := by
  simp only [binOp]
  simp [equal_other hne ha hb]
end Go.Proofs.Ytpbpddbeofdpcab
