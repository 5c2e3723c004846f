/- The model's l3Any: a drawn tree. -/
import Derived.Test.YtpkejcjjbkgomaaDoorTrW
import Derived.Test.YtpkejcjjbkgomaaDoorForA
import Derived.Test.YtpkejcjjbkgomaaDoorTokV
namespace Go.Proofs.YtpkejcjjbkgomaaDoor
open Go.ChangeShapes Go.WideShapes Go.ChangeAt Go.RowKit Go.Deep
set_option maxRecDepth 100000
def tmost : Nat → Nat
  | 0 => 1
  | d + 1 => 1 + 5 * tmost d
theorem tmost_pos : ∀ d, 1 ≤ tmost d
  | 0 => Nat.le_refl _
  | d + 1 => by unfold tmost; omega
def isSl (v : Value) : Prop := ∃ a n cap, v = .slice a n cap
/-- the kids of the root lie in a row of the call's own -/
def OwnTop (w : World) (B : Nat) (sg : ByteArray) (u : Value) (T : Tr) : Prop := ∃ r v us ks, u = .agg #[.string sg, .int .i64 r, v] ∧ T = .node sg r ks ∧ (Lit.int .i64 r).wf = true ∧ isSl v ∧ us.length ≤ 5 ∧ KidsQ w B (fun q => B ≤ q ∧ v.ownBlock ≠ some q) v us ks
def DrawnT (R k d : Nat) (sg : ByteArray) (w : World) (e : Ending) (w' : World) : Prop := ∃ u T, e = .returned u ∧ TrP w' w.heap.size u T ∧ T.sign = sg ∧ T.sz ≤ tmost d ∧ T.wt ≤ sg.size + 2 * (T.sz - 1) ∧ Rdk w' R (k + tmost d) ∧ Only R w w' ∧ OwnTop w' w.heap.size sg u T
theorem forTo_mem {rs : List RuleT} {left : ByteArray} : ∀ {m : Nat} {z : Int}, z ∈ forTo rs left m → ∃ j : Nat, z = (j : Int) ∧ j < m ∧ j < rs.length
  | 0, z, h => by cases h
  | m + 1, z, h => by
    unfold forTo at h
    rcases List.mem_append.1 h with h | h
    · obtain ⟨j, e, h1, h2⟩ := forTo_mem h
      exact ⟨j, e, by omega, h2⟩
    · by_cases hm : m < rs.length
      · rw [List.getElem?_eq_getElem hm] at h
        by_cases hq : (rs[m].1.toList == left.toList) = true
        · simp only [hq, if_true, List.mem_cons, List.not_mem_nil, or_false] at h
          exact ⟨m, h, by omega, hm⟩
        · simp only [hq, Bool.false_eq_true, if_false, List.not_mem_nil] at h
      · rw [List.getElem?_eq_none (by omega)] at h
        cases h
theorem KidsQ.stay {w w' : World} {B : Nat} {v : Value} {us : List Kid} {ks : List Tr} (H : KidsQ w B (fun k => B ≤ k ∧ v.ownBlock ≠ some k) v us ks) (hb : ∀ k, B ≤ k → k < w.heap.size → w'.heap[k]? = w.heap[k]?) : KidsQ w' B (fun k => B ≤ k ∧ v.ownBlock ≠ some k) v us ks := by
  refine ⟨⟨H.row.1, ?_⟩, H.len, fun j hj => (H.kid j hj).stay (fun k hk hlt => hb k hk.1 hlt)⟩
  rcases H.row.2 with h | ⟨g, cap, cur, e, h1, h2, h3⟩
  · exact .inl h
  · exact .inr ⟨g, cap, cur, e, h1, (hb g h1 (Array.getElem?_eq_some_iff.1 h2).1).trans h2, h3⟩
theorem leaf_tree (w : World) (B : Nat) (sg : ByteArray) (hs : sg.size ≤ maxLen) : TrP w B (.agg #[.string sg, .int .i64 (-1), .slice none 0 0]) (.node sg (-1) []) :=
  ⟨sg, -1, [], none, 0, fun _ => False, rfl, rfl, hs, rfl, Nat.zero_le _, Nat.le_refl _, fun _ hi => absurd hi (Nat.not_lt_zero _), fun _ hi => absurd hi (Nat.not_lt_zero _), fun _ hk => hk.elim⟩
theorem leaf_drawn {R k d : Nat} {sg : ByteArray} {w w' : World} (hs : sg.size ≤ maxLen) (hr : Rdk w' R k) (ho : Only R w w') : DrawnT R k d sg w (.returned (.agg #[.string sg, .int .i64 (-1), .slice none 0 0])) w' :=
  ⟨_, _, rfl, leaf_tree w' _ sg hs, rfl, by rw [Tr.sz]; exact tmost_pos d, by rw [Tr.wt, Tr.sz]; simp, hr.mono (by omega), ho, -1, .slice none 0 0, [], [], rfl, rfl, rfl, ⟨_, _, _, rfl⟩, Nat.zero_le _, ⟨World.ownsRow_nil _ _ _ _, rfl, fun _ hj => absurd hj (Nat.not_lt_zero _)⟩⟩
end Go.Proofs.YtpkejcjjbkgomaaDoor
