/- Contracts of l1Base: rules that one meets often. -/
import Derived.Test.YtpkejcjjbkgomaaDoorDrawB
namespace Go.Proofs.YtpkejcjjbkgomaaDoor
open Go.ChangeShapes Go.WideShapes Go.ChangeAt Go.RowKit
def SmallR (rs : List RuleT) : Prop := ∀ r ∈ rs, r.1.size ≤ 5 ∧ r.2.size ≤ 5
/-- v is a grammar, of few and short rules, that lie from block B on -/
def GramVal (w : World) (B m : Nat) (v : Value) (st : ByteArray) (rs : List RuleT) : Prop := ∃ b off cap, v = .agg #[.string st, .slice (some ⟨b, off, none⟩) rs.length cap] ∧ rs.length ≤ cap ∧ RulesAt w (some ⟨b, off, none⟩) rs ∧ rs.length ≤ m ∧ st.size ≤ 100 ∧ SmallR rs ∧ B ≤ b
def MadeG (w : World) (e : Ending) (w' : World) : Prop := ∃ v st rs, e = .returned v ∧ GramVal w' w.heap.size 6 v st rs ∧ Below w.heap.size w w'
def flatR (rs : List RuleT) : List Value := rs.flatMap fun r => [.string r.1, .string r.2]
theorem flatR_len (rs : List RuleT) : (flatR rs).length = rs.length * 2 := by
  unfold flatR
  induction rs with
  | nil => rfl
  | cons r rs ih => rw [List.flatMap_cons, List.length_append, ih, List.length_cons]; simp; omega
theorem flatR_at : ∀ (rs : List RuleT) (i : Nat), i < rs.length * 2 → (flatR rs)[i]? = some (ruleCells rs i)
  | [], i, h => by simp at h
  | r :: rs, 0, _ => by simp [flatR, ruleCells]
  | r :: rs, 1, _ => by simp [flatR, ruleCells]
  | r :: rs, i + 2, h => by
    have ih := flatR_at rs i (by simp at h; omega)
    have e : ruleCells (r :: rs) (i + 2) = ruleCells rs i := by
      unfold ruleCells
      rw [show (i + 2) / 2 = i / 2 + 1 from by omega, show (i + 2) % 2 = i % 2 from by omega, List.getElem?_cons_succ]
    rw [e, ← ih]
    simp [flatR]
theorem row_flat (w : World) (rs : List RuleT) (T : TypeId) {cs : Array Value} (h : cs = (flatR rs).toArray) : (w.alloc (.cells cs T)).rowIs w.heap.size T (rs.length * 2) (ruleCells rs) := by
  subst h
  have := World.rowIs_alloc w (flatR rs).toArray T (ruleCells rs) (fun i hi => by rw [List.getElem?_toArray]; exact flatR_at rs i (by rw [← flatR_len]; simpa using hi))
  have hsz : (flatR rs).toArray.size = rs.length * 2 := by rw [List.size_toArray, flatR_len]
  rwa [hsz] at this
theorem base_end (w : World) (o : Obj) (cs : Array Value) (rs : List RuleT) (n : Nat) (h : cs = (flatR rs).toArray) (hn : rs.length = n) (hf : rs.length ≤ 6) (hs : SmallR rs) :
    MadeG w (.returned (.agg #[.string ⟨#[65]⟩, .slice (some ⟨w.heap.size + 1, 0, none⟩) n n])) ((w.alloc o).alloc (.cells cs 159)) := by
  subst hn
  refine ⟨_, ⟨#[65]⟩, rs, rfl, ⟨w.heap.size + 1, 0, rs.length, rfl, Nat.le_refl _, ?_, hf, by decide, hs, Nat.le_succ _⟩, ((Below.refl _ _).alloc (Nat.le_refl _) _).alloc (by simp) _⟩
  have hr := row_flat (w.alloc o) rs 159 h
  simp only [Deep.nblk_alloc] at hr
  refine rulesAt_of_row hr ⟨by unfold maxLen; omega, fun i hi => ?_⟩
  have := hs rs[i] (List.getElem_mem hi)
  unfold maxLen
  omega
set_option maxHeartbeats 1600000 in
theorem l1Base_any (n : Int) (w : World) : Calls Tryd.prog 117 #[.int .i64 n] w (MadeG w) := by
  by_cases h0 : n = 0
  · subst h0
    go_enter Tryd.func117, Tryd.ntmps117
    go_wp2
    exact bodyPost_ret (v := .agg #[.string ⟨#[65]⟩, .slice (some ⟨w.heap.size + 1, 0, none⟩) 2 2]) (by simp [results, Tryd.results117, go_sem]) rfl (base_end w _ _ [(⟨#[65]⟩, ⟨#[97, 65, 98]⟩), (⟨#[65]⟩, ⟨#[]⟩)] _ rfl rfl (by decide) (by unfold SmallR; decide))
  by_cases h1 : n = 1
  · subst h1
    go_enter Tryd.func117, Tryd.ntmps117
    go_wp2
    exact bodyPost_ret (v := .agg #[.string ⟨#[65]⟩, .slice (some ⟨w.heap.size + 1, 0, none⟩) 4 4]) (by simp [results, Tryd.results117, go_sem]) rfl (base_end w _ _ [(⟨#[65]⟩, ⟨#[65, 98, 66]⟩), (⟨#[65]⟩, ⟨#[66]⟩), (⟨#[66]⟩, ⟨#[97]⟩), (⟨#[66]⟩, ⟨#[99, 65, 100]⟩)] _ rfl rfl (by decide) (by unfold SmallR; decide))
  by_cases h2 : n = 2
  · subst h2
    go_enter Tryd.func117, Tryd.ntmps117
    go_wp2
    exact bodyPost_ret (v := .agg #[.string ⟨#[65]⟩, .slice (some ⟨w.heap.size + 1, 0, none⟩) 2 2]) (by simp [results, Tryd.results117, go_sem]) rfl (base_end w _ _ [(⟨#[65]⟩, ⟨#[65, 98, 65]⟩), (⟨#[65]⟩, ⟨#[97]⟩)] _ rfl rfl (by decide) (by unfold SmallR; decide))
  by_cases h3 : n = 3
  · subst h3
    go_enter Tryd.func117, Tryd.ntmps117
    go_wp2
    exact bodyPost_ret (v := .agg #[.string ⟨#[65]⟩, .slice (some ⟨w.heap.size + 1, 0, none⟩) 6 6]) (by simp [results, Tryd.results117, go_sem]) rfl (base_end w _ _ [(⟨#[65]⟩, ⟨#[66, 67]⟩), (⟨#[66]⟩, ⟨#[97, 66]⟩), (⟨#[66]⟩, ⟨#[]⟩), (⟨#[67]⟩, ⟨#[98]⟩), (⟨#[67]⟩, ⟨#[68]⟩), (⟨#[68]⟩, ⟨#[68, 99]⟩)] _ rfl rfl (by decide) (by unfold SmallR; decide))
  by_cases h4 : n = 4
  · subst h4
    go_enter Tryd.func117, Tryd.ntmps117
    go_wp2
    exact bodyPost_ret (v := .agg #[.string ⟨#[65]⟩, .slice (some ⟨w.heap.size + 1, 0, none⟩) 5 5]) (by simp [results, Tryd.results117, go_sem]) rfl (base_end w _ _ [(⟨#[65]⟩, ⟨#[97, 66]⟩), (⟨#[65]⟩, ⟨#[98, 65]⟩), (⟨#[66]⟩, ⟨#[65]⟩), (⟨#[66]⟩, ⟨#[99]⟩), (⟨#[66]⟩, ⟨#[66]⟩)] _ rfl rfl (by decide) (by unfold SmallR; decide))
  by_cases h5 : n = 5
  · subst h5
    go_enter Tryd.func117, Tryd.ntmps117
    go_wp2
    exact bodyPost_ret (v := .agg #[.string ⟨#[65]⟩, .slice (some ⟨w.heap.size + 1, 0, none⟩) 3 3]) (by simp [results, Tryd.results117, go_sem]) rfl (base_end w _ _ [(⟨#[65]⟩, ⟨#[97, 65]⟩), (⟨#[65]⟩, ⟨#[97, 65, 98, 65]⟩), (⟨#[65]⟩, ⟨#[99]⟩)] _ rfl rfl (by decide) (by unfold SmallR; decide))
  by_cases h6 : n = 6
  · subst h6
    go_enter Tryd.func117, Tryd.ntmps117
    go_wp2
    exact bodyPost_ret (v := .agg #[.string ⟨#[65]⟩, .slice (some ⟨w.heap.size + 1, 0, none⟩) 3 3]) (by simp [results, Tryd.results117, go_sem]) rfl (base_end w _ _ [(⟨#[65]⟩, ⟨#[66, 66]⟩), (⟨#[66]⟩, ⟨#[97, 66]⟩), (⟨#[66]⟩, ⟨#[98]⟩)] _ rfl rfl (by decide) (by unfold SmallR; decide))
  have e0 : (n == 0) = false := by simpa using h0
  have e1 : (n == 1) = false := by simpa using h1
  have e2 : (n == 2) = false := by simpa using h2
  have e3 : (n == 3) = false := by simpa using h3
  have e4 : (n == 4) = false := by simpa using h4
  have e5 : (n == 5) = false := by simpa using h5
  have e6 : (n == 6) = false := by simpa using h6
  clear h0 h1 h2 h3 h4 h5 h6
  go_enter Tryd.func117, Tryd.ntmps117
  go_wp2
  exact bodyPost_ret (v := .agg #[.string ⟨#[65]⟩, .slice (some ⟨w.heap.size + 1, 0, none⟩) 0 0]) (by simp [results, Tryd.results117, go_sem]) rfl (base_end w _ _ [] _ rfl rfl (by decide) (by unfold SmallR; decide))
end Go.Proofs.YtpkejcjjbkgomaaDoor
