/- The law's eqTree at two copies of one tree; how many nodes a tree has, so deep at most. -/
import Derived.Test.YtpkejcjjbkgomaaDoorTreB
import Derived.Test.YtpkejcjjbkgomaaDoorGrow
namespace Go.Proofs.YtpkejcjjbkgomaaDoor
open Go.ChangeShapes Go.WideShapes Go.ChangeAt Go.RowKit Go.Deep
set_option maxRecDepth 100000
set_option maxHeartbeats 2000000 in
theorem eqTreeS_of (ks : List Tr) (hkids : ∀ k ∈ ks, ∀ v u w, TrIn w 0 v k → TrIn w 0 u k → Calls Tryd.prog 16 #[v, u] w fun e w' => e = .returned (.bool true) ∧ Below w.heap.size w w')
    (a a' : Option Addr) (cap cap' : Nat) (w : World) (H : KidsIn w 0 a ks) (H' : KidsIn w 0 a' ks) (hn : ks.length ≤ maxLen) :
    Calls Tryd.prog 49 #[.slice a ks.length cap, .slice a' ks.length cap'] w fun e w' => e = .returned (.bool true) ∧ Below w.heap.size w w' := by
  unfold maxLen at hn
  have HK := Lib.hid hkids
  clear hkids
  go_enter Tryd.func49, Tryd.ntmps49
  go_wp2_with fail
  go_loopg [5] (ks.length + 1) (fun gk iv wr => ∃ i : Nat, gk = ks.length + 1 - i ∧ i ≤ ks.length ∧ iv = .int .i64 (i : Int) ∧ Below w.heap.size w wr)
  case atStart => exact ⟨0, rfl, Nat.zero_le _, rfl, Below.refl _ _⟩
  case round =>
    obtain ⟨i, hgk, hi, rfl, hb⟩ := hrel
    have HG := Lib.hid hgk
    clear hgk
    by_cases hlt : i < ks.length
    · have hil : (i : Int) < (ks.length : Int) := by omega
      have hi0 : (0 : Int) ≤ (i : Int) := by omega
      obtain ⟨g, off, s, r, x, rfl, _, hg, c0, c1, c2, ht⟩ := (H.below hb) i hlt
      obtain ⟨g', off', s', r', x', rfl, _, hg', c0', c1', c2', ht'⟩ := (H'.below hb) i hlt
      obtain ⟨a3, n3, cap3, rfl⟩ := ht.third
      obtain ⟨a4, n4, cap4, rfl⟩ := ht'.third
      have q0 : ∀ y, (grow wr y).cell? ⟨g, off + i * 3, none⟩ = some (.string s) := fun y => by rw [grow_cell _ _ _ _ hg]; exact c0
      have q1 : ∀ y, (grow wr y).cell? ⟨g, off + i * 3 + 1, none⟩ = some (.int .i64 r) := fun y => by rw [grow_cell _ _ _ _ hg]; exact c1
      have q2 : ∀ y, (grow wr y).cell? ⟨g, off + i * 3 + 2, none⟩ = some (.slice a3 n3 cap3) := fun y => by rw [grow_cell _ _ _ _ hg]; exact c2
      have p0 : ∀ y, (grow wr y).cell? ⟨g', off' + i * 3, none⟩ = some (.string s') := fun y => by rw [grow_cell _ _ _ _ hg']; exact c0'
      have p1 : ∀ y, (grow wr y).cell? ⟨g', off' + i * 3 + 1, none⟩ = some (.int .i64 r') := fun y => by rw [grow_cell _ _ _ _ hg']; exact c1'
      have p2 : ∀ y, (grow wr y).cell? ⟨g', off' + i * 3 + 2, none⟩ = some (.slice a4 n4 cap4) := fun y => by rw [grow_cell _ _ _ _ hg']; exact c2'
      have C1 : ∀ y, Calls Tryd.prog 16 #[.agg #[.string s, .int .i64 r, .slice a3 n3 cap3], .agg #[.string s', .int .i64 r', .slice a4 n4 cap4]] (grow wr y) fun e w' => e = .returned (.bool true) ∧ ∃ z, w' = grow wr z :=
        fun y => Calls.grow_of (HK.out ks[i] (List.getElem_mem hlt) _ _ _ (ht.keep (below_grow _ y)) (ht'.keep (below_grow _ y)))
      clear c0 c1 c2 c0' c1' c2' ht ht'
      go_wp2_with fail
      refine wp_region_grow (by kernel_rfl) (by kernel_rfl) ?_
      repeat (go_big_quiet_step ((first | (go_at_call 16; exact C1 _))))
      refine wpQuiet_nil ?_
      rintro _ ⟨y, rfl⟩
      have hB2 := hb.trans ((below_grow wr y).mono hb.size)
      generalize grow wr y = w5 at *
      clear q0 q1 q2 p0 p1 p2 C1
      go_wp2_with fail
      go_roundg (ks.length + 1 - (i + 1))
      case measure => have := HG.out; omega
      case rel => exact ⟨i + 1, rfl, by omega, by go_num, hB2⟩
    · have hil : ¬ (i : Int) < (ks.length : Int) := by omega
      go_wp2_with fail
      go_ret
      exact ⟨rfl, hb⟩
set_option maxHeartbeats 2000000 in
theorem eqTree_any (m : Nat) : ∀ (T : Tr), T.sz ≤ m → ∀ v u w, TrIn w 0 v T → TrIn w 0 u T →
    Calls Tryd.prog 16 #[v, u] w fun e w' => e = .returned (.bool true) ∧ Below w.heap.size w w' := by
  induction m with
  | zero =>
    intro T hT
    cases T with
    | node s r ks => rw [Tr.sz] at hT; omega
  | succ m ih =>
    intro T hT v u w HT HU
    obtain ⟨s, r, ks, a, cap, rfl, rfl, hs, hr, hn, hc, HK⟩ := HT.open
    obtain ⟨s', r', ks', a', cap', rfl, e, _, _, _, _, HK'⟩ := HU.open
    simp only [Tr.node.injEq] at e
    obtain ⟨rfl, rfl, rfl⟩ := e
    have hkids : ∀ k ∈ ks, ∀ v u w, TrIn w 0 v k → TrIn w 0 u k → Calls Tryd.prog 16 #[v, u] w fun e w' => e = .returned (.bool true) ∧ Below w.heap.size w w' :=
      fun k hk => ih k (by have := Tr.sz_kid (s := s) (r := r) hk; omega)
    have HKI := Lib.hid hkids
    have hb2 := ((Below.refl w.heap.size w).alloc (Nat.le_refl _) (.cells #[.string s, .int .i64 r, .slice a ks.length cap] 29)).alloc (by simp) (.cells #[.string s, .int .i64 r, .slice a' ks.length cap'] 29)
    have hse : (s.toList != s.toList) = false := by simp
    have hre : (r != r) = false := by simp
    clear hkids ih hT HT HU
    go_enter Tryd.func16, Tryd.ntmps16
    go_wp2_with fail
    refine (eqTreeS_of ks HKI.out a a' cap cap' _ (HK.below hb2) (HK'.below hb2) hn).mono ?_
    rintro e w3 ⟨rfl, hb3⟩
    have hB3 := hb2.trans (hb3.mono (by simp; omega))
    go_wp2_with fail
    go_ret
    exact ⟨rfl, hB3⟩
/-- how many nodes a tree has, so deep at most -/
def manyD : Nat → Tr → Nat
  | 0, _ => 1
  | d + 1, .node _ _ ks => 1 + (ks.map (manyD d)).sum
def manyTo (d : Nat) (ks : List Tr) (i : Nat) : Nat := ((ks.take i).map (manyD d)).sum
theorem manyTo_succ {d : Nat} {ks : List Tr} {i : Nat} (h : i < ks.length) : manyTo d ks (i + 1) = manyTo d ks i + manyD d ks[i] := by
  unfold manyTo
  rw [List.take_succ_eq_append_getElem h, List.map_append, List.sum_append]
  simp
theorem sum_le {ks : List Tr} {f : Tr → Nat} (h : ∀ k ∈ ks, f k ≤ 1 + k.wt) : (ks.map f).sum ≤ ks.length + (ks.map Tr.wt).sum := by
  induction ks with
  | nil => simp
  | cons x xs ih =>
    have h1 := h x (by simp)
    have h2 := ih (fun k hk => h k (List.mem_cons_of_mem _ hk))
    simp only [List.map_cons, List.sum_cons, List.length_cons]
    omega
theorem many_le : ∀ (d : Nat) (T : Tr), manyD d T ≤ 1 + T.wt
  | 0, _ => by unfold manyD; omega
  | d + 1, .node s r ks => by
    have := sum_le (ks := ks) (fun k _ => many_le d k)
    rw [manyD, Tr.wt]
    omega
theorem manyTo_le {d : Nat} {ks : List Tr} : ∀ i, manyTo d ks i ≤ (ks.map (manyD d)).sum := fun i => by
  unfold manyTo
  conv => rhs; rw [← List.take_append_drop i ks, List.map_append, List.sum_append]
  omega
end Go.Proofs.YtpkejcjjbkgomaaDoor
