/- The model's TreeSame. -/
import Derived.Test.YtpkejcjjbkgomaaDoorTreC
namespace Go.Proofs.YtpkejcjjbkgomaaDoor
open Go.ChangeShapes Go.WideShapes Go.ChangeAt Go.RowKit Go.Deep
set_option maxRecDepth 100000
open Classical in
noncomputable def sameT (A B : Tr) : Bool := decide (A = B)
open Classical in
theorem sameT_true {A B : Tr} (h : A = B) : sameT A B = true := decide_eq_true h
open Classical in
theorem sameT_false {A B : Tr} (h : A ≠ B) : sameT A B = false := decide_eq_false h
theorem sameT_comm (A B : Tr) : sameT A B = sameT B A := by
  by_cases h : A = B
  · rw [sameT_true h, sameT_true h.symm]
  · rw [sameT_false h, sameT_false fun e => h e.symm]
theorem bytes_list {a b : ByteArray} (h : a.toList = b.toList) : a = b := by
  have h1 := Go.ByteArray.toList_eq a
  have h2 := Go.ByteArray.toList_eq b
  cases a; cases b
  simp_all
set_option maxHeartbeats 2000000 in
theorem sTreeSame_any (m : Nat) : ∀ (A : Tr), A.sz ≤ m → ∀ (B : Tr) v u w, TrIn w 0 v A → TrIn w 0 u B →
    Calls Tryd.prog 13 #[v, u] w fun e w' => e = .returned (.bool (sameT A B)) ∧ Below w.heap.size w w' := by
  induction m with
  | zero =>
    intro T hT
    cases T with
    | node s r ks => rw [Tr.sz] at hT; omega
  | succ m ih =>
    intro A hA B v u w HA HB
    obtain ⟨s, r, ks, a, cap, rfl, rfl, hs, hr, hn, hc, HK⟩ := HA.open
    obtain ⟨s', r', ks', a', cap', rfl, rfl, hs', hr', hn', hc', HK'⟩ := HB.open
    have hb1 := (Below.refl w.heap.size w).alloc (Nat.le_refl _) (.cells #[.string s, .int .i64 r, .slice a ks.length cap] 29)
    have hb2 := hb1.alloc (by simp) (.cells #[.string s', .int .i64 r', .slice a' ks'.length cap'] 29)
    have hX : BoxT ((w.alloc (.cells #[.string s, .int .i64 r, .slice a ks.length cap] 29)).alloc (.cells #[.string s', .int .i64 r', .slice a' ks'.length cap'] 29)) w.heap.size (.string s) (.int .i64 r) (.slice a ks.length cap) := (blk_old _ _ (by simp)).trans (blk_new _ _ rfl)
    have hY : BoxT ((w.alloc (.cells #[.string s, .int .i64 r, .slice a ks.length cap] 29)).alloc (.cells #[.string s', .int .i64 r', .slice a' ks'.length cap'] 29)) (w.heap.size + 1) (.string s') (.int .i64 r') (.slice a' ks'.length cap') := blk_new _ _ (by simp)
    have hkids : ∀ k ∈ ks, ∀ (B : Tr) v u w, TrIn w 0 v k → TrIn w 0 u B → Calls Tryd.prog 13 #[v, u] w fun e w' => e = .returned (.bool (sameT k B)) ∧ Below w.heap.size w w' :=
      fun k hk => ih k (by have := Tr.sz_kid (s := s) (r := r) hk; omega)
    have HIH := Lib.hid hkids
    obtain ⟨o0, o1, o2, of0, of1, of2⟩ := hX.cells
    obtain ⟨p0, p1, p2, pf0, pf1, pf2⟩ := hY.cells
    unfold maxLen at hn hn'
    clear hkids ih hA HA HB hb1
    by_cases hse : s.toList = s'.toList
    case neg =>
      have hne : (s.toList != s'.toList) = true := by simpa using hse
      have hnq : (s.toList == s'.toList) = false := by simpa using hse
      have HF : Hid (sameT (.node s r ks) (.node s' r' ks') = false) := sameT_false fun e => by injection e with e1; exact hse (by rw [e1])
      go_enter Tryd.func13, Tryd.ntmps13
      go_wp2_with fail
      go_ret
      exact ⟨by rw [HF.out]; rfl, hb2⟩
    have hne : (s.toList != s'.toList) = false := by simpa using hse
    have hnq : (s.toList == s'.toList) = true := by simpa using hse
    have hse' := Lib.hid (bytes_list hse)
    clear hse
    by_cases hre : r = r'
    case neg =>
      have hnr : (r != r') = true := by simpa using hre
      have hrq : (r == r') = false := by simpa using hre
      have HF : Hid (sameT (.node s r ks) (.node s' r' ks') = false) := sameT_false fun e => by injection e with _ e1; exact hre e1
      clear hre
      go_enter Tryd.func13, Tryd.ntmps13
      go_wp2_with fail
      go_ret
      exact ⟨by rw [HF.out]; rfl, hb2⟩
    have hnr : (r != r') = false := by simpa using hre
    have hrq : (r == r') = true := by simpa using hre
    have hre' := Lib.hid hre
    clear hre
    by_cases hle : ks.length = ks'.length
    case neg =>
      have hnl : ((ks.length : Int) != (ks'.length : Int)) = true := by simp; omega
      have hlq : ((ks.length : Int) == (ks'.length : Int)) = false := by simp; omega
      have HF : Hid (sameT (.node s r ks) (.node s' r' ks') = false) := sameT_false fun e => by injection e with _ _ e1; exact hle (by rw [e1])
      clear hle
      go_enter Tryd.func13, Tryd.ntmps13
      go_wp2_with fail
      go_ret
      exact ⟨by rw [HF.out]; rfl, hb2⟩
    have hnl : ((ks.length : Int) != (ks'.length : Int)) = false := by simp; omega
    have hlq : ((ks.length : Int) == (ks'.length : Int)) = true := by simp; omega
    have hle' := Lib.hid hle
    clear hle
    go_enter Tryd.func13, Tryd.ntmps13
    go_wp2_with fail
    go_loopg [5] (ks.length + 1) (fun gk iv wr => ∃ i : Nat, gk = ks.length + 1 - i ∧ i ≤ ks.length ∧ iv = .int .i64 (i : Int) ∧ Hid (∀ j (h : j < ks.length) (h' : j < ks'.length), j < i → ks[j] = ks'[j]) ∧ BoxT wr w.heap.size (.string s) (.int .i64 r) (.slice a ks.length cap) ∧ BoxT wr (w.heap.size + 1) (.string s') (.int .i64 r') (.slice a' ks'.length cap') ∧ Below w.heap.size w wr)
    case atStart => exact ⟨0, rfl, Nat.zero_le _, rfl, fun j _ _ h => absurd h (Nat.not_lt_zero _), hX, hY, hb2⟩
    case round =>
      clear hX hY hb2 o0 o1 o2 of0 of1 of2 p0 p1 p2 pf0 pf1 pf2
      obtain ⟨i, hgk, hi, rfl, HE, hB, hC, hb⟩ := hrel
      have HG := Lib.hid hgk
      obtain ⟨o0, o1, o2, of0, of1, of2⟩ := hB.cells
      obtain ⟨p0, p1, p2, pf0, pf1, pf2⟩ := hC.cells
      clear hgk
      by_cases hlt : i < ks.length
      · have hil : (i : Int) < (ks.length : Int) := by omega
        have hlt' : i < ks'.length := by have := hle'.out; omega
        have hil' : (i : Int) < (ks'.length : Int) := by omega
        have hi0 : (0 : Int) ≤ (i : Int) := by omega
        obtain ⟨g, off, sa, ra, xa, rfl, _, hg, c0, c1, c2, ht⟩ := (HK.below hb) i hlt
        obtain ⟨a3, n3, cap3, rfl⟩ := ht.third
        obtain ⟨g', off', sb, rb, xb, rfl, _, hg', d0, d1, d2, hu⟩ := (HK'.below hb) i hlt'
        obtain ⟨a4, n4, cap4, rfl⟩ := hu.third
        have q0 : ∀ y, (grow wr y).cell? ⟨g, off + i * 3, none⟩ = some (.string sa) := fun y => by rw [grow_cell _ _ _ _ hg]; exact c0
        have q1 : ∀ y, (grow wr y).cell? ⟨g, off + i * 3 + 1, none⟩ = some (.int .i64 ra) := fun y => by rw [grow_cell _ _ _ _ hg]; exact c1
        have q2 : ∀ y, (grow wr y).cell? ⟨g, off + i * 3 + 2, none⟩ = some (.slice a3 n3 cap3) := fun y => by rw [grow_cell _ _ _ _ hg]; exact c2
        have p3 : ∀ y, (grow wr y).cell? ⟨g', off' + i * 3, none⟩ = some (.string sb) := fun y => by rw [grow_cell _ _ _ _ hg']; exact d0
        have p4 : ∀ y, (grow wr y).cell? ⟨g', off' + i * 3 + 1, none⟩ = some (.int .i64 rb) := fun y => by rw [grow_cell _ _ _ _ hg']; exact d1
        have p5 : ∀ y, (grow wr y).cell? ⟨g', off' + i * 3 + 2, none⟩ = some (.slice a4 n4 cap4) := fun y => by rw [grow_cell _ _ _ _ hg']; exact d2
        have lB := (Array.getElem?_eq_some_iff.1 hB).1
        have lC := (Array.getElem?_eq_some_iff.1 hC).1
        have u2 : ∀ y, (grow wr y).cell? ⟨w.heap.size, 2, none⟩ = some (.slice (some ⟨g, off, none⟩) ks.length cap) := fun y => by rw [grow_cell _ _ _ _ lB]; exact o2
        have v2 : ∀ y, (grow wr y).cell? ⟨w.heap.size + 1, 2, none⟩ = some (.slice (some ⟨g', off', none⟩) ks'.length cap') := fun y => by rw [grow_cell _ _ _ _ lC]; exact p2
        obtain ⟨bv, hbv⟩ : ∃ bv, sameT ks[i] ks'[i] = bv := ⟨_, rfl⟩
        have C1 : ∀ y, Calls Tryd.prog 13 #[.agg #[.string sa, .int .i64 ra, .slice a3 n3 cap3], .agg #[.string sb, .int .i64 rb, .slice a4 n4 cap4]] (grow wr y) fun e w' => e = .returned (.bool bv) ∧ ∃ z, w' = grow wr z :=
          fun y => by rw [← hbv]; exact Calls.grow_of (HIH.out ks[i] (List.getElem_mem hlt) ks'[i] _ _ _ (ht.keep (below_grow _ y)) (hu.keep (below_grow _ y)))
        have HBV := Lib.hid hbv
        clear c0 c1 c2 d0 d1 d2 ht hu hbv
        go_wp2_with fail
        refine wp_region_grow (by kernel_rfl) (by kernel_rfl) ?_
        repeat (go_big_quiet_step ((first | (go_at_call 13; exact C1 _))))
        refine wpQuiet_nil ?_
        rintro _ ⟨y, rfl⟩
        have hB3 := hB.below (below_grow wr y)
        have hC3 := hC.below (below_grow wr y)
        have hBB := hb.trans ((below_grow wr y).mono hb.size)
        generalize grow wr y = w5 at *
        clear q0 q1 q2 p3 p4 p5 C1 u2 v2 hB hC hb lB lC o0 o1 o2 of0 of1 of2 p0 p1 p2 pf0 pf1 pf2
        by_cases hk : ks[i] = ks'[i]
        · have hv := HBV.out.symm.trans (sameT_true hk)
          have HKK := Lib.hid hk
          clear hk
          subst hv
          go_wp2_with fail
          go_roundg (ks.length + 1 - (i + 1))
          case measure => have := HG.out; omega
          case rel => exact ⟨i + 1, rfl, by omega, by go_num, fun j h h' hj => by
            by_cases e : j = i
            · subst e; exact HKK.out
            · exact HE.out j h h' (by omega), hB3, hC3, hBB⟩
        · have hv := HBV.out.symm.trans (sameT_false hk)
          have HF : Hid (sameT (.node s r ks) (.node s' r' ks') = false) := sameT_false fun e => by
            injection e with _ _ e1
            subst e1
            exact hk rfl
          clear hk
          subst hv
          go_wp2_with fail
          go_ret
          exact ⟨by rw [HF.out]; rfl, hBB⟩
      · have hil : ¬ (i : Int) < (ks.length : Int) := by omega
        obtain rfl : i = ks.length := by omega
        have HF : Hid (sameT (.node s r ks) (.node s' r' ks') = true) := sameT_true (by
          rw [hse'.out, hre'.out, show ks = ks' from List.ext_getElem hle'.out fun j h h' => HE.out j h h' h])
        go_wp2_with fail
        go_ret
        exact ⟨by rw [HF.out]; rfl, hb⟩
end Go.Proofs.YtpkejcjjbkgomaaDoor
