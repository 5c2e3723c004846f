/- The model's l3Many and TreeSize. -/
import Derived.Test.YtpkejcjjbkgomaaDoorTreC
namespace Go.Proofs.YtpkejcjjbkgomaaDoor
open Go.ChangeShapes Go.WideShapes Go.ChangeAt Go.RowKit Go.Deep
set_option maxRecDepth 100000
set_option maxHeartbeats 2000000 in
theorem l3Many_any : ∀ (d : Nat) (T : Tr), d ≤ 1000 → T.wt ≤ 1048576 → ∀ v w, TrIn w 0 v T →
    Calls Tryd.prog 82 #[v, .int .i64 (d : Int)] w fun e w' => e = .returned (.int .i64 (manyD d T : Int)) ∧ Below w.heap.size w w' := by
  intro d
  induction d with
  | zero =>
    intro T _ _ v w HT
    obtain ⟨s, r, ks, a, cap, rfl, rfl, hs, hr, hn, hc, HK⟩ := HT.open
    unfold maxLen at hn
    have hbA := (Below.refl w.heap.size w).alloc (Nat.le_refl _) (.cells #[.string s, .int .i64 r, .slice a ks.length cap] 29)
    have hB0 : BoxT (w.alloc (.cells #[.string s, .int .i64 r, .slice a ks.length cap] 29)) w.heap.size (.string s) (.int .i64 r) (.slice a ks.length cap) := blk_new _ _ rfl
    obtain ⟨o0, o1, o2, of0, of1, of2⟩ := hB0.cells
    clear HT HK hB0
    by_cases hk : (0 : Int) < (ks.length : Int)
    all_goals
      go_enter Tryd.func82, Tryd.ntmps82
      go_wp2_with fail
      go_loopg [5, 6] 0 (fun _ nv iv wr => nv = .int .i64 1 ∧ iv = .int .i64 0 ∧ wr = w.alloc (.cells #[.string s, .int .i64 r, .slice a ks.length cap] 29))
      case atStart => exact ⟨rfl, rfl, rfl⟩
      case round =>
        obtain ⟨rfl, rfl, rfl⟩ := hrel
        go_wp2_with fail
        go_ret
        exact ⟨rfl, hbA⟩
  | succ d ih =>
    intro T hd hW v w HT
    obtain ⟨s, r, ks, a, cap, rfl, rfl, hs, hr, hn, hc, HK⟩ := HT.open
    obtain ⟨hw1, hw2⟩ := wt_kid (s := s) (r := r) (ks := ks)
    have hmz := many_le (d + 1) (Tr.node s r ks)
    have hme : manyD (d + 1) (Tr.node s r ks) = 1 + (ks.map (manyD d)).sum := rfl
    have HIH := Lib.hid ih
    have HW2 := Lib.hid hw2
    have HME := Lib.hid hme
    have hsum : 1 + (ks.map (manyD d)).sum ≤ 1048577 := by omega
    have hbA := (Below.refl w.heap.size w).alloc (Nat.le_refl _) (.cells #[.string s, .int .i64 r, .slice a ks.length cap] 29)
    have hB0 : BoxT (w.alloc (.cells #[.string s, .int .i64 r, .slice a ks.length cap] 29)) w.heap.size (.string s) (.int .i64 r) (.slice a ks.length cap) := blk_new _ _ rfl
    have hdp : (0 : Int) < ((d + 1 : Nat) : Int) := by omega
    unfold maxLen at hn
    clear ih hw2 hme hmz HT
    go_enter Tryd.func82, Tryd.ntmps82
    go_wp2_with fail
    go_loopg [5, 6] (ks.length + 1) (fun gk nv iv wr => ∃ i : Nat, gk = ks.length + 1 - i ∧ i ≤ ks.length ∧ iv = .int .i64 (i : Int) ∧ nv = .int .i64 ((1 + manyTo d ks i : Nat) : Int) ∧ BoxT wr w.heap.size (.string s) (.int .i64 r) (.slice a ks.length cap) ∧ Below w.heap.size w wr)
    case atStart => exact ⟨0, rfl, Nat.zero_le _, rfl, by simp [manyTo], hB0, hbA⟩
    case round =>
      clear hB0 hbA
      obtain ⟨i, hgk, hi, rfl, rfl, hB, hb⟩ := hrel
      have HG := Lib.hid hgk
      have hml := manyTo_le (d := d) (ks := ks) i
      obtain ⟨o0, o1, o2, of0, of1, of2⟩ := hB.cells
      clear hgk
      by_cases hlt : i < ks.length
      · have hil : (i : Int) < (ks.length : Int) := by omega
        obtain ⟨g, off, s', r', x, rfl, _, hg, c0, c1, c2, ht⟩ := (HK.below hb) i hlt
        obtain ⟨a3, n3, cap3, rfl⟩ := ht.third
        have hms := manyTo_succ (d := d) hlt
        have hm2 := manyTo_le (d := d) (ks := ks) (i + 1)
        have hkm : manyTo d ks i + manyD d ks[i] ≤ 1048577 := by omega
        have HMS := Lib.hid hms
        have hdd : ((d + 1 : Nat) : Int) - 1 = (d : Int) := by omega
        clear hms hm2
        go_wp2_with fail
        refine (HIH.out ks[i] (by omega) (by have := HW2.out ks[i] (List.getElem_mem hlt); omega) _ _ ht).mono ?_
        rintro e w3 ⟨rfl, hb3⟩
        have hB3 := hB.below hb3
        have hBB := hb.trans (hb3.mono hb.size)
        clear hB hb hb3 c0 c1 c2 ht o0 o1 o2 of0 of1 of2
        go_wp2_with fail
        go_roundg (ks.length + 1 - (i + 1))
        case measure => have := HG.out; omega
        case rel => exact ⟨i + 1, rfl, by omega, by go_num, by rw [HMS.out]; go_num, hB3, hBB⟩
      · have hil : ¬ (i : Int) < (ks.length : Int) := by omega
        obtain rfl : i = ks.length := by omega
        have hfin : manyTo d ks ks.length = (ks.map (manyD d)).sum := by unfold manyTo; rw [List.take_length]
        have HF := Lib.hid hfin
        clear hfin
        go_wp2_with fail
        go_ret
        exact ⟨by rw [HME.out, ← HF.out]; rfl, hb⟩
end Go.Proofs.YtpkejcjjbkgomaaDoor
