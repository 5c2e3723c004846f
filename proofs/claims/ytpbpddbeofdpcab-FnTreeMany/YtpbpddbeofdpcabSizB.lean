/- The contract of the model's TreeSize. -/
import Derived.Test.YtpbpddbeofdpcabSizA
import Derived.Test.YtpbpddbeofdpcabTokV
import Derived.Test.YtpbpddbeofdpcabSzT
namespace Go.Proofs.Ytpbpddbeofdpcab
open Go.ChangeShapes Go.WideShapes Go.ChangeAt Go.RowKit Go.Deep
set_option maxRecDepth 100000
set_option maxHeartbeats 2000000 in
theorem sTreeSize_any (m : Nat) : ∀ (T : Tr), T.sz ≤ m → T.sz ≤ 2000000 → ∀ v w, TrIn w 0 v T →
    Calls Try.prog 30 #[v] w fun e w' => e = .returned (.int .i64 (T.sz : Int)) ∧ Below w.heap.size w w' := by
  induction m with
  | zero =>
    intro T hT
    cases T with
    | node s r ks => rw [Tr.sz] at hT; omega
  | succ m ih =>
    intro T hT hW v w HT
    obtain ⟨s, r, ks, a, cap, rfl, rfl, hs, hr, hn, hc, HK⟩ := HT.open
    have hme : (Tr.node s r ks).sz = 1 + (ks.map Tr.sz).sum := by rw [Tr.sz]
    have hkid : ∀ k ∈ ks, k.sz < (Tr.node s r ks).sz := fun k hk => Tr.sz_kid hk
    have HIH := Lib.hid ih
    have HKD := Lib.hid hkid
    have HME := Lib.hid hme
    have hsum : 1 + (ks.map Tr.sz).sum ≤ 2000000 := by omega
    have HTT := Lib.hid hT
    have hbA := (Below.refl w.heap.size w).alloc (Nat.le_refl _) (.cells #[.string s, .int .i64 r, .slice a ks.length cap] 28)
    have hB0 : BoxT (w.alloc (.cells #[.string s, .int .i64 r, .slice a ks.length cap] 28)) w.heap.size (.string s) (.int .i64 r) (.slice a ks.length cap) := blk_new _ _ rfl
    unfold maxLen at hn
    clear ih hkid hme hT HT hW
    go_enter Try.func30, Try.ntmps30
    go_wp2_with fail
    go_loopg [3, 4] (ks.length + 1) (fun gk nv iv wr => ∃ i : Nat, gk = ks.length + 1 - i ∧ i ≤ ks.length ∧ iv = .int .i64 (i : Int) ∧ nv = .int .i64 ((1 + szTo ks i : Nat) : Int) ∧ BoxT wr w.heap.size (.string s) (.int .i64 r) (.slice a ks.length cap) ∧ Below w.heap.size w wr)
    case atStart => exact ⟨0, rfl, Nat.zero_le _, rfl, by simp [szTo], hB0, hbA⟩
    case round =>
      clear hB0 hbA
      obtain ⟨i, hgk, hi, rfl, rfl, hB, hb⟩ := hrel
      have HG := Lib.hid hgk
      have hml := szTo_le (ks := ks) i
      obtain ⟨o0, o1, o2, of0, of1, of2⟩ := hB.cells
      clear hgk
      by_cases hlt : i < ks.length
      · have hil : (i : Int) < (ks.length : Int) := by omega
        obtain ⟨g, off, s', r', x, rfl, _, hg, c0, c1, c2, ht⟩ := (HK.below hb) i hlt
        obtain ⟨a3, n3, cap3, rfl⟩ := ht.third
        have hms := szTo_succ hlt
        have hm2 := szTo_le (ks := ks) (i + 1)
        have hkm : szTo ks i + ks[i].sz ≤ 2000000 := by omega
        have HMS := Lib.hid hms
        clear hms hm2
        go_wp2_with fail
        refine (HIH.out ks[i] (by have := HKD.out ks[i] (List.getElem_mem hlt); have := HTT.out; omega) (by omega) _ _ ht).mono ?_
        rintro e w3 ⟨rfl, hb3⟩
        have hB3 := hB.below hb3
        have hBB := hb.trans (hb3.mono hb.size)
        clear hB hb hb3 c0 c1 c2 ht o0 o1 o2 of0 of1 of2
        go_wp2_with fail
        go_roundg (ks.length + 1 - (i + 1))
        case measure => have := HG.out; omega
        case rel => exact ⟨i + 1, rfl, by omega, by go_num, by rw [HMS.out]; go_num, hB3, hBB⟩
      · have hil : ¬ (i : Int) < (ks.length : Int) := by omega
        obtain rfl : i = ks.length := by omega
        have hfin : szTo ks ks.length = (ks.map Tr.sz).sum := by unfold szTo; rw [List.take_length]
        have HF := Lib.hid hfin
        clear hfin
        go_wp2_with fail
        go_ret
        exact ⟨by rw [HME.out, ← HF.out]; rfl, hb⟩
theorem MadeTree.trP {T : Tr} {w w' : World} {u : Value} (h1 : TrIn w' w.heap.size u T) (h2 : PlainFrom w.heap.size w') : TrP w' w.heap.size u T := TrP.of_plain h1 h2
end Go.Proofs.Ytpbpddbeofdpcab
