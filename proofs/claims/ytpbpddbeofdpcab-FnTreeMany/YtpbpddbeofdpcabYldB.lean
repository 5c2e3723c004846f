/- The contract of the model's TreeYield. -/
import Derived.Test.YtpbpddbeofdpcabYldA
import Derived.Test.YtpbpddbeofdpcabSizB
namespace Go.Proofs.Ytpbpddbeofdpcab
open Go.ChangeShapes Go.WideShapes Go.ChangeAt Go.RowKit Go.Deep
set_option maxRecDepth 100000
def yieldTo (ks : List Tr) (i : Nat) : List UInt8 := (ks.take i).flatMap yieldL
theorem yieldTo_succ {ks : List Tr} {i : Nat} (h : i < ks.length) : yieldTo ks (i + 1) = cat (yieldTo ks i) (bytesOf (yieldL ks[i])) := by
  unfold yieldTo cat
  rw [List.take_succ_eq_append_getElem h, List.flatMap_append]
  simp [bytesOf]
theorem yieldTo_len {s : ByteArray} {r : Int} {ks : List Tr} (i : Nat) : (yieldTo ks i).length ≤ (Tr.node s r ks).sz := by
  rw [Tr.sz]
  have h1 : ∀ l : List Tr, (l.flatMap yieldL).length ≤ (l.map Tr.sz).sum := by
    intro l
    induction l with
    | nil => simp
    | cons x xs ih =>
      have := yield_len _ x (Nat.le_refl _)
      simp only [List.flatMap_cons, List.length_append, List.map_cons, List.sum_cons]
      omega
  have h2 := h1 (ks.take i)
  have h3 := szTo_le (ks := ks) i
  unfold szTo at h3
  unfold yieldTo
  omega
set_option maxHeartbeats 2000000 in
theorem l3Yield_any (m : Nat) : ∀ (T : Tr), T.sz ≤ m → T.sz ≤ 2000000 → ∀ v w, TrIn w 0 v T →
    Calls Try.prog 54 #[v] w fun e w' => e = .returned (.string (bytesOf (yieldL T))) ∧ Below w.heap.size w w' := by
  induction m with
  | zero =>
    intro T hT
    cases T with
    | node s r ks => rw [Tr.sz] at hT; omega
  | succ m ih =>
    intro T hT hW v w HT
    obtain ⟨s, r, ks, a, cap, rfl, rfl, hs, hr, hn, hc, HK⟩ := HT.open
    have hkid : ∀ k ∈ ks, k.sz < (Tr.node s r ks).sz := fun k hk => Tr.sz_kid hk
    have HIH := Lib.hid ih
    have HKD := Lib.hid hkid
    have HTT := Lib.hid hT
    have HWW := Lib.hid hW
    have hbA := (Below.refl w.heap.size w).alloc (Nat.le_refl _) (.cells #[.string s, .int .i64 r, .slice a ks.length cap] 28)
    have hB0 : BoxT (w.alloc (.cells #[.string s, .int .i64 r, .slice a ks.length cap] 28)) w.heap.size (.string s) (.int .i64 r) (.slice a ks.length cap) := blk_new _ _ rfl
    unfold maxLen at hn
    clear ih hkid hT HT hW
    obtain ⟨o0, o1, o2, of0, of1, of2⟩ := hB0.cells
    cases hsm : isSmallS s with
    | true =>
      have HY : Hid (yieldL (.node s r ks) = s.data.toList) := by show _ = _; rw [yieldL, if_pos hsm]
      go_enter Try.func54, Try.ntmps54
      go_wp2_with (go_at_call 60; refine (sSignSmall_any _ _).mono ?_; rintro e w' ⟨rfl, rfl⟩; rw [hsm])
      go_ret
      exact ⟨ret_string (by rw [HY.out, bytesOf_self]), hbA⟩
    | false =>
      have HY : Hid (yieldL (.node s r ks) = ks.flatMap yieldL) := by show _ = _; rw [yieldL, if_neg (by rw [hsm]; simp)]
      go_enter Try.func54, Try.ntmps54
      go_wp2_with (go_at_call 60; refine (sSignSmall_any _ _).mono ?_; rintro e w' ⟨rfl, rfl⟩; rw [hsm])
      clear o0 o1 o2 of0 of1 of2
      go_loopg [3, 4] (ks.length + 1) (fun gk nv iv wr => ∃ i : Nat, gk = ks.length + 1 - i ∧ i ≤ ks.length ∧ iv = .int .i64 (i : Int) ∧ nv = .string (bytesOf (yieldTo ks i)) ∧ BoxT wr w.heap.size (.string s) (.int .i64 r) (.slice a ks.length cap) ∧ Below w.heap.size w wr)
      case atStart => exact ⟨0, rfl, Nat.zero_le _, rfl, rfl, hB0, hbA⟩
      case round =>
        clear hB0 hbA
        obtain ⟨i, hgk, hi, rfl, rfl, hB, hb⟩ := hrel
        have HG := Lib.hid hgk
        obtain ⟨o0, o1, o2, of0, of1, of2⟩ := hB.cells
        clear hgk
        by_cases hlt : i < ks.length
        · have hil : (i : Int) < (ks.length : Int) := by omega
          obtain ⟨g, off, s', r', x, rfl, _, hg, c0, c1, c2, ht⟩ := (HK.below hb) i hlt
          obtain ⟨a3, n3, cap3, rfl⟩ := ht.third
          have HMS := Lib.hid (yieldTo_succ hlt)
          have hadd : ∀ W : World, (Op.stringOp .add (bytesOf (yieldTo ks i)) (bytesOf (yieldL ks[i]))).run Try.prog W = .ok (.string (bytesOf (cat (yieldTo ks i) (bytesOf (yieldL ks[i]))))) W := fun W => run_add_bytes _ _ (by have h1 := yieldTo_len (s := s) (r := r) (ks := ks) i; have h2 := yield_len _ ks[i] (Nat.le_refl _); have h3 := HKD.out ks[i] (List.getElem_mem hlt); have := HWW.out; rw [bytesOf_size]; omega) W
          go_wp2_with fail
          refine (HIH.out ks[i] (by have := HKD.out ks[i] (List.getElem_mem hlt); have := HTT.out; omega) (by have := HKD.out ks[i] (List.getElem_mem hlt); have := HWW.out; omega) _ _ ht).mono ?_
          rintro e w3 ⟨rfl, hb3⟩
          have hB3 := hB.below hb3
          have hBB := hb.trans (hb3.mono hb.size)
          clear hB hb hb3 c0 c1 c2 ht o0 o1 o2 of0 of1 of2
          go_wp2_with fail
          go_roundg (ks.length + 1 - (i + 1))
          case measure => have := HG.out; omega
          case rel => exact ⟨i + 1, rfl, by omega, by go_num, by rw [HMS.out], hB3, hBB⟩
        · have hil : ¬ (i : Int) < (ks.length : Int) := by omega
          obtain rfl : i = ks.length := by omega
          have hfin : yieldTo ks ks.length = ks.flatMap yieldL := by unfold yieldTo; rw [List.take_length]
          have HF := Lib.hid hfin
          clear hfin
          go_wp2_with fail
          go_ret
          exact ⟨ret_string (by rw [HY.out, ← HF.out]), hb⟩
theorem sTreeYield_any (T : Tr) (hW : T.sz ≤ 2000000) (v : Value) (w : World) (HT : TrIn w 0 v T) :
    Calls Try.prog 29 #[v] w fun e w' => e = .returned (.string (bytesOf (yieldL T))) ∧ Below w.heap.size w w' := by
  obtain ⟨s, r, ks, a, cap, rfl, hTe, _⟩ := HT.open
  clear hTe
  have hbA := (Below.refl w.heap.size w).alloc (Nat.le_refl _) (.cells #[.string s, .int .i64 r, .slice a ks.length cap] 28)
  have hB0 : BoxT (w.alloc (.cells #[.string s, .int .i64 r, .slice a ks.length cap] 28)) w.heap.size (.string s) (.int .i64 r) (.slice a ks.length cap) := blk_new _ _ rfl
  obtain ⟨o0, o1, o2, of0, of1, of2⟩ := hB0.cells
  go_enter Try.func29, Try.ntmps29
  go_wp2_with fail
  refine (l3Yield_any _ T (Nat.le_refl _) hW _ _ (HT.keep hbA)).mono ?_
  rintro e w3 ⟨rfl, hb3⟩
  go_wp2_with fail
  go_ret
  exact ⟨rfl, hbA.trans (hb3.mono hbA.size)⟩
end Go.Proofs.Ytpbpddbeofdpcab
