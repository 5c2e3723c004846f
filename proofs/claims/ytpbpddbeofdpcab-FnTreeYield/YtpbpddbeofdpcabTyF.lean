/- The walk of FnTreeYield. -/
import Derived.Test.YtpbpddbeofdpcabTyA
namespace Go.Proofs.Ytpbpddbeofdpcab
open Go.ChangeShapes Go.WideShapes Go.ChangeAt Go.RowKit Go.Deep
set_option maxRecDepth 100000
set_option linter.unusedVariables false
set_option maxHeartbeats 8000000 in
theorem treeYield_fn (a : Option Addr) (n cap : Nat) (w : World) (H : BytesAt w a n cap) :
    Calls Try.prog 6 #[.slice a n cap] w fun e w' => e = .returned (.bool true) ∧ Below w.heap.size w w' := by
  have hm := H.2.1
  have hn := H.1
  unfold maxLen at hm
  by_cases hbig : (1048576 : Int) < (n : Int)
  · go_enter Try.func6, Try.ntmps6
    go_wp2
    go_ret
    exact ⟨rfl, Below.refl _ _⟩
  · go_enter Try.func6, Try.ntmps6
    go_wp2_with fail
    refine (drawTreeYield_any a n cap _ H).mono ?_
    rintro e w2 ⟨tv, T, rfl, HT, hsz, hwt, hb2⟩
    obtain ⟨s, r, ks, ka, kc, rfl, rfl, hs, _⟩ := HT.tr.open
    obtain ⟨ks', eT, _, hml, HK⟩ := HT.kid
    simp only [Tr.node.injEq, true_and] at eT
    subst eT
    unfold maxLen at hml
    have bx := (Below.refl w2.heap.size w2).alloc (Nat.le_refl _) (.cells #[.string s, .int .i64 r, .slice ka ks.length kc] 28)
    have X3 := Box3.new w2 (.string s) (.int .i64 r) (.slice ka ks.length kc) 28
    have HT3 := HT.keep bx
    have c3 := Below.on hb2 bx (Nat.le_refl _)
    have K3 : ∀ i (hi : i < ks.length), KidAt (w2.alloc (.cells #[.string s, .int .i64 r, .slice ka ks.length kc] 28)) w.heap.size ka i ks[i] := fun i hi => (HK i hi).keep bx
    go_wp2_with fail
    refine (treeYield_any _ _ _ _ HT3 (by omega)).mono ?_
    rintro e w4 ⟨rfl, hb4⟩
    have X4 := X3.below hb4
    have HT4 := HT3.keep hb4
    have c4 := Below.on c3 hb4 (Nat.le_refl _)
    have K4 : ∀ i (hi : i < ks.length), KidAt w4 w.heap.size ka i ks[i] := fun i hi => (K3 i hi).keep hb4
    clear X3 HT3 c3 K3 hb4 bx HK HT hb2
    obtain ⟨x0, x1, x2⟩ := X4.2
    go_wp2_with fail
    refine (treeSize_any _ _ _ _ HT4 (by omega)).mono ?_
    rintro e w5 ⟨rfl, hb5⟩
    have X5 := X4.below hb5
    have HT5 := HT4.keep hb5
    have c5 := Below.on c4 hb5 (Nat.le_refl _)
    have K5 : ∀ i (hi : i < ks.length), KidAt w5 w.heap.size ka i ks[i] := fun i hi => (K4 i hi).keep hb5
    clear X4 HT4 c4 K4 hb5 x0 x1 x2
    obtain ⟨x0, x1, x2⟩ := X5.2
    go_wp2_with fail
    refine (sTreeYield_any _ (by omega) _ _ HT5.tr).mono ?_
    rintro e w6 ⟨rfl, hb6⟩
    have X6 := X5.below hb6
    have HT6 := HT5.keep hb6
    have c6 := Below.on c5 hb6 (Nat.le_refl _)
    have K6 : ∀ i (hi : i < ks.length), KidAt w6 w.heap.size ka i ks[i] := fun i hi => (K5 i hi).keep hb6
    clear X5 HT5 c5 K5 hb6 x0 x1 x2
    obtain ⟨x0, x1, x2⟩ := X6.2
    have HY := Lib.hid (yield_node s r ks)
    have HSM := Lib.hid (yield_small _ (.node s r ks) (Nat.le_refl _))
    have HLN := Lib.hid (yield_len _ (.node s r ks) (Nat.le_refl _))
    have HSA := Lib.hid (sizeTo_all s r ks)
    have HSL := Lib.hid (sizeTo_le s r ks)
    have HYL := Lib.hid (fun i => yldTo_len (s := s) (r := r) (ks := ks) i)
    generalize hyl : yieldL (.node s r ks) = yl at *
    generalize hZ : (Tr.node s r ks).sz = Z at *
    clear hyl hwt
    have heq1 : ((bytesOf yl).toList != (bytesOf yl).toList) = false := by simp
    have heq2 : ((bytesOf yl).toList == (bytesOf yl).toList) = true := by simp
    have CZ : ∀ v, TrIn v 0 (.agg #[.string s, .int .i64 r, .slice ka ks.length kc]) (.node s r ks) → Calls Try.prog 30 #[.agg #[.string s, .int .i64 r, .slice ka ks.length kc]] v fun e w' => e = .returned (.int .i64 (Z : Int)) ∧ Below v.heap.size v w' := fun v hv => by
      have := sTreeSize_any _ (.node s r ks) (Nat.le_refl _) (by rw [hZ]; omega) _ v hv
      rw [hZ] at this; exact this
    clear hZ
    go_wp2_with fail
    refine (CZ _ HT6.tr).mono ?_
    rintro e w7 ⟨rfl, hb7⟩
    have X7 := X6.below hb7
    have c7 := Below.on c6 hb7 (Nat.le_refl _)
    have K7 : ∀ i (hi : i < ks.length), KidAt w7 w.heap.size ka i ks[i] := fun i hi => (K6 i hi).keep hb7
    clear X6 HT6 c6 K6 hb7 x0 x1 x2 CZ heq1 heq2
    have HK7 := Lib.hid K7
    clear K7
    have hne : ((Z : Int) != (Z : Int)) = false := by simp
    go_wp2_with fail
    go_loopw [6, 7, 8] (fun al sz i wr => ∃ k : Nat, k ≤ ks.length ∧ i = .int .i64 k ∧ al = .string (bytesOf (yldTo ks k)) ∧ sz = .int .i64 (sizeTo ks k : Nat) ∧ Below w.heap.size w wr ∧ Below w7.heap.size w7 wr) (fun _ _ i _ => ks.length - (intOf i).toNat)
    case atStart => exact ⟨0, Nat.zero_le _, rfl, rfl, rfl, c7, Below.refl _ _⟩
    case round =>
      clear c7
      obtain ⟨k, hk, rfl, rfl, rfl, hb, hb'⟩ := hrel
      obtain ⟨x0, x1, x2⟩ := (X7.below hb').2
      by_cases hlt : k < ks.length
      · have hkl : (k : Int) < (ks.length : Int) := by omega
        obtain ⟨g, off, s1, r1, a1, n1, c1, e, hg, d0, d1, d2, HTk⟩ := (HK7.out k hlt).keep hb'
        subst e
        have hzk : sizeTo ks (k + 1) ≤ Z := HSL.out (k + 1)
        have HYS := Lib.hid (yldTo_succ hlt)
        have hss := sizeTo_succ hlt
        have hyl1 := HYL.out (k + 1)
        rw [HYS.out, List.length_append] at hyl1
        have hcat := run_add_bytes (P := Try.prog) (yldTo ks k) (bytesOf (yieldL ks[k])) (by rw [bytesOf_size]; omega)
        have HC : Hid (bytesOf (cat (yldTo ks k) (bytesOf (yieldL ks[k]))) = bytesOf (yldTo ks (k + 1))) := by
          show _ = _; rw [HYS.out]; rfl
        have CZk : ∀ v, TrP v w.heap.size (.agg #[.string s1, .int .i64 r1, .slice a1 n1 c1]) ks[k] → Calls Try.prog 13 #[.agg #[.string s1, .int .i64 r1, .slice a1 n1 c1]] v fun e w' => e = .returned (.int .i64 (ks[k].sz : Int)) ∧ Below v.heap.size v w' := fun v hv => treeSize_any _ _ _ _ hv (by omega)
        have CY : ∀ v, TrP v w.heap.size (.agg #[.string s1, .int .i64 r1, .slice a1 n1 c1]) ks[k] → Calls Try.prog 12 #[.agg #[.string s1, .int .i64 r1, .slice a1 n1 c1]] v fun e w' => e = .returned (.string (bytesOf (yieldL ks[k]))) ∧ Below v.heap.size v w' := fun v hv => treeYield_any _ _ _ _ hv (by omega)
        have HSZ : Hid (((sizeTo ks (k + 1) : Nat) : Int) = (sizeTo ks k : Nat) + (ks[k].sz : Int)) := by show _ = _; rw [hss]; simp
        have hsum : (sizeTo ks k : Int) + (ks[k].sz : Int) ≤ 488290 := by omega
        generalize ks[k].sz = z1 at *
        clear hss hyl1
        go_wp2_with fail
        refine (CY _ HTk).mono ?_
        rintro e w8 ⟨rfl, hb8⟩
        have X8 := (X7.below hb').below hb8
        have HT8 := HTk.keep hb8
        have e0 := (hb8.cell (p := ⟨g, off + k * 3, none⟩) hg).trans d0
        have e1 := (hb8.cell (p := ⟨g, off + k * 3 + 1, none⟩) hg).trans d1
        have e2 := (hb8.cell (p := ⟨g, off + k * 3 + 2, none⟩) hg).trans d2
        have b8 := Below.on hb hb8 (Nat.le_refl _)
        have b8' := Below.on hb' hb8 (Nat.le_refl _)
        clear x0 x1 x2 d0 d1 d2 HTk CY hb8
        obtain ⟨x0, x1, x2⟩ := X8.2
        go_wp2_with fail
        clear hcat
        refine (CZk _ HT8).mono ?_
        rintro e w9 ⟨rfl, hb9⟩
        have b9 := Below.on b8 hb9 (Nat.le_refl _)
        have b9' := Below.on b8' hb9 (Nat.le_refl _)
        clear x0 x1 x2 e0 e1 e2 HT8 CZk X8 b8 b8' hb9
        go_wp2_with fail
        go_roundw
        case rel => exact ⟨k + 1, by omega, by go_num, by rw [HC.out], by rw [HSZ.out], b9, b9'⟩
        case measure => simp [intOf]; omega
      · have hkn : k = ks.length := by omega
        have HSZ : Hid (sizeTo ks k = Z) := by show _ = _; rw [hkn]; exact HSA.out
        have hsz2 : ((Z : Int) == ((sizeTo ks k : Nat) : Int)) = true := by rw [HSZ.out]; simp
        have HYA : Hid (isSmallS s = false → yl = yldTo ks k) := fun h => by rw [HY.out, h, hkn]; unfold yldTo; rw [List.take_length]; rfl
        have HSJ : Hid (∀ j, j < (bytesOf yl).size → isSmallS ((bytesOf yl).extract j (j + 1)) = true) := fun j hj => small_at yl HSM.out j (by rwa [bytesOf_size] at hj)
        have HSS : Hid (isSmallS s = true → s = bytesOf yl) := fun h => by rw [HY.out, h]; exact (bytesOf_self s).symm
        have hnk : ¬ (k : Int) < (ks.length : Int) := by omega
        have hylz : (bytesOf yl).size ≤ 488290 := by rw [bytesOf_size]; have := HLN.out; omega
        clear hkn
        cases hsm : isSmallS s with
        | true =>
          have heqA : ((bytesOf yl).toList == s.toList) = true := by rw [← HSS.out hsm]; simp
          go_wp2_with (go_at_call 31; refine (signSmall_any _ _).mono ?_; rintro e w' ⟨rfl, rfl⟩; rw [hsm])
          clear x0 x1 x2
          go_loopw [9] (fun i wq => ∃ j : Nat, j ≤ (bytesOf yl).size ∧ i = .int .i64 j ∧ Below w.heap.size w wq) (fun i _ => (bytesOf yl).size - (intOf i).toNat)
          case atStart => exact ⟨0, Nat.zero_le _, rfl, hb⟩
          case round =>
            obtain ⟨j, hj, rfl, hbq⟩ := hrel
            by_cases hjl : j < (bytesOf yl).size
            · have hjl' : (j : Int) < ((bytesOf yl).size : Int) := by omega
              have hsj := HSJ.out j hjl
              go_wp2_with (go_at_call 31; refine (signSmall_any _ _).mono ?_; rintro e w' ⟨rfl, rfl⟩; rw [hsj])
              go_roundw
              case rel => exact ⟨j + 1, by omega, by go_num, hbq⟩
              case measure => simp [intOf]; omega
            · have hle : ((bytesOf yl).size : Int) ≤ (Z : Int) := by rw [bytesOf_size]; have := HLN.out; omega
              have hnj : ¬ (j : Int) < ((bytesOf yl).size : Int) := by omega
              go_wp2_with fail
              go_ret
              exact ⟨rfl, hbq⟩
        | false =>
          have heqA : ((bytesOf yl).toList == (bytesOf (yldTo ks k)).toList) = true := by rw [← HYA.out hsm]; simp
          go_wp2_with (go_at_call 31; refine (signSmall_any _ _).mono ?_; rintro e w' ⟨rfl, rfl⟩; rw [hsm])
          clear x0 x1 x2
          go_loopw [9] (fun i wq => ∃ j : Nat, j ≤ (bytesOf yl).size ∧ i = .int .i64 j ∧ Below w.heap.size w wq) (fun i _ => (bytesOf yl).size - (intOf i).toNat)
          case atStart => exact ⟨0, Nat.zero_le _, rfl, hb⟩
          case round =>
            obtain ⟨j, hj, rfl, hbq⟩ := hrel
            by_cases hjl : j < (bytesOf yl).size
            · have hjl' : (j : Int) < ((bytesOf yl).size : Int) := by omega
              have hsj := HSJ.out j hjl
              go_wp2_with (go_at_call 31; refine (signSmall_any _ _).mono ?_; rintro e w' ⟨rfl, rfl⟩; rw [hsj])
              go_roundw
              case rel => exact ⟨j + 1, by omega, by go_num, hbq⟩
              case measure => simp [intOf]; omega
            · have hle : ((bytesOf yl).size : Int) ≤ (Z : Int) := by rw [bytesOf_size]; have := HLN.out; omega
              have hnj : ¬ (j : Int) < ((bytesOf yl).size : Int) := by omega
              go_wp2_with fail
              go_ret
              exact ⟨rfl, hbq⟩
end Go.Proofs.Ytpbpddbeofdpcab
