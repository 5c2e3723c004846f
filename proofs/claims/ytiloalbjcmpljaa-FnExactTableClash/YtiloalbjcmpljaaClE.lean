/- The model's TableClash; marks of a table. -/
import Derived.Test.YtiloalbjcmpljaaClD
namespace Go.Proofs.Ytiloalbjcmpljaa
open Go.ChangeShapes Go.WideShapes Go.ChangeAt Go.RowKit Go.Deep
set_option maxRecDepth 100000
theorem clashTo_skip {xs ys : List TriT} {k : Nat} (h : k < ys.length) (hc : ¬ 1 ≤ cN xs ys k (ys[k].1, ys[k].2.1)) : clashTo xs ys (k + 1) = clashTo xs ys k := clashTo_no h (by omega)
theorem any_take_succ {ys : List TriT} {j : Nat} (h : j < ys.length) (p : TriT → Bool) : (ys.take (j + 1)).any p = ((ys.take j).any p || p ys[j]) := by
  rw [List.take_succ_eq_append_getElem h, List.any_append, List.any_cons, List.any_nil, Bool.or_false]
set_option maxHeartbeats 4000000 in
theorem sTableClash_any (m : Int) (a : Option Addr) (cap : Nat) (xs : List TriT) (c : Option Addr) (cup : Nat) (ys : List TriT) (w : World) (HX : TrisAt w a xs) (HY : TrisAt w c ys) (hl : ys.length ≤ 1048576) :
    Calls Try.prog 20 #[tabV m a xs.length cap c ys.length cup] w fun e w' => (∃ v, e = .returned v ∧ w'.ownsRow w.heap.size 77 2 v (clashTo xs ys ys.length).length (flatD (clashTo xs ys ys.length))) ∧ Below w.heap.size w w' := by
  have hn1 := HX.1
  have hn2 := HY.1
  unfold maxLen at hn1 hn2
  have hb1 := ((Below.refl w.heap.size w).alloc (Nat.le_refl _) (.cells #[.int .i64 m, .slice a xs.length cap, .slice c ys.length cup] 39)).alloc (by simp) (.cells #[] 77)
  have X1 := (BoxT.new w (.int .i64 m) (.slice a xs.length cap) (.slice c ys.length cup) 39).old (.cells #[] 77)
  have O1 : ((w.alloc (.cells #[.int .i64 m, .slice a xs.length cap, .slice c ys.length cup] 39)).alloc (.cells #[] 77)).ownsRow (w.heap.size + 1) 77 2 (.slice (some ⟨w.heap.size + 1, 0, none⟩) 0 0) 0 [] := by
    have := World.ownsRow_made (base := w.heap.size + 1) (e := 77) (size := 2) (w.alloc (.cells #[.int .i64 m, .slice a xs.length cap, .slice c ys.length cup] 39)) #[] 0 (by simp) (Nat.zero_le _) (by simp)
    simpa using this
  go_enter Try.func20, Try.ntmps20
  go_wp2_with fail
  go_loopw [3, 4] (fun o i wr => ∃ k : Nat, k ≤ ys.length ∧ i = .int .i64 k ∧ (∃ av cv, o = .slice av (clashTo xs ys k).length cv ∧ wr.ownsRow (w.heap.size + 1) 77 2 (.slice av (clashTo xs ys k).length cv) (clashTo xs ys k).length (flatD (clashTo xs ys k))) ∧ Below w.heap.size w wr ∧ BoxT wr w.heap.size (.int .i64 m) (.slice a xs.length cap) (.slice c ys.length cup)) (fun _ i _ => ys.length - (intOf i).toNat)
  case atStart => exact ⟨0, Nat.zero_le _, rfl, ⟨_, _, rfl, O1⟩, hb1, X1⟩
  case round =>
    clear hb1 X1 O1
    obtain ⟨k, hk, rfl, ⟨av, cv, rfl, HO⟩, hb, X⟩ := hrel
    have hsz := hb.size
    have hbx := X.1
    obtain ⟨x0, x1, x2⟩ := X.2
    by_cases hlt : k < ys.length
    · obtain ⟨z, b, off, e, hbb, c0, c1, c2⟩ := (HY.below hb (Nat.le_refl _)).2 k hlt
      have hcs := e
      subst e
      have hkl : (k : Int) < (ys.length : Int) := by omega
      have hb3 := (Below.refl wr.heap.size wr).alloc (Nat.le_refl _) (.cells #[.int .i64 ys[k].1, .string ys[k].2.1, .int .i64 ys[k].2.2] 63)
      have X3 := X.below hb3
      have E3 := BoxT.new wr (.int .i64 ys[k].1) (.string ys[k].2.1) (.int .i64 ys[k].2.2) 63
      have HO3 := owns_below HO hb3
      have hc3 := Below.on hb hb3 (Nat.le_refl _)
      clear hb3 X HO hb
      obtain ⟨y0, y1, y2⟩ := X3.2
      go_wp2_with fail
      refine (sTableGo_any m _ _ xs _ _ ys ys[k].1 ys[k].2.1 _ (HX.below hc3 (Nat.le_refl _))).mono ?_
      rintro e w4 ⟨rfl, hb4⟩
      have X4 := X3.below hb4
      have E4 := E3.below hb4
      have HO4 := owns_below HO3 hb4
      have hc4 := Below.on hc3 hb4 (Nat.le_refl _)
      clear hb4 X3 E3 HO3 hc3 x0 x1 x2 y0 y1 y2
      have hany : Hid ((goT xs ys[k].1 ys[k].2.1).2 = xs.any (hitD (ys[k].1, ys[k].2.1))) := goT_any _ _ _
      generalize (goT xs ys[k].1 ys[k].2.1).1 = g1 at *
      generalize (goT xs ys[k].1 ys[k].2.1).2 = g2 at *
      have hsz4 := hc4.size
      go_wp2_with fail
      go_loopw [7, 8] (fun mv jv wr2 => ∃ j : Nat, j ≤ k ∧ jv = .int .i64 j ∧ (∃ bb, mv = .bool bb ∧ Hid (bb = (g2 || (ys.take j).any (hitD (ys[k].1, ys[k].2.1))))) ∧ Below w4.heap.size w4 wr2) (fun _ jv _ => k - (intOf jv).toNat)
      case atStart => exact ⟨0, Nat.zero_le _, rfl, ⟨g2, rfl, by show _ = _; simp⟩, Below.refl _ _⟩
      case round =>
        obtain ⟨j, hj, rfl, ⟨bb, rfl, HB⟩, hb5⟩ := hrel
        have X5 := X4.below hb5
        have E5 := E4.below hb5
        obtain ⟨x0, x1, x2⟩ := X5.2
        obtain ⟨e0, e1, e2⟩ := E5.2
        have hc5 := Below.on hc4 hb5 (Nat.le_refl _)
        by_cases hjk : j < k
        · obtain ⟨z', b', off', e', hbb', c0', c1', c2'⟩ := (HY.below hc5 (Nat.le_refl _)).2 j (by omega)
          simp only [Option.some.injEq, Addr.mk.injEq] at e'
          obtain ⟨rfl, rfl, _⟩ := e'
          have hjl : (j : Int) < (ys.length : Int) := by omega
          have hjk' : (j : Int) < (k : Int) := by omega
          have HS := Lib.hid (any_take_succ (ys := ys) (j := j) (by omega) (hitD (ys[k].1, ys[k].2.1)))
          have HH : Hid (hitD (ys[k].1, ys[k].2.1) ys[j] = ((ys[j].1 == ys[k].1) && (ys[j].2.1.toList == ys[k].2.1.toList))) := rfl
          clear c0 c1 c2
          cases bb with
          | true =>
            go_wp2_with fail
            go_quiet (fail)
            go_wp2_with fail
            go_roundw
            case rel => exact ⟨j + 1, by omega, by go_num, ⟨true, rfl, by show _ = _; rw [HS.out, ← Bool.or_assoc, ← HB.out]; rfl⟩, hb5.trans ((below_drewN _ _).mono hb5.size)⟩
            case measure => simp [intOf]; omega
          | false =>
            cases h1 : (ys[j].1 == ys[k].1) with
            | false =>
              go_wp2_with fail
              go_quiet (fail)
              go_wp2_with fail
              go_roundw
              case rel => exact ⟨j + 1, by omega, by go_num, ⟨false, rfl, by show _ = _; rw [HS.out, ← Bool.or_assoc, ← HB.out, HH.out, h1]; rfl⟩, hb5.trans ((below_drewN _ _).mono hb5.size)⟩
              case measure => simp [intOf]; omega
            | true =>
              cases h2 : (ys[j].2.1.toList == ys[k].2.1.toList)
              all_goals
                go_wp2_with fail
                go_quiet (fail)
                go_wp2_with fail
                go_roundw
                case rel => exact ⟨j + 1, by omega, by go_num, ⟨_, rfl, by show _ = _; rw [HS.out, ← Bool.or_assoc, ← HB.out, HH.out, h1, h2]; rfl⟩, hb5.trans ((below_drewN _ _).mono hb5.size)⟩
                case measure => simp [intOf]; omega
        · obtain rfl : j = k := by omega
          have hjk' : ¬ (j : Int) < (j : Int) := by omega
          have HO5 := owns_below HO4 hb5
          have HC : Hid (bb = decide (1 ≤ cN xs ys j (ys[j].1, ys[j].2.1))) := by show _ = _; rw [HB.out, hany.out, any_cN]
          clear c0 c1 c2 X4 E4 HO4 hc4 hb5 HB hany
          cases bb with
          | false =>
            have HK := Lib.hid (clashTo_skip (xs := xs) hlt (by have := HC.out; intro h; rw [decide_eq_true h] at this; cases this))
            go_wp2_with fail
            go_roundw
            case rel => exact ⟨j + 1, by omega, by go_num, ⟨av, cv, by rw [HK.out], by rw [HK.out]; exact HO5⟩, hc5, X5⟩
            case measure => simp [intOf]; omega
          | true =>
            have HK := Lib.hid (clashTo_add (xs := xs) hlt (by have := HC.out; exact of_decide_eq_true this.symm))
            have hcl := clashTo_len xs ys j
            have hsz5 := hc5.size
            go_wp2_with fail
            refine (l6Add_any av cv _ (ys[j].1, ys[j].2.1) (w.heap.size + 1) _ HO5 ?_ (by omega)).mono ?_
            · have := X5.1; omega
            rintro e w7 ⟨⟨a7, c7, rfl, HO7⟩, hb7⟩
            rw [← HK.out] at HO7 ⊢
            have X7 : BoxT w7 w.heap.size (.int .i64 m) (.slice a xs.length cap) (.slice (some ⟨b, off, none⟩) ys.length cup) := by
              refine ⟨?_, ?_, ?_, ?_⟩
              · exact Nat.lt_of_lt_of_le X5.1 hb7.size
              · exact (hb7.cell (p := ⟨w.heap.size, 0, none⟩) (by show w.heap.size < _; omega)).trans X5.2.1
              · exact (hb7.cell (p := ⟨w.heap.size, 1, none⟩) (by show w.heap.size < _; omega)).trans X5.2.2.1
              · exact (hb7.cell (p := ⟨w.heap.size, 2, none⟩) (by show w.heap.size < _; omega)).trans X5.2.2.2
            have hc7 := hc5.trans (hb7.mono (by omega))
            clear HO5 hb7 X5 E5 x0 x1 x2 e0 e1 e2 hc5
            go_wp2_with fail
            go_roundw
            case rel => exact ⟨j + 1, by omega, by go_num, ⟨a7, c7, rfl, HO7⟩, hc7, X7⟩
            case measure => simp [intOf]; omega
    · obtain rfl : k = ys.length := by omega
      go_wp2_with fail
      go_ret
      refine ⟨⟨_, rfl, HO.1, ?_⟩, hb⟩
      rcases HO.2 with h0 | ⟨g, cp, cur, hv, hg, hh⟩
      · exact .inl h0
      · exact .inr ⟨g, cp, cur, hv, by omega, hh⟩
end Go.Proofs.Ytiloalbjcmpljaa
