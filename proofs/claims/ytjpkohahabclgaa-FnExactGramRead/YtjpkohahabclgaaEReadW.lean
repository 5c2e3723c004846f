/- The walk of FnExactGramRead. -/
import Derived.Test.YtjpkohahabclgaaReadD
import Derived.Test.YtjpkohahabclgaaMarkA
namespace Go.Proofs.Ytjpkohahabclgaa
open Go.ChangeShapes Go.WideShapes Go.ChangeAt Go.RowKit
set_option maxRecDepth 100000
theorem rdR_len (t : List UInt8) : (rdR t).length ≤ 9 := by
  unfold rdR
  split
  · exact linesR_len 9 _
  · simp
set_option maxHeartbeats 8000000 in
theorem eRead_law (s : ByteArray) (w : World) (hs : s.size ≤ maxLen) :
    Calls Try.prog 3 #[.string s] w fun e w' => e = .returned (.bool true) ∧ Below w.heap.size w w' := by
  unfold maxLen at hs
  by_cases hbz : (1048576 : Int) < (s.size : Int)
  · go_enter Try.func3, Try.ntmps3
    go_wp2
    go_ret
    exact ⟨rfl, Below.refl _ _⟩
  obtain ⟨t, rfl⟩ : ∃ t, s = bytesOf t := ⟨s.data.toList, (bytesOf_self s).symm⟩
  have ht : t.length ≤ 100000000 := by rw [bytesOf_size] at hbz; omega
  have hl9 := rdR_len t
  have hE := eqG_refl (rdS t) (rdR t)
  have hne : (goodT t != goodT t) = false := by simp
  go_enter Try.func3, Try.ntmps3
  go_wp2_with fail
  refine (sGramRead_any t _ ht).mono ?_
  rintro e w1 ⟨av, cv, rfl, hcv, HV, hb1⟩
  -- the variable w0
  have hbx := (Below.refl w1.heap.size w1).alloc (Nat.le_refl _) (.cells #[.string (rdS t), .slice av (rdR t).length cv] 24)
  have hV2 : GB (w1.alloc (.cells #[.string (rdS t), .slice av (rdR t).length cv] 24)) w1.heap.size 24 (rdS t) (.slice av (rdR t).length cv) := blk_new _ _ rfl
  have HV2 := HV.below hbx (Nat.le_refl _)
  have c2 := Below.on hb1 hbx (Nat.le_refl _)
  clear HV hb1 hbx
  go_wp2_with fail
  generalize w1.alloc (.cells #[.string (rdS t), .slice av (rdR t).length cv] 24) = w2 at *
  have lV := hV2.lt
  have s2 := c2.size
  refine (gramRead_any t _ ht).mono ?_
  rintro e w3 ⟨au, cu, rfl, hcu, HU, hO, hb3⟩
  have hV3 := hV2.below hb3
  have HV3 := HV2.below hb3 (Nat.le_refl _)
  have c3 := Below.on c2 hb3 (Nat.le_refl _)
  have s3 := hb3.size
  -- the variable g0
  have hbx := (Below.refl w3.heap.size w3).alloc (Nat.le_refl _) (.cells #[.string (rdS t), .slice au (rdR t).length cu] 24)
  have hG4 : GB (w3.alloc (.cells #[.string (rdS t), .slice au (rdR t).length cu] 24)) w3.heap.size 24 (rdS t) (.slice au (rdR t).length cu) := blk_new _ _ rfl
  have hV4 := hV3.below hbx
  have HU4 := HU.below hbx (Nat.le_refl _)
  have P4 := (hO.row' rfl).below hbx
  have c4 := Below.on c3 hbx (Nat.le_refl _)
  have d4 := Below.on hb3 hbx (Nat.le_refl _)
  clear hV2 hV3 HV3 c2 c3 HU hO hbx hb3
  obtain ⟨g0, g1⟩ := hG4.cells
  obtain ⟨v0, v1⟩ := hV4.cells
  go_wp2_with fail
  generalize w3.alloc (.cells #[.string (rdS t), .slice au (rdR t).length cu] 24) = w4 at *
  have lG := hG4.lt
  refine (eqGram_any _ _ _ _ _ _ (rdR t) (rdR t) _ HU4 (HV2.below d4 (Nat.le_refl _))).mono ?_
  rintro e w5 ⟨rfl, hb5⟩
  rw [hE]
  have hV5 := hV4.below hb5
  have hG5 := hG4.below hb5
  have P5 := P4.below hb5
  have c5 := Below.on c4 hb5 (Nat.le_refl _)
  have d5 := Below.on d4 hb5 (Nat.le_refl _)
  have s5 := hb5.size
  clear hV4 hG4 P4 c4 d4 HU4 hb5 g0 g1 v0 v1
  obtain ⟨g0, g1⟩ := hG5.cells
  go_wp2_with fail
  refine (markGram_any _ _ _ _ 1 w2.heap.size w3.heap.size _ P5 (by omega) (by omega) (by omega) (by omega)).mono ?_
  rintro e w6 ⟨rfl, hM6, bn, hn1, hn2, ho⟩
  have hV6 := hV5.only ho (by omega)
  have hG6 := hG5.only ho (by omega)
  have c5s := c5.size
  have c6 : Below w.heap.size w w6 := c5.trans (ho.below _ (by have := c5.size; omega) (by omega))
  have d6 : Below w2.heap.size w2 w6 := d5.trans (ho.below _ (by omega) (by omega))
  clear hV5 hG5 P5 c5 d5 ho g0 g1
  obtain ⟨g0, g1⟩ := hG6.cells
  have hq0 : ¬ ((1 + (rdR t).length * 2 : Nat) : Int) < 0 := by omega
  go_wp2_with fail
  refine (heldGram_any _ _ _ _ 1 _ hM6 (by omega) (by omega) (by omega)).mono ?_
  rintro e w7 ⟨rfl, hb7⟩
  have hV7 := hV6.below hb7
  have hG7 := hG6.below hb7
  have hM7 := hM6.below hb7
  have c7 := Below.on c6 hb7 (Nat.le_refl _)
  have d7 := Below.on d6 hb7 (Nat.le_refl _)
  clear hV6 hG6 hM6 c6 d6 hb7 g0 g1
  go_wp2_with fail
  refine (gramRead_any t _ ht).mono ?_
  rintro e w8 ⟨ah, ch, rfl, hch, HH, _, hb8⟩
  have hV8 := hV7.below hb8
  have hG8 := hG7.below hb8
  have hM8 := hM7.below hb8
  have c8 := Below.on c7 hb8 (Nat.le_refl _)
  have d8 := Below.on d7 hb8 (Nat.le_refl _)
  -- the variable h0
  have hbx := (Below.refl w8.heap.size w8).alloc (Nat.le_refl _) (.cells #[.string (rdS t), .slice ah (rdR t).length ch] 24)
  have hH9 : GB (w8.alloc (.cells #[.string (rdS t), .slice ah (rdR t).length ch] 24)) w8.heap.size 24 (rdS t) (.slice ah (rdR t).length ch) := blk_new _ _ rfl
  have hV9 := hV8.below hbx
  have hG9 := hG8.below hbx
  have hM9 := hM8.below hbx
  have HH9 := HH.below hbx (Nat.le_refl _)
  have c9 := Below.on c8 hbx (Nat.le_refl _)
  have d9 := Below.on d8 hbx (Nat.le_refl _)
  clear hV7 hV8 hG7 hG8 hM7 hM8 HH c7 c8 d7 d8 hbx hb8
  obtain ⟨h0, h1⟩ := hH9.cells
  obtain ⟨v0, v1⟩ := hV9.cells
  go_wp2_with fail
  generalize w8.alloc (.cells #[.string (rdS t), .slice ah (rdR t).length ch] 24) = w9 at *
  refine (eqGram_any _ _ _ _ _ _ (rdR t) (rdR t) _ HH9 (HV2.below d9 (Nat.le_refl _))).mono ?_
  rintro e wh ⟨rfl, hbh⟩
  rw [hE]
  have hGh := hG9.below hbh
  have hMh := hM9.below hbh
  have ch2 := Below.on c9 hbh (Nat.le_refl _)
  clear hV9 hG9 hM9 c9 d9 hbh h0 h1 v0 v1 hH9 HH9
  obtain ⟨g0, g1⟩ := hGh.cells
  go_wp2_with fail
  refine (heldGram_any _ _ _ _ 1 _ hMh (by omega) (by omega) (by omega)).mono ?_
  rintro e wi ⟨rfl, hbi⟩
  go_wp2
  go_ret
  exact ⟨rfl, Below.on ch2 hbi (Nat.le_refl _)⟩
end Go.Proofs.Ytjpkohahabclgaa
