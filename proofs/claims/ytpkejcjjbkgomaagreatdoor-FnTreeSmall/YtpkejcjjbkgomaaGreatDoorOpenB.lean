/- The walk of FnTreeSmall. -/
import Derived.Test.YtpkejcjjbkgomaaGreatDoorTsA
import Derived.Test.YtpkejcjjbkgomaaGreatDoorTsB
import Derived.Test.YtpkejcjjbkgomaaGreatDoorNuE
import Derived.Test.YtpkejcjjbkgomaaGreatDoorYldB
import Derived.Test.YtpkejcjjbkgomaaGreatDoorRows
import Derived.Deep.DeepCutAuto
import Derived.Deep.RegionHeld3
import Derived.Test.YtpkejcjjbkgomaaGreatDoorLawB
import Derived.Deep.SlicePairs
import Derived.Lib.SmallJoins
import Derived.OpenShut
import Derived.ShutString
import Derived.ChangeOld
import Derived.Below
import Derived.Test.YtpkejcjjbkgomaaGreatDoorDrawH
namespace Go.Proofs.YtpkejcjjbkgomaaGreatDoor
open Go.ChangeShapes Go.WideShapes Go.ChangeAt Go.RowKit Go.Deep
set_option maxRecDepth 100000
theorem leaf_yield : bytesOf (yieldL leafB) = ⟨#[98]⟩ := by
  unfold leafB
  rw [yieldL, if_pos leaf_small]
  rfl
theorem keepGT {w : World} {b c : Nat} {v0 v1 u0 u1 u2 : Value} (X : GB2 w b v0 v1) (Y : BoxT w c u0 u1 u2) : w.cell? ⟨b, 0, none⟩ = some v0 ∧ w.cell? ⟨b, 1, none⟩ = some v1 ∧ w.cell? ⟨c, 0, none⟩ = some u0 ∧ w.cell? ⟨c, 1, none⟩ = some u1 ∧ w.cell? ⟨c, 2, none⟩ = some u2 :=
  ⟨X.cells.1, X.cells.2, Y.cells.1, Y.cells.2.1, Y.cells.2.2.1⟩
theorem GB2.below {w w' : World} {b : Nat} {v0 v1 : Value} (h : GB2 w b v0 v1) (hb : Below w.heap.size w w') : GB2 w' b v0 v1 := (hb.block _ h.lt).trans h
set_option maxHeartbeats 4000000 in
theorem treeSmall_law (p : Option Addr) (n cp : Nat) (w : World) (H : BytesAt w p n cp) (hp : PowB w.heap.size w) :
    Calls Tryz.prog 3 #[.slice p n cp] w fun e w' => e = .returned (.bool true) ∧ Below w.heap.size w w' := by
  have HP := Lib.hid hp
  clear hp
  by_cases h1 : (1048576 : Int) < (n : Int)
  · go_enter Tryz.func3, Tryz.ntmps3
    go_wp2
    go_ret
    exact ⟨rfl, Below.refl _ _⟩
  go_enter Tryz.func3, Tryz.ntmps3
  go_wp2_with fail
  refine (drawTreeRead_any p n cp _ H).mono ?_
  rintro e w2 ⟨gv, x, st, rs, rfl, ⟨b, off, cg, rfl, hcg, HU, _, _, _, _⟩, hb2⟩
  have al := ((Below.refl w2.heap.size w2).alloc (Nat.le_refl _) (.cells #[.string st, .slice (some ⟨b, off, none⟩) rs.length cg] 25)).alloc (by simp) (.cells #[.string ⟨#[98]⟩, .int .i64 (-1), .slice none 0 0] 30)
  have G3 : GB2 ((w2.alloc (.cells #[.string st, .slice (some ⟨b, off, none⟩) rs.length cg] 25)).alloc (.cells #[.string ⟨#[98]⟩, .int .i64 (-1), .slice none 0 0] 30)) w2.heap.size (.string st) (.slice (some ⟨b, off, none⟩) rs.length cg) := (blk_old _ _ (by simp)).trans (blk_new _ _ rfl)
  have L3 : BoxT ((w2.alloc (.cells #[.string st, .slice (some ⟨b, off, none⟩) rs.length cg] 25)).alloc (.cells #[.string ⟨#[98]⟩, .int .i64 (-1), .slice none 0 0] 30)) (w2.heap.size + 1) (.string ⟨#[98]⟩) (.int .i64 (-1)) (.slice none 0 0) := blk_new _ _ (by simp)
  have U3 := HU.below al (Nat.le_refl _)
  have B3 := Below.on hb2 al (Nat.le_refl _)
  have C1 := Lib.hid (treeRead_leaf st (some ⟨b, off, none⟩) cg rs _ U3 hcg)
  clear hb2 al HU
  obtain ⟨g0, g1⟩ := G3.cells
  go_wp2_with fail
  refine C1.out.mono ?_
  rintro e w4 ⟨rfl, hb4⟩
  have G4 := G3.below hb4
  have L4 := L3.below hb4
  have U4 := U3.below hb4 (Nat.le_refl _)
  have B4 := Below.on B3 hb4 (Nat.le_refl _)
  clear C1 G3 L3 U3 B3 hb4 g0 g1
  cases hok : gramOkB st rs with
  | false =>
    have HK := Lib.hid hok
    clear hok
    have al := (Below.refl w4.heap.size w4).alloc (Nat.le_refl _) (.cells #[.string ⟨#[]⟩, .int .i64 0, .slice none 0 0] 30)
    have X5 : BoxT (w4.alloc (.cells #[.string ⟨#[]⟩, .int .i64 0, .slice none 0 0] 30)) w4.heap.size (.string ⟨#[]⟩) (.int .i64 0) (.slice none 0 0) := blk_new _ _ rfl
    have G5 := G4.below al
    have L5 := L4.below al
    have U5 := U4.below al (Nat.le_refl _)
    have B5 := Below.on B4 al (Nat.le_refl _)
    have C2 := Lib.hid (sTreeRead_leaf st (some ⟨b, off, none⟩) cg rs _ U5 hcg)
    clear al G4 L4 U4 B4
    obtain ⟨g0, g1⟩ := G5.cells
    unfold leafR zeroLT
    go_wp2_with fail
    refine C2.out.mono ?_
    rintro e w6 ⟨rfl, hb6⟩
    rw [HK.out]
    have al := (Below.refl w6.heap.size w6).alloc (Nat.le_refl _) (.cells #[.string ⟨#[]⟩, .int .i64 0, .slice none 0 0] 30)
    have G7 := (G5.below hb6).below al
    have L7 := (L5.below hb6).below al
    have X7 := (X5.below hb6).below al
    have U7 := (U5.below hb6 (Nat.le_refl _)).below al (Nat.le_refl _)
    have B7 := Below.on (Below.on B5 hb6 (Nat.le_refl _)) al (Nat.le_refl _)
    clear C2 G5 L5 U5 B5 X5 hb6 al g0 g1
    unfold leafR zeroLT
    go_upto_region 7 with fail
    generalize w6.alloc (.cells #[.string ⟨#[]⟩, .int .i64 0, .slice none 0 0] 30) = w7 at *
    have CA1 : Calls Tryz.prog 8 #[.agg #[.string st, .slice (some ⟨b, off, none⟩) rs.length cg]] w7.drew fun e w' => e = .returned (.bool false) ∧ Below w7.heap.size w7 w' := (sGramOk_any st (some ⟨b, off, none⟩) cg rs w7.drew U7 hcg).mono fun e w' h => ⟨by rw [h.1, HK.out], below_of_drew h.2⟩
    have CA2 : ∀ w8, Below w7.heap.size w7 w8 → Calls Tryz.prog 9 #[.agg #[.string st, .slice (some ⟨b, off, none⟩) rs.length cg], .agg #[.string ⟨#[98]⟩, .int .i64 (-1), .slice none 0 0]] w8 fun e w' => e = .returned (.bool false) ∧ Below w7.heap.size w7 w' := fun w8 hb => (treeOk_any st (some ⟨b, off, none⟩) cg rs leafB leafV w8 (U7.below hb (Nat.le_refl _)) hcg (leaf_in _ 0).tr (by rw [leaf_sz]; omega)).mono fun e w' h => ⟨by rw [h.1, leafB_ok, HK.out], Below.on hb h.2 (Nat.le_refl _)⟩
    have CA3 : ∀ w8, Below w7.heap.size w7 w8 → Calls Tryz.prog 8 #[.agg #[.string st, .slice (some ⟨b, off, none⟩) rs.length cg]] w8 fun e w' => e = .returned (.bool false) ∧ Below w7.heap.size w7 w' := fun w8 hb => (sGramOk_any st (some ⟨b, off, none⟩) cg rs w8 (U7.below hb (Nat.le_refl _)) hcg).mono fun e w' h => ⟨by rw [h.1, HK.out], Below.on hb h.2 (Nat.le_refl _)⟩
    have KP : ∀ wx, Below w7.heap.size w7 wx → wx.cell? ⟨w2.heap.size, 0, none⟩ = some (.string st) ∧ wx.cell? ⟨w2.heap.size, 1, none⟩ = some (.slice (some ⟨b, off, none⟩) rs.length cg) ∧ wx.cell? ⟨w2.heap.size + 1, 0, none⟩ = some (.string ⟨#[98]⟩) ∧ wx.cell? ⟨w2.heap.size + 1, 1, none⟩ = some (.int .i64 (-1)) ∧ wx.cell? ⟨w2.heap.size + 1, 2, none⟩ = some (.slice none 0 0) := fun wx hb => keepGT (G7.below hb) (L7.below hb)
    have HCA1 := Lib.hid CA1
    have HCA2 := Lib.hid CA2
    have HCA3 := Lib.hid CA3
    have HKP := Lib.hid KP
    clear CA1 CA2 CA3 KP
    obtain ⟨g0, g1⟩ := G7.cells
    obtain ⟨l0, l1, l2, _, _, _⟩ := L7.cells
    go_region_held3 (fun w' => w'.cell? ⟨w2.heap.size, 0, none⟩ = some (.string st) ∧ w'.cell? ⟨w2.heap.size, 1, none⟩ = some (.slice (some ⟨b, off, none⟩) rs.length cg) ∧ w'.cell? ⟨w2.heap.size + 1, 0, none⟩ = some (.string ⟨#[98]⟩) ∧ w'.cell? ⟨w2.heap.size + 1, 1, none⟩ = some (.int .i64 (-1)) ∧ w'.cell? ⟨w2.heap.size + 1, 2, none⟩ = some (.slice none 0 0))
      (first
        | go_keep
        | with_reducible exact HKP.out _ hb10
        | with_reducible exact HKP.out _ hb9
        | with_reducible exact HKP.out _ hb8
        | fail)
      (first
        | (go_at_call 8; have _ := tokB; (with_reducible refine (HCA3.out w9 hb9).mono ?_); rintro e w10 ⟨rfl, hb10⟩)
        | (go_at_call 9; (with_reducible refine (HCA2.out w8 hb8).mono ?_); rintro e w9 ⟨rfl, hb9⟩; have tokB := True.intro)
        | (go_at_call 8; (with_reducible refine HCA1.out.mono ?_); rintro e w8 ⟨rfl, hb8⟩)
        | fail)
    have B10 := Below.on B7 hb10 (Nat.le_refl _)
    have L10 := L7.below hb10
    have X10 := X7.below hb10
    clear HCA1 HCA2 HCA3 HKP g0 g1 l0 l1 l2 G7 L7 U7 X7 B7 hb8 hb9 hb10
    obtain ⟨l0, l1, l2, _, _, _⟩ := L10.cells
    have CY := Lib.hid (treeYield_any leafB leafV w10 0 (leaf_in _ 0) (by rw [leaf_sz]; omega))
    have hbb : (([98] : List UInt8) == [98]) = true := by decide
    go_wp2_with fail
    refine CY.out.mono ?_
    rintro e w11 ⟨rfl, hb11⟩
    rw [leaf_yield]
    have B11 := Below.on B10 hb11 (Nat.le_refl _)
    have L11 := L10.below hb11
    have X11 := X10.below hb11
    clear CY B10 L10 X10 hb11 l0 l1 l2
    obtain ⟨l0, l1, l2, _, _, _⟩ := L11.cells
    have CS := Lib.hid (treeSize_any leafB leafV w11 0 (leaf_in _ 0) (by rw [leaf_sz]; omega))
    go_wp2_with fail
    refine CS.out.mono ?_
    rintro e w12 ⟨rfl, hb12⟩
    rw [leaf_sz]
    have B12 := Below.on B11 hb12 (Nat.le_refl _)
    have L12 := L11.below hb12
    have X12 := X11.below hb12
    clear CS B11 L11 X11 hb12 l0 l1 l2
    go_wp2_with fail
    go_ret
    exact ⟨rfl, B12⟩
  | true =>
    have HK := Lib.hid hok
    clear hok
    have al := (Below.refl w4.heap.size w4).alloc (Nat.le_refl _) (.cells #[.string ⟨#[98]⟩, .int .i64 (-1), .slice none 0 0] 30)
    have X5 : BoxT (w4.alloc (.cells #[.string ⟨#[98]⟩, .int .i64 (-1), .slice none 0 0] 30)) w4.heap.size (.string ⟨#[98]⟩) (.int .i64 (-1)) (.slice none 0 0) := blk_new _ _ rfl
    have G5 := G4.below al
    have L5 := L4.below al
    have U5 := U4.below al (Nat.le_refl _)
    have B5 := Below.on B4 al (Nat.le_refl _)
    have C2 := Lib.hid (sTreeRead_leaf st (some ⟨b, off, none⟩) cg rs _ U5 hcg)
    clear al G4 L4 U4 B4
    obtain ⟨g0, g1⟩ := G5.cells
    unfold leafR leafV
    go_wp2_with fail
    refine C2.out.mono ?_
    rintro e w6 ⟨rfl, hb6⟩
    rw [HK.out]
    have al := (Below.refl w6.heap.size w6).alloc (Nat.le_refl _) (.cells #[.string ⟨#[98]⟩, .int .i64 (-1), .slice none 0 0] 30)
    have G7 := (G5.below hb6).below al
    have L7 := (L5.below hb6).below al
    have X7 := (X5.below hb6).below al
    have U7 := (U5.below hb6 (Nat.le_refl _)).below al (Nat.le_refl _)
    have B7 := Below.on (Below.on B5 hb6 (Nat.le_refl _)) al (Nat.le_refl _)
    clear C2 G5 L5 U5 B5 X5 hb6 al g0 g1
    unfold leafR leafV
    go_upto_region 7 with fail
    generalize w6.alloc (.cells #[.string ⟨#[98]⟩, .int .i64 (-1), .slice none 0 0] 30) = w7 at *
    have CA1 : Calls Tryz.prog 8 #[.agg #[.string st, .slice (some ⟨b, off, none⟩) rs.length cg]] w7.drew fun e w' => e = .returned (.bool true) ∧ Below w7.heap.size w7 w' := (sGramOk_any st (some ⟨b, off, none⟩) cg rs w7.drew U7 hcg).mono fun e w' h => ⟨by rw [h.1, HK.out], below_of_drew h.2⟩
    have CA2 : ∀ w8, Below w7.heap.size w7 w8 → Calls Tryz.prog 9 #[.agg #[.string st, .slice (some ⟨b, off, none⟩) rs.length cg], .agg #[.string ⟨#[98]⟩, .int .i64 (-1), .slice none 0 0]] w8 fun e w' => e = .returned (.bool true) ∧ Below w7.heap.size w7 w' := fun w8 hb => (treeOk_any st (some ⟨b, off, none⟩) cg rs leafB leafV w8 (U7.below hb (Nat.le_refl _)) hcg (leaf_in _ 0).tr (by rw [leaf_sz]; omega)).mono fun e w' h => ⟨by rw [h.1, leafB_ok, HK.out], Below.on hb h.2 (Nat.le_refl _)⟩
    have CA3 : ∀ w8, Below w7.heap.size w7 w8 → Calls Tryz.prog 8 #[.agg #[.string st, .slice (some ⟨b, off, none⟩) rs.length cg]] w8 fun e w' => e = .returned (.bool true) ∧ Below w7.heap.size w7 w' := fun w8 hb => (sGramOk_any st (some ⟨b, off, none⟩) cg rs w8 (U7.below hb (Nat.le_refl _)) hcg).mono fun e w' h => ⟨by rw [h.1, HK.out], Below.on hb h.2 (Nat.le_refl _)⟩
    have KP : ∀ wx, Below w7.heap.size w7 wx → wx.cell? ⟨w2.heap.size, 0, none⟩ = some (.string st) ∧ wx.cell? ⟨w2.heap.size, 1, none⟩ = some (.slice (some ⟨b, off, none⟩) rs.length cg) ∧ wx.cell? ⟨w2.heap.size + 1, 0, none⟩ = some (.string ⟨#[98]⟩) ∧ wx.cell? ⟨w2.heap.size + 1, 1, none⟩ = some (.int .i64 (-1)) ∧ wx.cell? ⟨w2.heap.size + 1, 2, none⟩ = some (.slice none 0 0) := fun wx hb => keepGT (G7.below hb) (L7.below hb)
    have HCA1 := Lib.hid CA1
    have HCA2 := Lib.hid CA2
    have HCA3 := Lib.hid CA3
    have HKP := Lib.hid KP
    clear CA1 CA2 CA3 KP
    obtain ⟨g0, g1⟩ := G7.cells
    obtain ⟨l0, l1, l2, _, _, _⟩ := L7.cells
    go_region_held3 (fun w' => w'.cell? ⟨w2.heap.size, 0, none⟩ = some (.string st) ∧ w'.cell? ⟨w2.heap.size, 1, none⟩ = some (.slice (some ⟨b, off, none⟩) rs.length cg) ∧ w'.cell? ⟨w2.heap.size + 1, 0, none⟩ = some (.string ⟨#[98]⟩) ∧ w'.cell? ⟨w2.heap.size + 1, 1, none⟩ = some (.int .i64 (-1)) ∧ w'.cell? ⟨w2.heap.size + 1, 2, none⟩ = some (.slice none 0 0))
      (first
        | go_keep
        | with_reducible exact HKP.out _ hb10
        | with_reducible exact HKP.out _ hb9
        | with_reducible exact HKP.out _ hb8
        | fail)
      (first
        | (go_at_call 8; have _ := tokB; (with_reducible refine (HCA3.out w9 hb9).mono ?_); rintro e w10 ⟨rfl, hb10⟩)
        | (go_at_call 9; (with_reducible refine (HCA2.out w8 hb8).mono ?_); rintro e w9 ⟨rfl, hb9⟩; have tokB := True.intro)
        | (go_at_call 8; (with_reducible refine HCA1.out.mono ?_); rintro e w8 ⟨rfl, hb8⟩)
        | fail)
    have B10 := Below.on B7 hb10 (Nat.le_refl _)
    have L10 := L7.below hb10
    have X10 := X7.below hb10
    clear HCA1 HCA2 HCA3 HKP g0 g1 l0 l1 l2 G7 L7 U7 X7 B7 hb8 hb9 hb10
    obtain ⟨l0, l1, l2, _, _, _⟩ := L10.cells
    have CY := Lib.hid (treeYield_any leafB leafV w10 0 (leaf_in _ 0) (by rw [leaf_sz]; omega))
    have hbb : (([98] : List UInt8) == [98]) = true := by decide
    go_wp2_with fail
    refine CY.out.mono ?_
    rintro e w11 ⟨rfl, hb11⟩
    rw [leaf_yield]
    have B11 := Below.on B10 hb11 (Nat.le_refl _)
    have L11 := L10.below hb11
    have X11 := X10.below hb11
    clear CY B10 L10 X10 hb11 l0 l1 l2
    obtain ⟨l0, l1, l2, _, _, _⟩ := L11.cells
    have CS := Lib.hid (treeSize_any leafB leafV w11 0 (leaf_in _ 0) (by rw [leaf_sz]; omega))
    go_wp2_with fail
    refine CS.out.mono ?_
    rintro e w12 ⟨rfl, hb12⟩
    rw [leaf_sz]
    have B12 := Below.on B11 hb12 (Nat.le_refl _)
    have L12 := L11.below hb12
    have X12 := X11.below hb12
    clear CS B11 L11 X11 hb12 l0 l1 l2
    obtain ⟨l0, l1, l2, _, _, _⟩ := L12.cells
    obtain ⟨x0, x1, x2, _, _, _⟩ := X12.cells
    have CT := Lib.hid (treeSame_any leafB leafB leafV leafV w12 0 0 (leaf_in _ 0) (leaf_in _ 0) (by rw [leaf_sz]; omega) (by rw [leaf_sz]; omega) (by rw [leaf_sz]; omega) ((HP.out.on B12).up B12.size))
    go_wp2_with fail
    refine CT.out.mono ?_
    rintro e w13 ⟨rfl, hb13⟩
    rw [sameTr_true rfl]
    have B13 := Below.on B12 hb13 (Nat.le_refl _)
    clear CT B12 L12 X12 hb13 l0 l1 l2 x0 x1 x2
    go_wp2_with fail
    go_ret
    exact ⟨rfl, B13⟩
theorem treeSmall_card (p : Option Addr) (n cp : Nat) (w : World) (H : BytesAt w p n cp) (hL : laidMetH Tryz.prog Rows.fnTreeSmallRow.laid w) :
    Calls Tryz.prog 3 #[.slice p n cp] w fun e w' => e = .returned (.bool true) ∧ RowKit.Below w.heap.size w w' := by
  have h : laidMet Tryz.prog Rows.fnTreeSmallRow.laid w := hL
  exact treeSmall_law p n cp w H (pow_third h (by kernel_rfl) (by kernel_rfl) (by kernel_rfl) (by kernel_rfl))
end Go.Proofs.YtpkejcjjbkgomaaGreatDoor
namespace Go.Proofs.YtpkejcjjbkgomaaGreatDoor
open Go.ChangeShapes Go.WideShapes Go.ChangeAt Go.RowKit Go.Joins Go.Deep
theorem ownK : ownKnob Tryz.prog.godebug = none := by kernel_rfl
theorem laidOutP : laidOutB Tryz.prog = true := by kernel_rfl
def strOf : Value → ByteArray
  | .string s => s
  | _ => ByteArray.empty
end Go.Proofs.YtpkejcjjbkgomaaGreatDoor
namespace Go.Proofs.YtpkejcjjbkgomaaGreatDoor
open Go.ChangeShapes Go.WideShapes Go.ChangeAt Go.RowKit Go.Joins Go.Deep
section
variable {H : Type} {enc : TypeId × Value → H} {W : World} {base : Nat} {spare : Nat → Bool} {held : Bool}
set_option maxRecDepth 100000 in
theorem open_bytes {r : Reach} {b0 : Nat} {v : Value} {d : DataW H} {p : List MemPlace} (hv : Value.okWide Tryz.prog W r b0 22 v) (h : DataW.Trod enc Tryz.prog W base spare held 22 v d p) :
    ∃ (a : Option Addr) (n cap : Nat), v = .slice a n cap ∧ BytesAt W a n cap := by
  obtain ⟨a, n, cap, rfl⟩ := okWide_slice Tryz.underlying22 hv
  refine ⟨a, n, cap, rfl, ?_⟩
  obtain ⟨fuel, hf⟩ := h
  rcases open_ints Tryz.underlying22 Tryz.underlying5 (by kernel_rfl) hf with ⟨hcs, _⟩ | ⟨x, l, c, zs, hcs, _, hl, hm, hz, _, hcell, hwz⟩
  · simp [Value.cells] at hcs
    obtain ⟨rfl, rfl, rfl⟩ := hcs
    exact ⟨Nat.le_refl _, Nat.zero_le _, fun i hi => absurd hi (Nat.not_lt_zero _)⟩
  · simp [Value.cells] at hcs
    obtain ⟨rfl, rfl, rfl⟩ := hcs
    have hz' : n ≤ zs.length := by rw [hz]; split <;> omega
    refine ⟨hl, hm, fun i hi => ?_⟩
    have hc := hcell i (by omega)
    obtain ⟨b, off, spot⟩ := x
    have hspot : spot = none := by simpa [Addr.add] using World.cell?_spot (hcell 0 (by omega))
    subst hspot
    rw [add_plain] at hc
    have hi' : i < zs.length := by omega
    have hw := hwz zs[i] (List.getElem_mem hi')
    rw [show zs.getD i 0 = zs[i] from by simp [List.getD, hi']] at hc
    have hr : 0 ≤ zs[i] ∧ zs[i] ≤ 255 := by
      simp [Lit.wf] at hw
      exact ⟨hw.1, hw.2⟩
    exact ⟨b, off, zs[i], rfl, World.block_lt_of_cell? _ _ hc, hc, hr⟩
end
end Go.Proofs.YtpkejcjjbkgomaaGreatDoor
