/- The walk of FnTreeSame. -/
import Derived.Test.YtpkejcjjbkgomaaDoorTmE
import Derived.Test.YtpkejcjjbkgomaaDoorNuE
import Derived.Test.YtpkejcjjbkgomaaDoorRows
import Derived.Deep.DeepCutAuto
import Derived.Deep.RegionHeld3
import Derived.Test.YtpkejcjjbkgomaaDoorLawB
import Derived.Deep.SlicePairs
import Derived.Lib.SmallJoins
import Derived.OpenShut
import Derived.ShutString
import Derived.ChangeOld
import Derived.Below
import Derived.Test.YtpkejcjjbkgomaaDoorDrawH
namespace Go.Proofs.YtpkejcjjbkgomaaDoor
open Go.ChangeShapes Go.WideShapes Go.ChangeAt Go.RowKit Go.Deep
set_option maxRecDepth 100000
theorem keepTT {w : World} {b c : Nat} {v0 v1 v2 u0 u1 u2 : Value} (X : BoxT w b v0 v1 v2) (Y : BoxT w c u0 u1 u2) : w.cell? ⟨b, 0, none⟩ = some v0 ∧ w.cell? ⟨b, 1, none⟩ = some v1 ∧ w.cell? ⟨b, 2, none⟩ = some v2 ∧ w.cell? ⟨c, 0, none⟩ = some u0 ∧ w.cell? ⟨c, 1, none⟩ = some u1 ∧ w.cell? ⟨c, 2, none⟩ = some u2 :=
  ⟨X.cells.1, X.cells.2.1, X.cells.2.2.1, Y.cells.1, Y.cells.2.1, Y.cells.2.2.1⟩
set_option maxHeartbeats 4000000 in
theorem fnTreeSame_law (p : Option Addr) (n cp : Nat) (w : World) (H : BytesAt w p n cp) (hp : PowB w.heap.size w) :
    Calls Tryd.prog 7 #[.slice p n cp] w fun e w' => e = .returned (.bool true) ∧ Below w.heap.size w w' := by
  have HP := Lib.hid hp
  clear hp
  by_cases h1 : (1048576 : Int) < (n : Int)
  · go_enter Tryd.func7, Tryd.ntmps7
    go_wp2
    go_ret
    exact ⟨rfl, Below.refl _ _⟩
  go_enter Tryd.func7, Tryd.ntmps7
  go_wp2_with fail
  refine (drawTreeSame_any p n cp _ H).mono ?_
  rintro e w2 ⟨ta, tb, A, B, rfl, HA, HB, hzA, hzB, hb2⟩
  obtain ⟨s, r, ks, ka, kc, us, hlu, rfl, hTA, hss, hrw, hlm, hlc, hkid, hone, hrow⟩ := TrQ.kids HA
  obtain ⟨s', r', ks', ka', kc', rfl, hTB, _⟩ := HB.tr.open
  have HTA := Lib.hid hTA
  have HLU := Lib.hid hlu
  have HKID := Lib.hid hkid
  have HROW := Lib.hid hrow
  clear hTA hTB hkid hrow
  have al := ((Below.refl w2.heap.size w2).alloc (Nat.le_refl _) (.cells #[.string s, .int .i64 r, .slice ka ks.length kc] 29)).alloc (by simp) (.cells #[.string s', .int .i64 r', .slice ka' ks'.length kc'] 29)
  have X3 : BoxT ((w2.alloc (.cells #[.string s, .int .i64 r, .slice ka ks.length kc] 29)).alloc (.cells #[.string s', .int .i64 r', .slice ka' ks'.length kc'] 29)) w2.heap.size (.string s) (.int .i64 r) (.slice ka ks.length kc) := (blk_old _ _ (by simp)).trans (blk_new _ _ rfl)
  have Y3 : BoxT ((w2.alloc (.cells #[.string s, .int .i64 r, .slice ka ks.length kc] 29)).alloc (.cells #[.string s', .int .i64 r', .slice ka' ks'.length kc'] 29)) (w2.heap.size + 1) (.string s') (.int .i64 r') (.slice ka' ks'.length kc') := blk_new _ _ (by simp)
  have HA3 := HA.keep al
  have HB3 := HB.keep al
  have B3 := Below.on hb2 al (Nat.le_refl _)
  have S3 : ∀ k, k < w2.heap.size → ((w2.alloc (.cells #[.string s, .int .i64 r, .slice ka ks.length kc] 29)).alloc (.cells #[.string s', .int .i64 r', .slice ka' ks'.length kc'] 29)).heap[k]? = w2.heap[k]? := fun k hk => al.block k hk
  have hs3 : w2.heap.size + 2 ≤ ((w2.alloc (.cells #[.string s, .int .i64 r, .slice ka ks.length kc] 29)).alloc (.cells #[.string s', .int .i64 r', .slice ka' ks'.length kc'] 29)).heap.size := by simp
  have hs2 := hb2.size
  clear HA HB al hb2
  have hAB : ∃ b, sameTr A B = b := ⟨_, rfl⟩
  obtain ⟨b, hAB⟩ := hAB
  have hBA : sameTr B A = b := (sameTr_comm B A).trans hAB
  go_upto_region 4 with fail
  generalize ((w2.alloc (.cells #[.string s, .int .i64 r, .slice ka ks.length kc] 29)).alloc (.cells #[.string s', .int .i64 r', .slice ka' ks'.length kc'] 29)) = w3 at *
  have P3 : PowB w3.heap.size w3 := (HP.out.on B3).up B3.size
  have kp : ∀ wx, Below w3.heap.size w3 wx → wx.cell? ⟨w2.heap.size, 0, none⟩ = some (.string s) ∧ wx.cell? ⟨w2.heap.size, 1, none⟩ = some (.int .i64 r) ∧ wx.cell? ⟨w2.heap.size, 2, none⟩ = some (.slice ka ks.length kc) ∧ wx.cell? ⟨w2.heap.size + 1, 0, none⟩ = some (.string s') ∧ wx.cell? ⟨w2.heap.size + 1, 1, none⟩ = some (.int .i64 r') ∧ wx.cell? ⟨w2.heap.size + 1, 2, none⟩ = some (.slice ka' ks'.length kc') := fun wx hb => keepTT (X3.below hb) (Y3.below hb)
  have KP := Lib.hid kp
  clear kp
  cases b with
  | false =>
    have HAB := Lib.hid hAB
    have HBA := Lib.hid hBA
    clear hAB hBA
    have CAB0 : Calls Tryd.prog 15 #[.agg #[.string s, .int .i64 r, .slice ka ks.length kc], .agg #[.string s', .int .i64 r', .slice ka' ks'.length kc']] w3.drew fun e w' => e = .returned (.bool false) ∧ Below w3.heap.size w3 w' := (treeSame_any A B _ _ w3.drew _ _ (TrP.stay HA3 (fun _ _ _ => rfl)) (TrP.stay HB3 (fun _ _ _ => rfl)) (by omega) (by omega) (by omega) (P3.on (Below.refl w3.heap.size w3).drew)).mono fun e w' h => ⟨by rw [h.1, HAB.out], below_of_drew h.2⟩
    have CAB : ∀ w8, Below w3.heap.size w3 w8 → Calls Tryd.prog 15 #[.agg #[.string s, .int .i64 r, .slice ka ks.length kc], .agg #[.string s', .int .i64 r', .slice ka' ks'.length kc']] w8 fun e w' => e = .returned (.bool false) ∧ Below w3.heap.size w3 w' := fun w8 hb => (treeSame_any A B _ _ w8 _ _ (HA3.keep hb) (HB3.keep hb) (by omega) (by omega) (by omega) ((P3.on hb).up hb.size)).mono fun e w' h => ⟨by rw [h.1, HAB.out], Below.on hb h.2 (Nat.le_refl _)⟩
    have CS : ∀ w8, Below w3.heap.size w3 w8 → Calls Tryd.prog 13 #[.agg #[.string s, .int .i64 r, .slice ka ks.length kc], .agg #[.string s', .int .i64 r', .slice ka' ks'.length kc']] w8 fun e w' => e = .returned (.bool false) ∧ Below w3.heap.size w3 w' := fun w8 hb => (sTreeSame_any _ A (Nat.le_refl _) B _ _ w8 (HA3.keep hb).tr (HB3.keep hb).tr).mono fun e w' h => ⟨by rw [h.1, HAB.out], Below.on hb h.2 (Nat.le_refl _)⟩
    have CBA : ∀ w8, Below w3.heap.size w3 w8 → Calls Tryd.prog 15 #[.agg #[.string s', .int .i64 r', .slice ka' ks'.length kc'], .agg #[.string s, .int .i64 r, .slice ka ks.length kc]] w8 fun e w' => e = .returned (.bool false) ∧ Below w3.heap.size w3 w' := fun w8 hb => (treeSame_any B A _ _ w8 _ _ (HB3.keep hb) (HA3.keep hb) (by omega) (by omega) (by omega) ((P3.on hb).up hb.size)).mono fun e w' h => ⟨by rw [h.1, HBA.out], Below.on hb h.2 (Nat.le_refl _)⟩
    have CAA : ∀ w8, Below w3.heap.size w3 w8 → Calls Tryd.prog 15 #[.agg #[.string s, .int .i64 r, .slice ka ks.length kc], .agg #[.string s, .int .i64 r, .slice ka ks.length kc]] w8 fun e w' => e = .returned (.bool true) ∧ Below w3.heap.size w3 w' := fun w8 hb => (treeSame_any A A _ _ w8 _ _ (HA3.keep hb) (HA3.keep hb) (by omega) (by omega) (by omega) ((P3.on hb).up hb.size)).mono fun e w' h => ⟨by rw [h.1, sameTr_true rfl], Below.on hb h.2 (Nat.le_refl _)⟩
    have HCAB0 := Lib.hid CAB0
    have HCAB := Lib.hid CAB
    have HCS := Lib.hid CS
    have HCBA := Lib.hid CBA
    have HCAA := Lib.hid CAA
    clear CAB0 CAB CS CBA CAA
    obtain ⟨x0, x1, x2, _, _, _⟩ := X3.cells
    obtain ⟨y0, y1, y2, _, _, _⟩ := Y3.cells
    go_region_held3 (fun w' => w'.cell? ⟨w2.heap.size, 0, none⟩ = some (.string s) ∧ w'.cell? ⟨w2.heap.size, 1, none⟩ = some (.int .i64 r) ∧ w'.cell? ⟨w2.heap.size, 2, none⟩ = some (.slice ka ks.length kc) ∧ w'.cell? ⟨w2.heap.size + 1, 0, none⟩ = some (.string s') ∧ w'.cell? ⟨w2.heap.size + 1, 1, none⟩ = some (.int .i64 r') ∧ w'.cell? ⟨w2.heap.size + 1, 2, none⟩ = some (.slice ka' ks'.length kc'))
      (first
        | go_keep
        | with_reducible exact KP.out _ hb8
        | with_reducible exact KP.out _ hb7
        | with_reducible exact KP.out _ hb6
        | with_reducible exact KP.out _ hb5
        | with_reducible exact KP.out _ hb4
        | fail)
      (first
        | (go_at_call 15; have _ := tok7; (with_reducible refine (HCAA.out w7 hb7).mono ?_); rintro e w8 ⟨rfl, hb8⟩)
        | (go_at_call 15; have _ := tok6; (with_reducible refine (HCBA.out w6 hb6).mono ?_); rintro e w7 ⟨rfl, hb7⟩; have tok7 := True.intro)
        | (go_at_call 15; have _ := tok5; (with_reducible refine (HCAB.out w5 hb5).mono ?_); rintro e w6 ⟨rfl, hb6⟩; have tok6 := True.intro)
        | (go_at_call 13; (with_reducible refine (HCS.out w4 hb4).mono ?_); rintro e w5 ⟨rfl, hb5⟩; have tok5 := True.intro)
        | (go_at_call 15; (with_reducible refine HCAB0.out.mono ?_); rintro e w4 ⟨rfl, hb4⟩)
        | fail)
    have hs8 := hb8.size
    have X8 := X3.below hb8
    have HA8 := HA3.keep hb8
    have P8 := (P3.on hb8).up hb8.size
    have B8 := Below.on B3 hb8 (Nat.le_refl _)
    have S8 : ∀ k, k < w2.heap.size → w8.heap[k]? = w2.heap[k]? := fun k hk => (hb8.block k (by omega)).trans (S3 k hk)
    clear HCAB0 HCAB HCS HCBA HCAA KP hb4 hb5 hb6 hb7 hb8 x0 x1 x2 y0 y1 y2 X3 Y3 HA3 HB3 P3 B3 S3 HAB HBA
    have hks : ks.length ≤ 488290 := by
      have h := hzA
      rw [HTA.out, Tr.sz] at h
      have := len_szs ks
      omega
    have al9 := ((Below.refl w8.heap.size w8).alloc (Nat.le_refl _) (.cells #[.string s, .int .i64 r, .slice ka ks.length kc] 29)).alloc (by simp) (.cells #[] 29)
    have X10 := X8.below al9
    have x10 : BoxT ((w8.alloc (.cells #[.string s, .int .i64 r, .slice ka ks.length kc] 29)).alloc (.cells #[] 29)) w8.heap.size (.string s) (.int .i64 r) (.slice ka ks.length kc) := (blk_old _ _ (by simp)).trans (blk_new _ _ rfl)
    have hown : ((w8.alloc (.cells #[.string s, .int .i64 r, .slice ka ks.length kc] 29)).alloc (.cells #[] 29)).ownsRow (w8.heap.size + 1) 29 3 (.slice (some ⟨w8.heap.size + 1, 0, none⟩) 0 0) 0 [] := ⟨rfl, .inr ⟨w8.heap.size + 1, 0, #[], rfl, Nat.le_refl _, blk_new _ _ (by simp), Nat.le_refl _, by unfold maxLen; omega, rfl, rfl⟩⟩
    have hrow10 : us = [] ∨ ∃ g off, ka = some ⟨g, off, none⟩ ∧ ∀ j y, (flatK us)[j]? = some y → ((w8.alloc (.cells #[.string s, .int .i64 r, .slice ka ks.length kc] 29)).alloc (.cells #[] 29)).cell? ⟨g, off + j, none⟩ = some y := by
      rcases HROW.out with h | ⟨g, off, e, _, hc⟩
      · exact .inl h
      · refine .inr ⟨g, off, e, fun j y hj => ?_⟩
        have h := hc j y hj
        have hlt : g < w2.heap.size := World.block_lt_of_cell? _ _ h
        rw [cell_same (w := w2) ((al9.block g (by omega)).trans (S8 g hlt))]
        exact h
    obtain ⟨o0, o1, o2, _, _, _⟩ := X8.cells
    obtain ⟨q0, q1, q2, _, _, _⟩ := X10.cells
    have hsz10 : ((w8.alloc (.cells #[.string s, .int .i64 r, .slice ka ks.length kc] 29)).alloc (.cells #[] 29)).heap.size = w8.heap.size + 2 := by simp
    go_wp2_with (at_builtin; refine list_append_kids rfl _ _ rfl (w8.heap.size + 1) (w8.heap.size + 1) rfl hown ka ks.length kc us rfl HLU.out hone hrow10 hks (by omega) ?_)
    intro g2 cap2 w11 hr11 hg11 _
    have hg2 := hr11.lt g2 rfl
    have b11 : Below (w8.heap.size + 1) ((w8.alloc (.cells #[.string s, .int .i64 r, .slice ka ks.length kc] 29)).alloc (.cells #[] 29)) w11 := ⟨hg11.os, hg11.tape, hg11.output, hg11.size, fun k hk => hg11.block k (by omega) (by simp; omega)⟩
    have hs11 := hg11.size
    have X11 : BoxT w11 w2.heap.size (.string s) (.int .i64 r) (.slice ka ks.length kc) := (b11.block _ (by omega)).trans X10
    have x11 : BoxT w11 w8.heap.size (.string s) (.int .i64 r) (.slice ka ks.length kc) := (b11.block _ (by omega)).trans x10
    have hr12 := ownsRow_stay (w' := (w11.alloc (.cells #[.string ⟨#[]⟩, .int .i64 0, .slice none 0 0] 29))) hr11 (fun k hk => blk_old _ _ (hr11.lt k hk).2)
    have B11 : Below w8.heap.size w8 w11 := al9.trans (b11.mono (by omega))
    clear o0 o1 o2 q0 q1 q2 X8 X10 x10 hown hrow10 hr11 hg11 b11 al9
    go_wp2_with (at_builtin; refine list_append_zero rfl _ _ rfl (w8.heap.size + 1) g2 ks.length cap2 w11.heap.size us rfl rfl hr12 (blk_new _ _ rfl) hks (by simp; omega) ?_)
    intro g3 cap3 w13 hr13 hg13 _
    have hg3 := hr13.lt g3 rfl
    have hs13 : w11.heap.size + 1 ≤ w13.heap.size := by have := hg13.size; simpa using this
    have b13 : Below (w8.heap.size + 1) w11 w13 := ⟨hg13.os, hg13.tape, hg13.output, by omega, fun k hk => (hg13.block k (by simp; omega) (by simp; omega)).trans (blk_old _ _ (by omega))⟩
    have X13 : BoxT w13 w2.heap.size (.string s) (.int .i64 r) (.slice ka ks.length kc) := (b13.block _ (by omega)).trans X11
    have x13 : BoxT w13 w8.heap.size (.string s) (.int .i64 r) (.slice ka ks.length kc) := (b13.block _ (by omega)).trans x11
    have B13 : Below w8.heap.size w8 w13 := B11.trans (b13.mono (by omega))
    clear X11 x11 hr12 B11 hg13 b13
    have n1 : w2.heap.size ≠ w8.heap.size := by omega
    have n2 : w2.heap.size ≠ w13.heap.size := by omega
    have n3 : w8.heap.size ≠ w13.heap.size := by omega
    have X14 : BoxT (w13.setCell ⟨w8.heap.size, 2, none⟩ (.slice (some ⟨g3, 0, none⟩) (ks.length + 1) cap3)) w2.heap.size (.string s) (.int .i64 r) (.slice ka ks.length kc) := (Below.heap_setCell _ _ _ _ n1).trans X13
    have x14 : BoxT (w13.setCell ⟨w8.heap.size, 2, none⟩ (.slice (some ⟨g3, 0, none⟩) (ks.length + 1) cap3)) w8.heap.size (.string s) (.int .i64 r) (.slice (some ⟨g3, 0, none⟩) (ks.length + 1) cap3) := x13.set2 _
    have hz14 : (w13.setCell ⟨w8.heap.size, 2, none⟩ (.slice (some ⟨g3, 0, none⟩) (ks.length + 1) cap3)).heap.size = w13.heap.size := by simp
    have X15 : BoxT ((w13.setCell ⟨w8.heap.size, 2, none⟩ (.slice (some ⟨g3, 0, none⟩) (ks.length + 1) cap3)).alloc (.cells #[.string s, .int .i64 r, .slice ka ks.length kc] 29)) w2.heap.size (.string s) (.int .i64 r) (.slice ka ks.length kc) := (blk_old _ _ (by omega)).trans X14
    have x15 : BoxT ((w13.setCell ⟨w8.heap.size, 2, none⟩ (.slice (some ⟨g3, 0, none⟩) (ks.length + 1) cap3)).alloc (.cells #[.string s, .int .i64 r, .slice ka ks.length kc] 29)) w8.heap.size (.string s) (.int .i64 r) (.slice (some ⟨g3, 0, none⟩) (ks.length + 1) cap3) := (blk_old _ _ (by omega)).trans x14
    have y15 : BoxT ((w13.setCell ⟨w8.heap.size, 2, none⟩ (.slice (some ⟨g3, 0, none⟩) (ks.length + 1) cap3)).alloc (.cells #[.string s, .int .i64 r, .slice ka ks.length kc] 29)) w13.heap.size (.string s) (.int .i64 r) (.slice ka ks.length kc) := blk_new _ _ hz14.symm
    have X16 : BoxT ((w13.setCell ⟨w8.heap.size, 2, none⟩ (.slice (some ⟨g3, 0, none⟩) (ks.length + 1) cap3)).alloc (.cells #[.string s, .int .i64 (wrap64 (r + 1)), .slice ka ks.length kc] 29)) w2.heap.size (.string s) (.int .i64 r) (.slice ka ks.length kc) := (blk_old _ _ (by omega)).trans X14
    have x16 : BoxT ((w13.setCell ⟨w8.heap.size, 2, none⟩ (.slice (some ⟨g3, 0, none⟩) (ks.length + 1) cap3)).alloc (.cells #[.string s, .int .i64 (wrap64 (r + 1)), .slice ka ks.length kc] 29)) w8.heap.size (.string s) (.int .i64 r) (.slice (some ⟨g3, 0, none⟩) (ks.length + 1) cap3) := (blk_old _ _ (by omega)).trans x14
    have y16 : BoxT ((w13.setCell ⟨w8.heap.size, 2, none⟩ (.slice (some ⟨g3, 0, none⟩) (ks.length + 1) cap3)).alloc (.cells #[.string s, .int .i64 (wrap64 (r + 1)), .slice ka ks.length kc] 29)) w13.heap.size (.string s) (.int .i64 (wrap64 (r + 1))) (.slice ka ks.length kc) := blk_new _ _ hz14.symm
    have same16 : ∀ k, k < w13.heap.size → k ≠ w8.heap.size → ((w13.setCell ⟨w8.heap.size, 2, none⟩ (.slice (some ⟨g3, 0, none⟩) (ks.length + 1) cap3)).alloc (.cells #[.string s, .int .i64 (wrap64 (r + 1)), .slice ka ks.length kc] 29)).heap[k]? = w13.heap[k]? := fun k h1 h2 => (blk_old _ _ (by omega)).trans (Below.heap_setCell _ _ _ _ h2)
    have hr16 := ownsRow_stay (w' := ((w13.setCell ⟨w8.heap.size, 2, none⟩ (.slice (some ⟨g3, 0, none⟩) (ks.length + 1) cap3)).alloc (.cells #[.string s, .int .i64 (wrap64 (r + 1)), .slice ka ks.length kc] 29))) hr13 (fun k hk => same16 k (hr13.lt k hk).2 (by have := (hr13.lt k hk).1; omega))
    have B16 : Below w8.heap.size w8 ((w13.setCell ⟨w8.heap.size, 2, none⟩ (.slice (some ⟨g3, 0, none⟩) (ks.length + 1) cap3)).alloc (.cells #[.string s, .int .i64 (wrap64 (r + 1)), .slice ka ks.length kc] 29)) := (B13.setCell (p := ⟨w8.heap.size, 2, none⟩) (Nat.le_refl _) (.slice (some ⟨g3, 0, none⟩) (ks.length + 1) cap3)).alloc (by simp; omega) (.cells #[.string s, .int .i64 (wrap64 (r + 1)), .slice ka ks.length kc] 29)
    obtain ⟨d0, d1, d2, fd0, fd1, fd2⟩ := x13.cells
    obtain ⟨i0, i1, i2, _, _, _⟩ := X14.cells
    obtain ⟨j0, j1, j2, _, _, _⟩ := X15.cells
    obtain ⟨l0, l1, l2, fl0, fl1, fl2⟩ := y15.cells
    obtain ⟨m0, m1, m2, _, _, _⟩ := X16.cells
    obtain ⟨k0, k1, k2, _, _, _⟩ := x16.cells
    have HA16 : TrP ((w13.setCell ⟨w8.heap.size, 2, none⟩ (.slice (some ⟨g3, 0, none⟩) (ks.length + 1) cap3)).alloc (.cells #[.string s, .int .i64 (wrap64 (r + 1)), .slice ka ks.length kc] 29)) w.heap.size (.agg #[.string s, .int .i64 r, .slice ka ks.length kc]) A := HA8.keep B16
    have HX16 : TrP ((w13.setCell ⟨w8.heap.size, 2, none⟩ (.slice (some ⟨g3, 0, none⟩) (ks.length + 1) cap3)).alloc (.cells #[.string s, .int .i64 (wrap64 (r + 1)), .slice ka ks.length kc] 29)) w.heap.size (.agg #[.string s, .int .i64 r, .slice (some ⟨g3, 0, none⟩) (ks.length + 1) cap3]) (.node s r (ks ++ [.node ⟨#[]⟩ 0 []])) := kids_more (w := w2) (A := fun k => w.heap.size ≤ k) HLU.out hss hrw HKID.out (fun k h1 h2 => (B16.block k (by omega)).trans (S8 k h2)) (fun k hk => hk) (by omega) hr16
    have HY16 : TrP ((w13.setCell ⟨w8.heap.size, 2, none⟩ (.slice (some ⟨g3, 0, none⟩) (ks.length + 1) cap3)).alloc (.cells #[.string s, .int .i64 (wrap64 (r + 1)), .slice ka ks.length kc] 29)) w.heap.size (.agg #[.string s, .int .i64 (wrap64 (r + 1)), .slice ka ks.length kc]) (.node s (wrap64 (r + 1)) ks) := TrQ.ruled (by have h := HA16; rw [HTA.out] at h; exact h) (wrap_more hrw).1
    have P16 : PowB ((w13.setCell ⟨w8.heap.size, 2, none⟩ (.slice (some ⟨g3, 0, none⟩) (ks.length + 1) cap3)).alloc (.cells #[.string s, .int .i64 (wrap64 (r + 1)), .slice ka ks.length kc] 29)).heap.size ((w13.setCell ⟨w8.heap.size, 2, none⟩ (.slice (some ⟨g3, 0, none⟩) (ks.length + 1) cap3)).alloc (.cells #[.string s, .int .i64 (wrap64 (r + 1)), .slice ka ks.length kc] 29)) := (P8.on B16).up B16.size
    have hzX : (Tr.node s r (ks ++ [.node ⟨#[]⟩ 0 []])).sz ≤ 488291 := by
      have h := hzA
      rw [HTA.out, Tr.sz] at h
      rw [Tr.sz, List.map_append, List.sum_append]
      simp [Tr.sz]
      omega
    have hzY : (Tr.node s (wrap64 (r + 1)) ks).sz ≤ 488290 := by
      have h := hzA
      rw [HTA.out, Tr.sz] at h
      rw [Tr.sz]
      exact h
    have hnX : sameTr A (.node s r (ks ++ [.node ⟨#[]⟩ 0 []])) = false := sameTr_false (by
      rw [HTA.out]
      intro e
      simp only [Tr.node.injEq, true_and] at e
      have := congrArg List.length e
      simp at this)
    have hnY : sameTr A (.node s (wrap64 (r + 1)) ks) = false := sameTr_false (by
      rw [HTA.out]
      intro e
      simp only [Tr.node.injEq, true_and, and_true] at e
      exact (wrap_more hrw).2 e.symm)
    have BW := Below.on B8 B16 (Nat.le_refl _)
    have CX := Lib.hid (treeSame_any A (.node s r (ks ++ [.node ⟨#[]⟩ 0 []])) (.agg #[.string s, .int .i64 r, .slice ka ks.length kc]) (.agg #[.string s, .int .i64 r, .slice (some ⟨g3, 0, none⟩) (ks.length + 1) cap3]) ((w13.setCell ⟨w8.heap.size, 2, none⟩ (.slice (some ⟨g3, 0, none⟩) (ks.length + 1) cap3)).alloc (.cells #[.string s, .int .i64 (wrap64 (r + 1)), .slice ka ks.length kc] 29)) w.heap.size w.heap.size HA16 HX16 (by omega) (by omega) (by omega) P16)
    clear hr16 same16 hr13 HX16
    go_wp2_with fail
    refine CX.out.mono ?_
    rintro e w17 ⟨rfl, hb17⟩
    rw [hnX]
    have X17 := X16.below hb17
    have y17 := y16.below hb17
    have HA17 := HA16.keep hb17
    have HY17 := HY16.keep hb17
    have P17 := (P16.on hb17).up hb17.size
    have B17 := Below.on BW hb17 (Nat.le_refl _)
    clear CX d0 d1 d2 fd0 fd1 fd2 i0 i1 i2 j0 j1 j2 l0 l1 l2 fl0 fl1 fl2 m0 m1 m2 k0 k1 k2 X13 x13 X14 x14 X15 x15 y15 X16 x16 y16 HA16 HY16 P16 BW hb17 B13 B16
    obtain ⟨m0, m1, m2, _, _, _⟩ := X17.cells
    obtain ⟨k0, k1, k2, _, _, _⟩ := y17.cells
    have CY := Lib.hid (treeSame_any A (.node s (wrap64 (r + 1)) ks) (.agg #[.string s, .int .i64 r, .slice ka ks.length kc]) (.agg #[.string s, .int .i64 (wrap64 (r + 1)), .slice ka ks.length kc]) w17 w.heap.size w.heap.size HA17 HY17 (by omega) (by omega) (by omega) P17)
    go_wp2_with fail
    refine CY.out.mono ?_
    rintro e w18 ⟨rfl, hb18⟩
    rw [hnY]
    have B18 := Below.on B17 hb18 (Nat.le_refl _)
    clear CY X17 y17 HA17 HY17 P17 B17 hb18 m0 m1 m2 k0 k1 k2
    go_wp2_with fail
    go_ret
    exact ⟨rfl, B18⟩
  | true =>
    have HAB := Lib.hid hAB
    have HBA := Lib.hid hBA
    clear hAB hBA
    have CAB0 : Calls Tryd.prog 15 #[.agg #[.string s, .int .i64 r, .slice ka ks.length kc], .agg #[.string s', .int .i64 r', .slice ka' ks'.length kc']] w3.drew fun e w' => e = .returned (.bool true) ∧ Below w3.heap.size w3 w' := (treeSame_any A B _ _ w3.drew _ _ (TrP.stay HA3 (fun _ _ _ => rfl)) (TrP.stay HB3 (fun _ _ _ => rfl)) (by omega) (by omega) (by omega) (P3.on (Below.refl w3.heap.size w3).drew)).mono fun e w' h => ⟨by rw [h.1, HAB.out], below_of_drew h.2⟩
    have CAB : ∀ w8, Below w3.heap.size w3 w8 → Calls Tryd.prog 15 #[.agg #[.string s, .int .i64 r, .slice ka ks.length kc], .agg #[.string s', .int .i64 r', .slice ka' ks'.length kc']] w8 fun e w' => e = .returned (.bool true) ∧ Below w3.heap.size w3 w' := fun w8 hb => (treeSame_any A B _ _ w8 _ _ (HA3.keep hb) (HB3.keep hb) (by omega) (by omega) (by omega) ((P3.on hb).up hb.size)).mono fun e w' h => ⟨by rw [h.1, HAB.out], Below.on hb h.2 (Nat.le_refl _)⟩
    have CS : ∀ w8, Below w3.heap.size w3 w8 → Calls Tryd.prog 13 #[.agg #[.string s, .int .i64 r, .slice ka ks.length kc], .agg #[.string s', .int .i64 r', .slice ka' ks'.length kc']] w8 fun e w' => e = .returned (.bool true) ∧ Below w3.heap.size w3 w' := fun w8 hb => (sTreeSame_any _ A (Nat.le_refl _) B _ _ w8 (HA3.keep hb).tr (HB3.keep hb).tr).mono fun e w' h => ⟨by rw [h.1, HAB.out], Below.on hb h.2 (Nat.le_refl _)⟩
    have CBA : ∀ w8, Below w3.heap.size w3 w8 → Calls Tryd.prog 15 #[.agg #[.string s', .int .i64 r', .slice ka' ks'.length kc'], .agg #[.string s, .int .i64 r, .slice ka ks.length kc]] w8 fun e w' => e = .returned (.bool true) ∧ Below w3.heap.size w3 w' := fun w8 hb => (treeSame_any B A _ _ w8 _ _ (HB3.keep hb) (HA3.keep hb) (by omega) (by omega) (by omega) ((P3.on hb).up hb.size)).mono fun e w' h => ⟨by rw [h.1, HBA.out], Below.on hb h.2 (Nat.le_refl _)⟩
    have CAA : ∀ w8, Below w3.heap.size w3 w8 → Calls Tryd.prog 15 #[.agg #[.string s, .int .i64 r, .slice ka ks.length kc], .agg #[.string s, .int .i64 r, .slice ka ks.length kc]] w8 fun e w' => e = .returned (.bool true) ∧ Below w3.heap.size w3 w' := fun w8 hb => (treeSame_any A A _ _ w8 _ _ (HA3.keep hb) (HA3.keep hb) (by omega) (by omega) (by omega) ((P3.on hb).up hb.size)).mono fun e w' h => ⟨by rw [h.1, sameTr_true rfl], Below.on hb h.2 (Nat.le_refl _)⟩
    have HCAB0 := Lib.hid CAB0
    have HCAB := Lib.hid CAB
    have HCS := Lib.hid CS
    have HCBA := Lib.hid CBA
    have HCAA := Lib.hid CAA
    clear CAB0 CAB CS CBA CAA
    obtain ⟨x0, x1, x2, _, _, _⟩ := X3.cells
    obtain ⟨y0, y1, y2, _, _, _⟩ := Y3.cells
    go_region_held3 (fun w' => w'.cell? ⟨w2.heap.size, 0, none⟩ = some (.string s) ∧ w'.cell? ⟨w2.heap.size, 1, none⟩ = some (.int .i64 r) ∧ w'.cell? ⟨w2.heap.size, 2, none⟩ = some (.slice ka ks.length kc) ∧ w'.cell? ⟨w2.heap.size + 1, 0, none⟩ = some (.string s') ∧ w'.cell? ⟨w2.heap.size + 1, 1, none⟩ = some (.int .i64 r') ∧ w'.cell? ⟨w2.heap.size + 1, 2, none⟩ = some (.slice ka' ks'.length kc'))
      (first
        | go_keep
        | with_reducible exact KP.out _ hb8
        | with_reducible exact KP.out _ hb7
        | with_reducible exact KP.out _ hb6
        | with_reducible exact KP.out _ hb5
        | with_reducible exact KP.out _ hb4
        | fail)
      (first
        | (go_at_call 15; have _ := tok7; (with_reducible refine (HCAA.out w7 hb7).mono ?_); rintro e w8 ⟨rfl, hb8⟩)
        | (go_at_call 15; have _ := tok6; (with_reducible refine (HCBA.out w6 hb6).mono ?_); rintro e w7 ⟨rfl, hb7⟩; have tok7 := True.intro)
        | (go_at_call 15; have _ := tok5; (with_reducible refine (HCAB.out w5 hb5).mono ?_); rintro e w6 ⟨rfl, hb6⟩; have tok6 := True.intro)
        | (go_at_call 13; (with_reducible refine (HCS.out w4 hb4).mono ?_); rintro e w5 ⟨rfl, hb5⟩; have tok5 := True.intro)
        | (go_at_call 15; (with_reducible refine HCAB0.out.mono ?_); rintro e w4 ⟨rfl, hb4⟩)
        | fail)
    have hs8 := hb8.size
    have X8 := X3.below hb8
    have HA8 := HA3.keep hb8
    have P8 := (P3.on hb8).up hb8.size
    have B8 := Below.on B3 hb8 (Nat.le_refl _)
    have S8 : ∀ k, k < w2.heap.size → w8.heap[k]? = w2.heap[k]? := fun k hk => (hb8.block k (by omega)).trans (S3 k hk)
    clear HCAB0 HCAB HCS HCBA HCAA KP hb4 hb5 hb6 hb7 hb8 x0 x1 x2 y0 y1 y2 X3 Y3 HA3 HB3 P3 B3 S3 HAB HBA
    have hks : ks.length ≤ 488290 := by
      have h := hzA
      rw [HTA.out, Tr.sz] at h
      have := len_szs ks
      omega
    have al9 := ((Below.refl w8.heap.size w8).alloc (Nat.le_refl _) (.cells #[.string s, .int .i64 r, .slice ka ks.length kc] 29)).alloc (by simp) (.cells #[] 29)
    have X10 := X8.below al9
    have x10 : BoxT ((w8.alloc (.cells #[.string s, .int .i64 r, .slice ka ks.length kc] 29)).alloc (.cells #[] 29)) w8.heap.size (.string s) (.int .i64 r) (.slice ka ks.length kc) := (blk_old _ _ (by simp)).trans (blk_new _ _ rfl)
    have hown : ((w8.alloc (.cells #[.string s, .int .i64 r, .slice ka ks.length kc] 29)).alloc (.cells #[] 29)).ownsRow (w8.heap.size + 1) 29 3 (.slice (some ⟨w8.heap.size + 1, 0, none⟩) 0 0) 0 [] := ⟨rfl, .inr ⟨w8.heap.size + 1, 0, #[], rfl, Nat.le_refl _, blk_new _ _ (by simp), Nat.le_refl _, by unfold maxLen; omega, rfl, rfl⟩⟩
    have hrow10 : us = [] ∨ ∃ g off, ka = some ⟨g, off, none⟩ ∧ ∀ j y, (flatK us)[j]? = some y → ((w8.alloc (.cells #[.string s, .int .i64 r, .slice ka ks.length kc] 29)).alloc (.cells #[] 29)).cell? ⟨g, off + j, none⟩ = some y := by
      rcases HROW.out with h | ⟨g, off, e, _, hc⟩
      · exact .inl h
      · refine .inr ⟨g, off, e, fun j y hj => ?_⟩
        have h := hc j y hj
        have hlt : g < w2.heap.size := World.block_lt_of_cell? _ _ h
        rw [cell_same (w := w2) ((al9.block g (by omega)).trans (S8 g hlt))]
        exact h
    obtain ⟨o0, o1, o2, _, _, _⟩ := X8.cells
    obtain ⟨q0, q1, q2, _, _, _⟩ := X10.cells
    have hsz10 : ((w8.alloc (.cells #[.string s, .int .i64 r, .slice ka ks.length kc] 29)).alloc (.cells #[] 29)).heap.size = w8.heap.size + 2 := by simp
    go_wp2_with (at_builtin; refine list_append_kids rfl _ _ rfl (w8.heap.size + 1) (w8.heap.size + 1) rfl hown ka ks.length kc us rfl HLU.out hone hrow10 hks (by omega) ?_)
    intro g2 cap2 w11 hr11 hg11 _
    have hg2 := hr11.lt g2 rfl
    have b11 : Below (w8.heap.size + 1) ((w8.alloc (.cells #[.string s, .int .i64 r, .slice ka ks.length kc] 29)).alloc (.cells #[] 29)) w11 := ⟨hg11.os, hg11.tape, hg11.output, hg11.size, fun k hk => hg11.block k (by omega) (by simp; omega)⟩
    have hs11 := hg11.size
    have X11 : BoxT w11 w2.heap.size (.string s) (.int .i64 r) (.slice ka ks.length kc) := (b11.block _ (by omega)).trans X10
    have x11 : BoxT w11 w8.heap.size (.string s) (.int .i64 r) (.slice ka ks.length kc) := (b11.block _ (by omega)).trans x10
    have hr12 := ownsRow_stay (w' := (w11.alloc (.cells #[.string ⟨#[]⟩, .int .i64 0, .slice none 0 0] 29))) hr11 (fun k hk => blk_old _ _ (hr11.lt k hk).2)
    have B11 : Below w8.heap.size w8 w11 := al9.trans (b11.mono (by omega))
    clear o0 o1 o2 q0 q1 q2 X8 X10 x10 hown hrow10 hr11 hg11 b11 al9
    go_wp2_with (at_builtin; refine list_append_zero rfl _ _ rfl (w8.heap.size + 1) g2 ks.length cap2 w11.heap.size us rfl rfl hr12 (blk_new _ _ rfl) hks (by simp; omega) ?_)
    intro g3 cap3 w13 hr13 hg13 _
    have hg3 := hr13.lt g3 rfl
    have hs13 : w11.heap.size + 1 ≤ w13.heap.size := by have := hg13.size; simpa using this
    have b13 : Below (w8.heap.size + 1) w11 w13 := ⟨hg13.os, hg13.tape, hg13.output, by omega, fun k hk => (hg13.block k (by simp; omega) (by simp; omega)).trans (blk_old _ _ (by omega))⟩
    have X13 : BoxT w13 w2.heap.size (.string s) (.int .i64 r) (.slice ka ks.length kc) := (b13.block _ (by omega)).trans X11
    have x13 : BoxT w13 w8.heap.size (.string s) (.int .i64 r) (.slice ka ks.length kc) := (b13.block _ (by omega)).trans x11
    have B13 : Below w8.heap.size w8 w13 := B11.trans (b13.mono (by omega))
    clear X11 x11 hr12 B11 hg13 b13
    have n1 : w2.heap.size ≠ w8.heap.size := by omega
    have n2 : w2.heap.size ≠ w13.heap.size := by omega
    have n3 : w8.heap.size ≠ w13.heap.size := by omega
    have X14 : BoxT (w13.setCell ⟨w8.heap.size, 2, none⟩ (.slice (some ⟨g3, 0, none⟩) (ks.length + 1) cap3)) w2.heap.size (.string s) (.int .i64 r) (.slice ka ks.length kc) := (Below.heap_setCell _ _ _ _ n1).trans X13
    have x14 : BoxT (w13.setCell ⟨w8.heap.size, 2, none⟩ (.slice (some ⟨g3, 0, none⟩) (ks.length + 1) cap3)) w8.heap.size (.string s) (.int .i64 r) (.slice (some ⟨g3, 0, none⟩) (ks.length + 1) cap3) := x13.set2 _
    have hz14 : (w13.setCell ⟨w8.heap.size, 2, none⟩ (.slice (some ⟨g3, 0, none⟩) (ks.length + 1) cap3)).heap.size = w13.heap.size := by simp
    have X15 : BoxT ((w13.setCell ⟨w8.heap.size, 2, none⟩ (.slice (some ⟨g3, 0, none⟩) (ks.length + 1) cap3)).alloc (.cells #[.string s, .int .i64 r, .slice ka ks.length kc] 29)) w2.heap.size (.string s) (.int .i64 r) (.slice ka ks.length kc) := (blk_old _ _ (by omega)).trans X14
    have x15 : BoxT ((w13.setCell ⟨w8.heap.size, 2, none⟩ (.slice (some ⟨g3, 0, none⟩) (ks.length + 1) cap3)).alloc (.cells #[.string s, .int .i64 r, .slice ka ks.length kc] 29)) w8.heap.size (.string s) (.int .i64 r) (.slice (some ⟨g3, 0, none⟩) (ks.length + 1) cap3) := (blk_old _ _ (by omega)).trans x14
    have y15 : BoxT ((w13.setCell ⟨w8.heap.size, 2, none⟩ (.slice (some ⟨g3, 0, none⟩) (ks.length + 1) cap3)).alloc (.cells #[.string s, .int .i64 r, .slice ka ks.length kc] 29)) w13.heap.size (.string s) (.int .i64 r) (.slice ka ks.length kc) := blk_new _ _ hz14.symm
    have X16 : BoxT ((w13.setCell ⟨w8.heap.size, 2, none⟩ (.slice (some ⟨g3, 0, none⟩) (ks.length + 1) cap3)).alloc (.cells #[.string s, .int .i64 (wrap64 (r + 1)), .slice ka ks.length kc] 29)) w2.heap.size (.string s) (.int .i64 r) (.slice ka ks.length kc) := (blk_old _ _ (by omega)).trans X14
    have x16 : BoxT ((w13.setCell ⟨w8.heap.size, 2, none⟩ (.slice (some ⟨g3, 0, none⟩) (ks.length + 1) cap3)).alloc (.cells #[.string s, .int .i64 (wrap64 (r + 1)), .slice ka ks.length kc] 29)) w8.heap.size (.string s) (.int .i64 r) (.slice (some ⟨g3, 0, none⟩) (ks.length + 1) cap3) := (blk_old _ _ (by omega)).trans x14
    have y16 : BoxT ((w13.setCell ⟨w8.heap.size, 2, none⟩ (.slice (some ⟨g3, 0, none⟩) (ks.length + 1) cap3)).alloc (.cells #[.string s, .int .i64 (wrap64 (r + 1)), .slice ka ks.length kc] 29)) w13.heap.size (.string s) (.int .i64 (wrap64 (r + 1))) (.slice ka ks.length kc) := blk_new _ _ hz14.symm
    have same16 : ∀ k, k < w13.heap.size → k ≠ w8.heap.size → ((w13.setCell ⟨w8.heap.size, 2, none⟩ (.slice (some ⟨g3, 0, none⟩) (ks.length + 1) cap3)).alloc (.cells #[.string s, .int .i64 (wrap64 (r + 1)), .slice ka ks.length kc] 29)).heap[k]? = w13.heap[k]? := fun k h1 h2 => (blk_old _ _ (by omega)).trans (Below.heap_setCell _ _ _ _ h2)
    have hr16 := ownsRow_stay (w' := ((w13.setCell ⟨w8.heap.size, 2, none⟩ (.slice (some ⟨g3, 0, none⟩) (ks.length + 1) cap3)).alloc (.cells #[.string s, .int .i64 (wrap64 (r + 1)), .slice ka ks.length kc] 29))) hr13 (fun k hk => same16 k (hr13.lt k hk).2 (by have := (hr13.lt k hk).1; omega))
    have B16 : Below w8.heap.size w8 ((w13.setCell ⟨w8.heap.size, 2, none⟩ (.slice (some ⟨g3, 0, none⟩) (ks.length + 1) cap3)).alloc (.cells #[.string s, .int .i64 (wrap64 (r + 1)), .slice ka ks.length kc] 29)) := (B13.setCell (p := ⟨w8.heap.size, 2, none⟩) (Nat.le_refl _) (.slice (some ⟨g3, 0, none⟩) (ks.length + 1) cap3)).alloc (by simp; omega) (.cells #[.string s, .int .i64 (wrap64 (r + 1)), .slice ka ks.length kc] 29)
    obtain ⟨d0, d1, d2, fd0, fd1, fd2⟩ := x13.cells
    obtain ⟨i0, i1, i2, _, _, _⟩ := X14.cells
    obtain ⟨j0, j1, j2, _, _, _⟩ := X15.cells
    obtain ⟨l0, l1, l2, fl0, fl1, fl2⟩ := y15.cells
    obtain ⟨m0, m1, m2, _, _, _⟩ := X16.cells
    obtain ⟨k0, k1, k2, _, _, _⟩ := x16.cells
    have HA16 : TrP ((w13.setCell ⟨w8.heap.size, 2, none⟩ (.slice (some ⟨g3, 0, none⟩) (ks.length + 1) cap3)).alloc (.cells #[.string s, .int .i64 (wrap64 (r + 1)), .slice ka ks.length kc] 29)) w.heap.size (.agg #[.string s, .int .i64 r, .slice ka ks.length kc]) A := HA8.keep B16
    have HX16 : TrP ((w13.setCell ⟨w8.heap.size, 2, none⟩ (.slice (some ⟨g3, 0, none⟩) (ks.length + 1) cap3)).alloc (.cells #[.string s, .int .i64 (wrap64 (r + 1)), .slice ka ks.length kc] 29)) w.heap.size (.agg #[.string s, .int .i64 r, .slice (some ⟨g3, 0, none⟩) (ks.length + 1) cap3]) (.node s r (ks ++ [.node ⟨#[]⟩ 0 []])) := kids_more (w := w2) (A := fun k => w.heap.size ≤ k) HLU.out hss hrw HKID.out (fun k h1 h2 => (B16.block k (by omega)).trans (S8 k h2)) (fun k hk => hk) (by omega) hr16
    have HY16 : TrP ((w13.setCell ⟨w8.heap.size, 2, none⟩ (.slice (some ⟨g3, 0, none⟩) (ks.length + 1) cap3)).alloc (.cells #[.string s, .int .i64 (wrap64 (r + 1)), .slice ka ks.length kc] 29)) w.heap.size (.agg #[.string s, .int .i64 (wrap64 (r + 1)), .slice ka ks.length kc]) (.node s (wrap64 (r + 1)) ks) := TrQ.ruled (by have h := HA16; rw [HTA.out] at h; exact h) (wrap_more hrw).1
    have P16 : PowB ((w13.setCell ⟨w8.heap.size, 2, none⟩ (.slice (some ⟨g3, 0, none⟩) (ks.length + 1) cap3)).alloc (.cells #[.string s, .int .i64 (wrap64 (r + 1)), .slice ka ks.length kc] 29)).heap.size ((w13.setCell ⟨w8.heap.size, 2, none⟩ (.slice (some ⟨g3, 0, none⟩) (ks.length + 1) cap3)).alloc (.cells #[.string s, .int .i64 (wrap64 (r + 1)), .slice ka ks.length kc] 29)) := (P8.on B16).up B16.size
    have hzX : (Tr.node s r (ks ++ [.node ⟨#[]⟩ 0 []])).sz ≤ 488291 := by
      have h := hzA
      rw [HTA.out, Tr.sz] at h
      rw [Tr.sz, List.map_append, List.sum_append]
      simp [Tr.sz]
      omega
    have hzY : (Tr.node s (wrap64 (r + 1)) ks).sz ≤ 488290 := by
      have h := hzA
      rw [HTA.out, Tr.sz] at h
      rw [Tr.sz]
      exact h
    have hnX : sameTr A (.node s r (ks ++ [.node ⟨#[]⟩ 0 []])) = false := sameTr_false (by
      rw [HTA.out]
      intro e
      simp only [Tr.node.injEq, true_and] at e
      have := congrArg List.length e
      simp at this)
    have hnY : sameTr A (.node s (wrap64 (r + 1)) ks) = false := sameTr_false (by
      rw [HTA.out]
      intro e
      simp only [Tr.node.injEq, true_and, and_true] at e
      exact (wrap_more hrw).2 e.symm)
    have BW := Below.on B8 B16 (Nat.le_refl _)
    have CX := Lib.hid (treeSame_any A (.node s r (ks ++ [.node ⟨#[]⟩ 0 []])) (.agg #[.string s, .int .i64 r, .slice ka ks.length kc]) (.agg #[.string s, .int .i64 r, .slice (some ⟨g3, 0, none⟩) (ks.length + 1) cap3]) ((w13.setCell ⟨w8.heap.size, 2, none⟩ (.slice (some ⟨g3, 0, none⟩) (ks.length + 1) cap3)).alloc (.cells #[.string s, .int .i64 (wrap64 (r + 1)), .slice ka ks.length kc] 29)) w.heap.size w.heap.size HA16 HX16 (by omega) (by omega) (by omega) P16)
    clear hr16 same16 hr13 HX16
    go_wp2_with fail
    refine CX.out.mono ?_
    rintro e w17 ⟨rfl, hb17⟩
    rw [hnX]
    have X17 := X16.below hb17
    have y17 := y16.below hb17
    have HA17 := HA16.keep hb17
    have HY17 := HY16.keep hb17
    have P17 := (P16.on hb17).up hb17.size
    have B17 := Below.on BW hb17 (Nat.le_refl _)
    clear CX d0 d1 d2 fd0 fd1 fd2 i0 i1 i2 j0 j1 j2 l0 l1 l2 fl0 fl1 fl2 m0 m1 m2 k0 k1 k2 X13 x13 X14 x14 X15 x15 y15 X16 x16 y16 HA16 HY16 P16 BW hb17 B13 B16
    obtain ⟨m0, m1, m2, _, _, _⟩ := X17.cells
    obtain ⟨k0, k1, k2, _, _, _⟩ := y17.cells
    have CY := Lib.hid (treeSame_any A (.node s (wrap64 (r + 1)) ks) (.agg #[.string s, .int .i64 r, .slice ka ks.length kc]) (.agg #[.string s, .int .i64 (wrap64 (r + 1)), .slice ka ks.length kc]) w17 w.heap.size w.heap.size HA17 HY17 (by omega) (by omega) (by omega) P17)
    go_wp2_with fail
    refine CY.out.mono ?_
    rintro e w18 ⟨rfl, hb18⟩
    rw [hnY]
    have B18 := Below.on B17 hb18 (Nat.le_refl _)
    clear CY X17 y17 HA17 HY17 P17 B17 hb18 m0 m1 m2 k0 k1 k2
    go_wp2_with fail
    go_ret
    exact ⟨rfl, B18⟩
theorem treeSameFn_card (p : Option Addr) (n cp : Nat) (w : World) (H : BytesAt w p n cp) (hL : laidMetH Tryd.prog Rows.fnTreeSameRow.laid w) :
    Calls Tryd.prog 7 #[.slice p n cp] w fun e w' => e = .returned (.bool true) ∧ RowKit.Below w.heap.size w w' := by
  have h : laidMet Tryd.prog Rows.fnTreeSameRow.laid w := hL
  exact fnTreeSame_law p n cp w H (pow_third h (by kernel_rfl) (by kernel_rfl) (by kernel_rfl) (by kernel_rfl))
end Go.Proofs.YtpkejcjjbkgomaaDoor
namespace Go.Proofs.YtpkejcjjbkgomaaDoor
open Go.ChangeShapes Go.WideShapes Go.ChangeAt Go.RowKit Go.Joins Go.Deep
theorem ownK : ownKnob Tryd.prog.godebug = none := by kernel_rfl
theorem laidOutP : laidOutB Tryd.prog = true := by kernel_rfl
def strOf : Value → ByteArray
  | .string s => s
  | _ => ByteArray.empty
end Go.Proofs.YtpkejcjjbkgomaaDoor
namespace Go.Proofs.YtpkejcjjbkgomaaDoor
open Go.ChangeShapes Go.WideShapes Go.ChangeAt Go.RowKit Go.Joins Go.Deep
section
variable {H : Type} {enc : TypeId × Value → H} {W : World} {base : Nat} {spare : Nat → Bool} {held : Bool}
set_option maxRecDepth 100000 in
theorem open_bytes {r : Reach} {b0 : Nat} {v : Value} {d : DataW H} {p : List MemPlace} (hv : Value.okWide Tryd.prog W r b0 53 v) (h : DataW.Trod enc Tryd.prog W base spare held 53 v d p) :
    ∃ (a : Option Addr) (n cap : Nat), v = .slice a n cap ∧ BytesAt W a n cap := by
  obtain ⟨a, n, cap, rfl⟩ := okWide_slice Tryd.underlying53 hv
  refine ⟨a, n, cap, rfl, ?_⟩
  obtain ⟨fuel, hf⟩ := h
  rcases open_ints Tryd.underlying53 Tryd.underlying5 (by kernel_rfl) hf with ⟨hcs, _⟩ | ⟨x, l, c, zs, hcs, _, hl, hm, hz, _, hcell, hwz⟩
  · simp [Value.cells] at hcs
    obtain ⟨rfl, rfl, rfl⟩ := hcs
    exact ⟨Nat.le_refl _, Nat.zero_le _, fun i hi => absurd hi (Nat.not_lt_zero _)⟩
  · simp [Value.cells] at hcs
    obtain ⟨rfl, rfl, rfl⟩ := hcs
    have hz' : n ≤ zs.length := by rw [hz]; split <;> omega
    refine ⟨hl, hm, fun i hi => ?_⟩
    have hc := hcell i (by omega)
    obtain ⟨b, off, spot⟩ := x
    have hspot : spot = none := by simpa [Addr.add] using World.cell?_spot (hcell 0 (by omega))
    subst hspot
    rw [add_plain] at hc
    have hi' : i < zs.length := by omega
    have hw := hwz zs[i] (List.getElem_mem hi')
    rw [show zs.getD i 0 = zs[i] from by simp [List.getD, hi']] at hc
    have hr : 0 ≤ zs[i] ∧ zs[i] ≤ 255 := by
      simp [Lit.wf] at hw
      exact ⟨hw.1, hw.2⟩
    exact ⟨b, off, zs[i], rfl, World.block_lt_of_cell? _ _ hc, hc, hr⟩
end
end Go.Proofs.YtpkejcjjbkgomaaDoor
