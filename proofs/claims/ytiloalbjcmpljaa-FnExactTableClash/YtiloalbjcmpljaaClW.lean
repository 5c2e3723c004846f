/- Marks of a table; the walk of FnExactTableClash. -/
import Derived.Test.YtiloalbjcmpljaaClE
namespace Go.Proofs.Ytiloalbjcmpljaa
open Go.ChangeShapes Go.WideShapes Go.ChangeAt Go.RowKit Go.Deep
set_option maxRecDepth 100000
/-- of the older blocks only those from B on and below U may have changed -/
structure InG (B U : Nat) (w w' : World) : Prop where
  os : w'.os = w.os
  tape : w'.tape = w.tape
  output : w'.output = w.output
  size : w.heap.size ≤ w'.heap.size
  block : ∀ k, k < w.heap.size → k < B ∨ U ≤ k → w'.heap[k]? = w.heap[k]?
theorem InG.of_only {B U b : Nat} {w w' : World} (h : OnlyG b w w') (h1 : B ≤ b) (h2 : b < U ∨ w.heap.size ≤ b) : InG B U w w' := ⟨h.os, h.tape, h.output, h.size, fun k hk hB => h.block k hk (by omega)⟩
theorem InG.of_below {B U : Nat} {w w' : World} (h : Below w.heap.size w w') : InG B U w w' := ⟨h.os, h.tape, h.output, h.size, fun k hk _ => h.block k hk⟩
theorem InG.trans {B U : Nat} {a b c : World} (h : InG B U a b) (k : InG B U b c) : InG B U a c :=
  ⟨k.os.trans h.os, k.tape.trans h.tape, k.output.trans h.output, Nat.le_trans h.size k.size, fun j hj hB => (k.block j (Nat.lt_of_lt_of_le hj h.size) hB).trans (h.block j hj hB)⟩
theorem InG.wide {B U B' U' : Nat} {w w' : World} (h : InG B U w w') (h1 : B' ≤ B) (h2 : U ≤ U') : InG B' U' w w' := ⟨h.os, h.tape, h.output, h.size, fun k hk hB => h.block k hk (by omega)⟩
theorem InG.below {B U : Nat} {w w' : World} (h : InG B U w w') (C : Nat) (h1 : C ≤ B) (h2 : C ≤ w.heap.size) : Below C w w' := ⟨h.os, h.tape, h.output, h.size, fun k hk => h.block k (by omega) (by omega)⟩
theorem BoxT.inG {w w' : World} {B U b : Nat} {v0 v1 v2 : Value} (h : BoxT w b v0 v1 v2) (hb : InG B U w w') (hB : b < B ∨ U ≤ b) : BoxT w' b v0 v1 v2 := by
  have e := hb.block b h.1 hB
  exact ⟨Nat.lt_of_lt_of_le h.1 hb.size, (World.cell?_of_block (w := w) (a := ⟨b, 0, none⟩) e).trans h.2.1, (World.cell?_of_block (w := w) (a := ⟨b, 1, none⟩) e).trans h.2.2.1, (World.cell?_of_block (w := w) (a := ⟨b, 2, none⟩) e).trans h.2.2.2⟩
/-- an own slice keeps while blocks outside of it change -/
theorem owns_inG {w w' : World} {B U C : Nat} {T : TypeId} {m : Nat} {v : Value} {n : Nat} {xs : List Value} (h : w.ownsRow C T m v n xs) (hb : InG B U w w') (hB : U ≤ C ∨ ∀ g, v.ownBlock = some g → g < B) : w'.ownsRow C T m v n xs := by
  refine ⟨h.1, ?_⟩
  rcases h.2 with h0 | ⟨g, cap, cur, rfl, hg, hh, hl⟩
  · exact .inl h0
  · refine .inr ⟨g, cap, cur, rfl, hg, (hb.block g (Array.getElem?_eq_some_iff.1 hh).1 ?_).trans hh, hl⟩
    rcases hB with hB | hB
    · exact .inr (by omega)
    · exact .inl (hB g (by simp [Value.ownBlock]))
set_option maxHeartbeats 1000000 in
theorem markTable_any (m : Int) (a : Option Addr) (cap n : Nat) (c : Option Addr) (l cup k B U V : Nat) (w : World) (H1 : OwnG 60 w B U a (n * 3)) (H2 : OwnG 63 w U V c (l * 3)) (hB : B ≤ U) (hU : U ≤ V) (hV : V ≤ w.heap.size) (hn : n ≤ 1048576) (hl : l ≤ 1048576) (hk : 0 < k) (hk2 : k + n * 3 + l * 3 ≤ 5000000) :
    Calls Try.prog 23 #[tabV m a n cap c l cup, .int .i64 (k : Int)] w fun e w' => e = .returned (.int .i64 ((k + n * 3 + l * 3 : Nat) : Int)) ∧ InG B V w w' := by
  have hb1 := (Below.refl w.heap.size w).alloc (Nat.le_refl _) (.cells #[.int .i64 m, .slice a n cap, .slice c l cup] 39)
  have X1 := BoxT.new w (.int .i64 m) (.slice a n cap) (.slice c l cup) 39
  have I1 : InG B V w (w.alloc (.cells #[.int .i64 m, .slice a n cap, .slice c l cup] 39)) := InG.of_below hb1
  obtain ⟨x0, x1, x2⟩ := X1.2
  go_enter Try.func23, Try.ntmps23
  go_wp2_with fail
  refine (markMoveS_any a n cap k B U _ (H1.below hb1) (by simp; omega) hn hk (by omega)).mono ?_
  rintro e w2 ⟨rfl, _, b, hb, hbU, ho⟩
  have hbs : b < U ∨ (w.heap.size < b) := by
    rcases hbU with h | h
    · exact .inl h
    · right; have : w.heap.size + 1 ≤ b := by simpa using h
      omega
  have X2 : BoxT w2 w.heap.size (.int .i64 m) (.slice a n cap) (.slice c l cup) := X1.only ho (by omega)
  have I2 : InG B V w w2 := by
    refine ⟨ho.os.trans I1.os, ho.tape.trans I1.tape, ho.output.trans I1.output, Nat.le_trans I1.size ho.size, fun j hj hB => ?_⟩
    rw [ho.block j (by simp; omega) (by omega), hb1.block j hj]
  have H3 : OwnG 63 w2 U V c (l * 3) := (H2.below hb1).keep fun j h1 h2 h3 => ho.block j h3 (by omega)
  have hs2 : w.heap.size + 1 ≤ w2.heap.size := by have := ho.size; simpa using this
  obtain ⟨y0, y1, y2⟩ := X2.2
  clear hb1 X1 I1 x0 x1 x2 ho X2
  go_wp2_with fail
  refine (markEndS_any c l cup (k + n * 3) U V w2 H3 (by omega) hl (by omega) (by omega)).mono ?_
  rintro e w3 ⟨rfl, _, b', hb', hbV, ho'⟩
  go_wp2_with fail
  go_ret
  refine ⟨rfl, I2.trans ⟨ho'.os, ho'.tape, ho'.output, ho'.size, fun j hj hB => ho'.block j hj (by omega)⟩⟩
theorem szTrisM_sum (xs : List TriT) (left : Int) (_ : 0 ≤ left) (h : 0 ≤ szTrisM xs left) : szTrisM xs left ≤ left - xs.length := by
  unfold szTrisM at h ⊢
  split at h
  · omega
  · rename_i hn
    rw [if_neg hn]
    exact (szTFold_le xs (left - xs.length) (by omega)).1
theorem szTableM_sum (xs ys : List TriT) (left : Int) (h0 : 0 ≤ left) (h : 0 ≤ szTableM xs ys left) : (xs.length : Int) + ys.length ≤ left := by
  unfold szTableM at h
  split at h
  · omega
  · rename_i h1
    split at h
    · omega
    · rename_i h2
      have a1 := szTrisM_sum xs left h0 (by omega)
      have a2 := szTrisM_sum ys (szTrisM xs left) (by omega) (by omega)
      omega
set_option maxHeartbeats 4000000 in
theorem tableClash_law (m : Int) (a : Option Addr) (cap : Nat) (xs : List TriT) (c : Option Addr) (cup : Nat) (ys : List TriT) (w : World) (HX : TrisAt w a xs) (HY : TrisAt w c ys) (WX : WfT xs) (WY : WfT ys) :
    Calls Try.prog 6 #[tabV m a xs.length cap c ys.length cup] w fun e w' => e = .returned (.bool true) ∧ Below w.heap.size w w' := by
  have hb1 := (Below.refl w.heap.size w).alloc (Nat.le_refl _) (.cells #[.int .i64 m, .slice a xs.length cap, .slice c ys.length cup] 28)
  have X1 := BoxT.new w (.int .i64 m) (.slice a xs.length cap) (.slice c ys.length cup) 28
  go_enter Try.func6, Try.ntmps6
  go_wp2_with fail
  refine (szTable_any m _ _ xs _ _ ys _ _ (HX.below hb1 (Nat.le_refl _)) (HY.below hb1 (Nat.le_refl _)) (by omega) (by omega)).mono ?_
  rintro e w2 ⟨rfl, hb2⟩
  have X2 := X1.below hb2
  have c2 := Below.on hb1 hb2 (Nat.le_refl _)
  clear X1 hb1 hb2
  by_cases hneg : szTableM xs ys 1048576 < 0
  · go_wp2
    go_ret
    exact ⟨rfl, c2⟩
  obtain ⟨⟨l1, _⟩, ⟨l2, _⟩⟩ := szTableM_len (xs := xs) (ys := ys) (left := 1048576) (by omega) (by omega) (by omega)
  have hsum := szTableM_sum xs ys 1048576 (by omega) (by omega)
  have hnn : decide (szTableM xs ys 1048576 < 0) = false := by simpa using hneg
  generalize szTableM xs ys 1048576 = left1 at *
  obtain ⟨x0, x1, x2⟩ := X2.2
  have hcl := clashTo_len xs ys ys.length
  go_wp2_with fail
  refine (toTable_any m _ _ xs _ _ ys _ (HX.below c2 (Nat.le_refl _)) (HY.below c2 (Nat.le_refl _)) l1 l2).mono ?_
  rintro e w4 ⟨b4, c4, rfl, _, _, row4, sow4, hb4⟩
  have R4 := trisAt_of_row row4 HX.fits
  have S4 := trisAt_of_row sow4 HY.fits
  have X4 := X2.below hb4
  have d4 := Below.on c2 hb4 (Nat.le_refl _)
  clear X2 c2 hb4 row4 sow4 x0 x1 x2
  go_wp2_with fail
  refine (sTableClash_any m _ _ xs _ _ ys _ R4 S4 l2).mono ?_
  rintro e w6 ⟨⟨v6, rfl, O6⟩, hb6⟩
  have X6 := X4.below hb6
  have d6 := Below.on d4 hb6 (Nat.le_refl _)
  clear X4 d4 hb6 R4 S4
  have hO6 : ∀ g, v6.ownBlock = some g → g < w6.heap.size := fun g hg => (O6.lt g hg).2
  obtain ⟨x0, x1, x2⟩ := X6.2
  go_wp2_with fail
  refine (toTable_any m _ _ xs _ _ ys _ (HX.below d6 (Nat.le_refl _)) (HY.below d6 (Nat.le_refl _)) l1 l2).mono ?_
  rintro e w7 ⟨b7, c7, rfl, lb7, lc7, row7, sow7, hb7⟩
  have bx7 := (Below.refl _ _).alloc (Nat.le_refl w7.heap.size) (.cells #[.int .i64 m, .slice (some ⟨b7, 0, none⟩) xs.length xs.length, .slice (some ⟨c7, 0, none⟩) ys.length ys.length] 39)
  have Z8 := BoxT.new w7 (.int .i64 m) (.slice (some ⟨b7, 0, none⟩) xs.length xs.length) (.slice (some ⟨c7, 0, none⟩) ys.length ys.length) 39
  have R8 := (trisAt_of_row row7 HX.fits).below bx7 (Nat.le_refl _)
  have S8 := (trisAt_of_row sow7 HY.fits).below bx7 (Nat.le_refl _)
  have hc7 := sow7.lt
  have M8 : OwnG 60 (w7.alloc (.cells #[.int .i64 m, .slice (some ⟨b7, 0, none⟩) xs.length xs.length, .slice (some ⟨c7, 0, none⟩) ys.length ys.length] 39)) w6.heap.size c7 (some ⟨b7, 0, none⟩) (xs.length * 3) := by
    obtain ⟨cur, h1, h2, _⟩ := row7
    exact OwnG.below (.inr ⟨b7, lb7, lc7, rfl, cur, h1, by omega⟩) bx7
  have E8 : OwnG 63 (w7.alloc (.cells #[.int .i64 m, .slice (some ⟨b7, 0, none⟩) xs.length xs.length, .slice (some ⟨c7, 0, none⟩) ys.length ys.length] 39)) c7 w7.heap.size (some ⟨c7, 0, none⟩) (ys.length * 3) := by
    obtain ⟨cur, h1, h2, _⟩ := sow7
    exact OwnG.below (.inr ⟨c7, Nat.le_refl _, hc7, rfl, cur, h1, by omega⟩) bx7
  have X8 := (X6.below hb7).below bx7
  have O8 := owns_below (owns_below O6 hb7) bx7
  have d8 := Below.on (Below.on d6 hb7 (Nat.le_refl _)) bx7 (Nat.le_refl _)
  have hs7 := hb7.size
  have hs8 : w7.heap.size + 1 = (w7.alloc (.cells #[.int .i64 m, .slice (some ⟨b7, 0, none⟩) xs.length xs.length, .slice (some ⟨c7, 0, none⟩) ys.length ys.length] 39)).heap.size := by simp
  have hd6 := d6.size
  have hx6 := X6.1
  clear X6 hb7 x0 x1 x2 row7 sow7 bx7 O6
  go_wp2_with fail
  refine (tableClash_any m _ _ xs _ _ ys _ R8 S8 WX WY l2).mono ?_
  rintro e w10 ⟨⟨v10, rfl, O10⟩, hb10⟩
  rw [← hs8] at O10
  have hs10 : w7.heap.size + 1 ≤ w10.heap.size := by have := hb10.size; omega
  have R11 := R8.below hb10 (Nat.le_refl _)
  have S11 := S8.below hb10 (Nat.le_refl _)
  have X11 := X8.below hb10
  have Z11 := Z8.below hb10
  have M11 := M8.below hb10
  have E11 := E8.below hb10
  have P11 := owns_below O8 hb10
  have d11 := Below.on d8 hb10 (Nat.le_refl _)
  clear X8 Z8 R8 S8 M8 E8 O8 hb10 d8 hs8
  have HX11 := HX.below d11 (Nat.le_refl _)
  have HY11 := HY.below d11 (Nat.le_refl _)
  obtain ⟨a6, cp6, rfl, _, rv6, _⟩ := owns_at P11
  obtain ⟨a10, cp10, rfl, _, rv10, og10⟩ := owns_at O10
  have hF := flatD_F (clashTo xs ys ys.length)
  obtain ⟨cs, hcs⟩ : ∃ cs, Hid (clashTo xs ys ys.length = cs) := ⟨_, rfl⟩
  rw [hcs.out] at P11 O10 rv6 rv10 og10 hF hcl hO6 ⊢
  go_wp2_with fail
  refine (eqClashS_self a10 a6 cs.length _ _ _ w10 hF rv10 rv6 (by omega)).mono ?_
  rintro e w12 ⟨rfl, hb12⟩
  have R12 := R11.below hb12 (Nat.le_refl _)
  have S12 := S11.below hb12 (Nat.le_refl _)
  have X12 := X11.below hb12
  have Z12 := Z11.below hb12
  have M12 := M11.below hb12
  have E12 := E11.below hb12
  have P12 := owns_below P11 hb12
  have O12 := owns_below O10 hb12
  have d12 := Below.on d11 hb12 (Nat.le_refl _)
  have hs12 : w7.heap.size + 1 ≤ w12.heap.size := by have := hb12.size; omega
  clear R11 S11 X11 Z11 M11 E11 P11 O10 d11 hb12 rv6 rv10 og10 HX11 HY11
  have HX12 := HX.below d12 (Nat.le_refl _)
  have HY12 := HY.below d12 (Nat.le_refl _)
  obtain ⟨z0, z1, z2⟩ := Z12.2
  obtain ⟨x0, x1, x2⟩ := X12.2
  go_wp2_with fail
  go_region_held3 (fun w' => w'.cell? ⟨w.heap.size, 0, none⟩ = some (.int .i64 m) ∧ w'.cell? ⟨w.heap.size, 1, none⟩ = some (.slice a xs.length cap) ∧ w'.cell? ⟨w.heap.size, 2, none⟩ = some (.slice c ys.length cup) ∧ w'.cell? ⟨w7.heap.size, 0, none⟩ = some (.int .i64 m) ∧ w'.cell? ⟨w7.heap.size, 1, none⟩ = some (.slice (some ⟨b7, 0, none⟩) xs.length xs.length) ∧ w'.cell? ⟨w7.heap.size, 2, none⟩ = some (.slice (some ⟨c7, 0, none⟩) ys.length ys.length))
    (first
      | go_keep
      | with_reducible exact keepT6 ((X12.below hb13).below hb14) ((Z12.below hb13).below hb14)
      | with_reducible exact keepT6 (X12.below hb13) (Z12.below hb13)
      | fail)
    (first
      | (go_at_call 12; (with_reducible refine (toTable_any m a cap xs c cup ys _ ?_ ?_ l1 l2).mono ?_); (exact HX12.drew); (exact HY12.drew); rintro e w13 ⟨b13, c13, rfl, l13, m13, row13, sow13, hb13'⟩; have hb13 := below_of_drew hb13')
      | (go_at_call 15; (with_reducible refine (eqTable_any m _ _ xs _ _ ys _ _ _ _ _ ?_ ?_ ?_ ?_).mono ?_); (exact R12.below hb13 (Nat.le_refl _)); (exact S12.below hb13 (Nat.le_refl _)); (exact trisAt_of_row row13 HX.fits); (exact trisAt_of_row sow13 HY.fits); rintro e w14 ⟨rfl, hb14⟩)
      | fail)
  have X14 := (X12.below hb13).below hb14
  have Z14 := (Z12.below hb13).below hb14
  have M14 := (M12.below hb13).below hb14
  have E14 := (E12.below hb13).below hb14
  have P14 := owns_below (owns_below P12 hb13) hb14
  have O14 := owns_below (owns_below O12 hb13) hb14
  have d14 := Below.on (Below.on d12 hb13 (Nat.le_refl _)) hb14 (Nat.le_refl _)
  have hs14 : w7.heap.size + 1 ≤ w14.heap.size := by have := hb13.size; have := hb14.size; omega
  clear R12 S12 X12 Z12 M12 E12 P12 O12 d12 hb13 hb13' hb14 row13 sow13 l13 m13 HX12 HY12 x0 x1 x2 z0 z1 z2 hs12
  obtain ⟨z0, z1, z2⟩ := Z14.2
  go_wp2_with fail
  refine (markTable_any m _ _ xs.length _ ys.length _ 1 w6.heap.size c7 w7.heap.size w14 M14 E14 (by omega) (by omega) (by omega) l1 l2 (by omega) (by omega)).mono ?_
  rintro e w15 ⟨rfl, I15⟩
  have X15 := X14.inG I15 (.inl (by omega))
  have P15 := owns_inG P14 I15 (.inr hO6)
  have O15 := owns_inG O14 I15 (.inl (by omega))
  have d15 := d14.trans ((I15.below w.heap.size (by omega) d14.size))
  have hs15 : w7.heap.size + 1 ≤ w15.heap.size := by have := I15.size; omega
  have hkn : ¬ ((1 + xs.length * 3 + ys.length * 3 : Nat) : Int) < 0 := by omega
  have hkd : decide (((1 + xs.length * 3 + ys.length * 3 : Nat) : Int) < 0) = false := by simpa using hkn
  clear X14 Z14 M14 E14 P14 O14 d14 I15 z0 z1 z2
  obtain ⟨_, _, e6, _, rv6, _⟩ := owns_at P15
  simp only [Value.slice.injEq, true_and] at e6
  obtain ⟨rfl, rfl⟩ := e6
  obtain ⟨_, _, e10, _, rv10, og10⟩ := owns_at O15
  simp only [Value.slice.injEq, true_and] at e10
  obtain ⟨rfl, rfl⟩ := e10
  go_wp2_with fail
  refine (eqClashS_self a10 a6 cs.length _ _ _ w15 hF rv10 rv6 (by omega)).mono ?_
  rintro e w16 ⟨rfl, hb16⟩
  have X16 := X15.below hb16
  have P16 := owns_below P15 hb16
  have og16 := og10.below hb16
  have d16 := Below.on d15 hb16 (Nat.le_refl _)
  have hs16 : w15.heap.size ≤ w16.heap.size := hb16.size
  clear X15 P15 O15 og10 rv6 rv10 d15 hb16 hkn hkd
  go_wp2_with fail
  refine (markClashS_any a10 cs.length _ 1 (w7.heap.size + 1) w15.heap.size w16 og16 (by omega) (by omega) (by omega) (by omega)).mono ?_
  rintro e w17 ⟨rfl, rm17, b17, h17, h17', o17⟩
  have I17 : InG (w7.heap.size + 1) w15.heap.size w16 w17 := InG.of_only o17 h17 h17'
  have X17 := X16.inG I17 (.inl (by omega))
  have P17 := owns_inG P16 I17 (.inr fun g hg => by have := hO6 g hg; omega)
  have d17 := d16.trans (I17.below w.heap.size (by omega) d16.size)
  clear X16 P16 og16 d16 o17 h17 h17'
  have hqn : decide (((1 + cs.length * 2 : Nat) : Int) < 0) = false := by rw [decide_eq_false_iff_not]; omega
  have hqq : (((1 + cs.length * 2 : Nat) : Int) != ((1 + cs.length * 2 : Nat) : Int)) = false := by simp
  go_wp2_with fail
  refine (heldClashS_any a10 cs.length _ 1 w17 rm17 (by omega) (by omega) (by omega)).mono ?_
  rintro e w19 ⟨rfl, hb19⟩
  have X19 := X17.below hb19
  have P19 := owns_below P17 hb19
  have rm19 := rm17.below hb19
  have d19 := Below.on d17 hb19 (Nat.le_refl _)
  clear X17 P17 rm17 d17 hb19 I17
  obtain ⟨x0, x1, x2⟩ := X19.2
  go_wp2_with fail
  refine (toTable_any m _ _ xs _ _ ys _ (HX.below d19 (Nat.le_refl _)) (HY.below d19 (Nat.le_refl _)) l1 l2).mono ?_
  rintro e w20 ⟨b20, c20, rfl, _, _, row20, sow20, hb20⟩
  have R20 := trisAt_of_row row20 HX.fits
  have S20 := trisAt_of_row sow20 HY.fits
  have P20 := owns_below P19 hb20
  have rm20 := rm19.below hb20
  have d20 := Below.on d19 hb20 (Nat.le_refl _)
  clear X19 P19 rm19 d19 hb20 row20 sow20 x0 x1 x2
  go_wp2_with fail
  refine (tableClash_any m _ _ xs _ _ ys _ R20 S20 WX WY l2).mono ?_
  rintro e w21 ⟨⟨v21, rfl, O21⟩, hb21⟩
  rw [hcs.out] at O21
  have P21 := owns_below P20 hb21
  have rm21 := rm20.below hb21
  have d21 := Below.on d20 hb21 (Nat.le_refl _)
  clear P20 rm20 d20 hb21 R20 S20
  obtain ⟨_, _, e6, _, rv6, _⟩ := owns_at P21
  simp only [Value.slice.injEq, true_and] at e6
  obtain ⟨rfl, rfl⟩ := e6
  obtain ⟨a21, cp21, rfl, _, rv21, _⟩ := owns_at O21
  go_wp2_with fail
  refine (eqClashS_self a21 a6 cs.length _ _ _ w21 hF rv21 rv6 (by omega)).mono ?_
  rintro e w22 ⟨rfl, hb22⟩
  have rm22 := rm21.below hb22
  have d22 := Below.on d21 hb22 (Nat.le_refl _)
  clear P21 O21 rv6 rv21 rm21 d21 hb22
  go_wp2_with fail
  refine (heldClashS_any a10 cs.length _ 1 w22 rm22 (by omega) (by omega) (by omega)).mono ?_
  rintro e w23 ⟨rfl, hb23⟩
  have d23 := Below.on d22 hb23 (Nat.le_refl _)
  go_wp2_with fail
  go_ret
  exact ⟨rfl, d23⟩
end Go.Proofs.Ytiloalbjcmpljaa
