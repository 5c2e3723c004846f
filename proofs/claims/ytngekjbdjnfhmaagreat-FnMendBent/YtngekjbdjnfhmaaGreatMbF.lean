/- The walk of FnMendBent. -/
import Derived.Test.YtngekjbdjnfhmaaGreatL4E
namespace Go.Proofs.YtngekjbdjnfhmaaGreat
open Go.ChangeShapes Go.WideShapes Go.ChangeAt Go.RowKit Go.Deep
set_option maxRecDepth 100000
theorem mendFar_bad (st : ByteArray) (a : Option Addr) (cap : Nat) (rs : List RuleT) (s : ByteArray) (w : World) (H : RulesAt w a rs) (hcap : rs.length ≤ cap) (hs : s.size ≤ maxLen) (hbad : gramOkB st rs = false ∨ textB s = false) :
    Calls Tryz.prog 11 #[.agg #[.string st, .slice a rs.length cap], .string s] w fun e w' => e = .returned (.int .i64 (-1)) ∧ Below w.heap.size w w' := by
  have hbw := (Below.refl w.heap.size w).alloc (Nat.le_refl _) (.cells #[.string st, .slice a rs.length cap] 25)
  go_enter Tryz.func11, Tryz.ntmps11
  go_wp2_with fail
  refine (gramOk_any _ _ _ rs _ (H.below hbw (Nat.le_refl _)) hcap).mono ?_
  rintro e w2 ⟨rfl, hb2⟩
  have c2 := Below.on hbw hb2 (Nat.le_refl _)
  clear hbw hb2
  cases hok : gramOkB st rs with
  | false =>
    clear hok hbad
    go_wp2
    go_ret
    exact ⟨rfl, c2⟩
  | true =>
    have ht : textB s = false := by
      rcases hbad with h | h
      · rw [hok] at h; cases h
      · exact h
    have HT := Lib.hid ht
    clear hok hbad ht
    go_wp2_with fail
    refine (textOk_any s _ hs).mono ?_
    rintro e w3 ⟨rfl, rfl⟩
    rw [HT.out]
    go_wp2
    go_ret
    exact ⟨rfl, c2⟩
def zE (i : Nat) : Value := if i = 2 then .string ⟨#[]⟩ else .int .i64 0
theorem zE_row (w : World) (T : TypeId) : (w.alloc (.cells #[.int .i64 0, .int .i64 0, .string ⟨#[]⟩] T)).rowIs w.heap.size T 3 zE :=
  World.rowIs_alloc w #[.int .i64 0, .int .i64 0, .string ⟨#[]⟩] T zE (fun i hi => by
    have : i = 0 ∨ i = 1 ∨ i = 2 := by simp at hi; omega
    rcases this with e | e | e <;> subst e <;> rfl)
theorem mendNext_bad (st : ByteArray) (a : Option Addr) (cap : Nat) (rs : List RuleT) (s : ByteArray) (w : World) (H : RulesAt w a rs) (hcap : rs.length ≤ cap) (hs : s.size ≤ maxLen) (hbad : gramOkB st rs = false ∨ textB s = false) :
    Calls Tryz.prog 9 #[.agg #[.string st, .slice a rs.length cap], .string s] w fun e w' => e = .returned (.tuple #[.agg #[.int .i64 0, .int .i64 0, .string ⟨#[]⟩], .bool false]) ∧ Below w.heap.size w w' := by
  have hbw := ((Below.refl w.heap.size w).alloc (Nat.le_refl _) (.cells #[.string st, .slice a rs.length cap] 25)).alloc (by simp) (.cells #[.int .i64 0, .int .i64 0, .string ⟨#[]⟩] 31)
  have R1 := zE_row (w.alloc (.cells #[.string st, .slice a rs.length cap] 25)) 31
  have hz1 : (w.alloc (.cells #[.string st, .slice a rs.length cap] 25)).heap.size = w.heap.size + 1 := by simp
  rw [hz1] at R1
  clear hz1
  go_enter Tryz.func9, Tryz.ntmps9
  go_wp2_with fail
  refine (mendFar_bad _ _ _ rs _ _ (H.below hbw (Nat.le_refl _)) hcap hs hbad).mono ?_
  rintro e w2 ⟨rfl, hb2⟩
  have R2 := R1.of_block (hb2.block _ R1.lt)
  have c2 := Below.on hbw hb2 (Nat.le_refl _)
  clear hbw hb2 R1 hbad
  have c0 := R2.cell (i := 0) (by omega)
  have c1 := R2.cell (i := 1) (by omega)
  have c2' := R2.cell (i := 2) (by omega)
  have f0 := R2.frozen 0
  have f1 := R2.frozen 1
  have f2 := R2.frozen 2
  have R3 := ((R2.set 0 (.int .i64 0)).set 1 (.int .i64 0)).set 2 (.string ⟨#[]⟩)
  go_wp2
  have y0 := R3.cell (i := 0) (by omega)
  have y1 := R3.cell (i := 1) (by omega)
  have y2 := R3.cell (i := 2) (by omega)
  exact bodyPost_ret (v := .tuple #[.agg #[.int .i64 0, .int .i64 0, .string ⟨#[]⟩], .bool false]) (by simp [results, Tryz.results9, go_sem, y0, y1, y2]) rfl ⟨rfl, ((c2.setCell (Nat.le_succ _) _).setCell (Nat.le_succ _) _).setCell (Nat.le_succ _) _⟩
theorem mendRun_bad (st : ByteArray) (a : Option Addr) (cap : Nat) (rs : List RuleT) (s : ByteArray) (w : World) (H : RulesAt w a rs) (hcap : rs.length ≤ cap) (hs : s.size ≤ maxLen) (hbad : gramOkB st rs = false ∨ textB s = false) :
    Calls Tryz.prog 10 #[.agg #[.string st, .slice a rs.length cap], .string s] w fun e w' => e = .returned (.tuple #[.slice none 0 0, .string ⟨#[]⟩, .bool false]) ∧ Below w.heap.size w w' := by
  have hbw := (Below.refl w.heap.size w).alloc (Nat.le_refl _) (.cells #[.string st, .slice a rs.length cap] 25)
  go_enter Tryz.func10, Tryz.ntmps10
  go_wp2_with fail
  refine (mendFar_bad _ _ _ rs _ _ (H.below hbw (Nat.le_refl _)) hcap hs hbad).mono ?_
  rintro e w2 ⟨rfl, hb2⟩
  have c2 := Below.on hbw hb2 (Nat.le_refl _)
  clear hbw hb2 hbad
  go_wp2
  exact bodyPost_ret (v := .tuple #[.slice none 0 0, .string ⟨#[]⟩, .bool false]) (by simp [results, Tryz.results10, go_sem]) rfl ⟨rfl, c2⟩
set_option maxHeartbeats 2000000 in
theorem mendBent_law (p : Option Addr) (n cp : Nat) (w : World) (H : BytesAt w p n cp) :
    Calls Tryz.prog 3 #[.slice p n cp] w fun e w' => e = .returned (.bool true) ∧ Below w.heap.size w w' := by
  by_cases h1 : (1048576 : Int) < (n : Int)
  · go_enter Tryz.func3, Tryz.ntmps3
    go_wp2
    go_ret
    exact ⟨rfl, Below.refl _ _⟩
  go_enter Tryz.func3, Tryz.ntmps3
  go_wp2_with fail
  refine (drawMendNext_any p n cp _ H).mono ?_
  rintro e w2 ⟨b, off, cap, st, rs, s, rfl, hcap, HU, hst, hs, _, hb2⟩
  have hsm : s.size ≤ maxLen := by unfold maxLen; omega
  have hal := (Below.refl w2.heap.size w2).alloc (Nat.le_refl _) (.cells #[.string st, .slice (some ⟨b, off, none⟩) rs.length cap] 25)
  have B3 := Below.on hb2 hal (Nat.le_refl _)
  have G3 := Box2.new w2 (.string st) (.slice (some ⟨b, off, none⟩) rs.length cap) 25
  have U3 := HU.below hal (Nat.le_refl _)
  clear hb2 hal HU
  go_wp2_with fail
  refine (gramOk_any _ _ _ rs _ U3 hcap).mono ?_
  rintro e w4 ⟨rfl, hb4⟩
  have B4 := Below.on B3 hb4 (Nat.le_refl _)
  have G4 := G3.below hb4
  have U4 := U3.below hb4 (Nat.le_refl _)
  clear B3 G3 U3 hb4
  cases hok : gramOkB st rs with
  | false =>
    have HOK := Lib.hid hok
    clear hok
    obtain ⟨hg, g0, g1⟩ := G4
    go_wp2_with fail
    refine (sGramOk_any _ _ _ rs _ U4 hcap).mono ?_
    rintro e w5 ⟨rfl, hb5⟩
    rw [HOK.out]
    have B5 := Below.on B4 hb5 (Nat.le_refl _)
    have G5 := Box2.below ⟨hg, g0, g1⟩ hb5
    have U5 := U4.below hb5 (Nat.le_refl _)
    clear B4 hg g0 g1 U4 hb5
    have hbad : gramOkB st rs = false ∨ textB s = false := .inl HOK.out
    have HB := Lib.hid hbad
    clear hbad
    obtain ⟨hg, g0, g1⟩ := G5
    go_wp2_with fail
    refine (mendNext_bad _ _ _ rs _ _ U5 hcap hsm HB.out).mono ?_
    rintro e w6 ⟨rfl, hb6⟩
    have B6 := Below.on B5 hb6 (Nat.le_refl _)
    have G6 := Box2.below ⟨hg, g0, g1⟩ hb6
    have U6 := U5.below hb6 (Nat.le_refl _)
    have hs6 := B6.size
    clear B5 hg g0 g1 U5 hb6
    have hal := (Below.refl w6.heap.size w6).alloc (Nat.le_refl _) (.cells #[.int .i64 0, .int .i64 0, .string ⟨#[]⟩] 31)
    have B7 := Below.on B6 hal (Nat.le_refl _)
    have U7 := U6.below hal (Nat.le_refl _)
    have G7 := G6.below hal
    obtain ⟨hg, g0, g1⟩ := G6
    clear hal B6 U6
    go_wp2_with fail
    refine (mendRun_bad _ _ _ rs _ _ U7 hcap hsm HB.out).mono ?_
    rintro e w8 ⟨rfl, hb8⟩
    have B8 := Below.on B7 hb8 (Nat.le_refl _)
    have G8 := G7.below hb8
    have U8 := U7.below hb8 (Nat.le_refl _)
    clear B7 hg g0 g1 U7 hb8 G7
    obtain ⟨hg, g0, g1⟩ := G8
    go_wp2_with fail
    refine (mendFar_bad _ _ _ rs _ _ U8 hcap hsm HB.out).mono ?_
    rintro e w9 ⟨rfl, hb9⟩
    have B9 := Below.on B8 hb9 (Nat.le_refl _)
    clear B8 hg g0 g1 U8 hb9
    go_wp2
    go_ret
    exact ⟨rfl, B9⟩
  | true =>
    have HOK := Lib.hid hok
    clear hok
    cases ht : textB s with
    | false =>
      have HT := Lib.hid ht
      clear ht
      go_wp2_with fail
      refine (textOk_any s _ hsm).mono ?_
      rintro e wt ⟨rfl, rfl⟩
      rw [HT.out]
      obtain ⟨hg, g0, g1⟩ := G4
      go_wp2_with fail
      refine (sGramOk_any _ _ _ rs _ U4 hcap).mono ?_
      rintro e w5 ⟨rfl, hb5⟩
      rw [HOK.out]
      have B5 := Below.on B4 hb5 (Nat.le_refl _)
      have G5 := Box2.below ⟨hg, g0, g1⟩ hb5
      have U5 := U4.below hb5 (Nat.le_refl _)
      clear B4 hg g0 g1 U4 hb5
      go_wp2_with fail
      refine (sTextOk_any s _ hsm).mono ?_
      rintro e wt ⟨rfl, rfl⟩
      rw [HT.out]
      have hbad : gramOkB st rs = false ∨ textB s = false := .inr HT.out
      have HB := Lib.hid hbad
      clear hbad
      obtain ⟨hg, g0, g1⟩ := G5
      go_wp2_with fail
      refine (mendNext_bad _ _ _ rs _ _ U5 hcap hsm HB.out).mono ?_
      rintro e w6 ⟨rfl, hb6⟩
      have B6 := Below.on B5 hb6 (Nat.le_refl _)
      have G6 := Box2.below ⟨hg, g0, g1⟩ hb6
      have U6 := U5.below hb6 (Nat.le_refl _)
      have hs6 := B6.size
      clear B5 hg g0 g1 U5 hb6
      have hal := (Below.refl w6.heap.size w6).alloc (Nat.le_refl _) (.cells #[.int .i64 0, .int .i64 0, .string ⟨#[]⟩] 31)
      have B7 := Below.on B6 hal (Nat.le_refl _)
      have U7 := U6.below hal (Nat.le_refl _)
      have G7 := G6.below hal
      obtain ⟨hg, g0, g1⟩ := G6
      clear hal B6 U6
      go_wp2_with fail
      refine (mendRun_bad _ _ _ rs _ _ U7 hcap hsm HB.out).mono ?_
      rintro e w8 ⟨rfl, hb8⟩
      have B8 := Below.on B7 hb8 (Nat.le_refl _)
      have G8 := G7.below hb8
      have U8 := U7.below hb8 (Nat.le_refl _)
      clear B7 hg g0 g1 U7 hb8 G7
      obtain ⟨hg, g0, g1⟩ := G8
      go_wp2_with fail
      refine (mendFar_bad _ _ _ rs _ _ U8 hcap hsm HB.out).mono ?_
      rintro e w9 ⟨rfl, hb9⟩
      have B9 := Below.on B8 hb9 (Nat.le_refl _)
      clear B8 hg g0 g1 U8 hb9
      go_wp2
      go_ret
      exact ⟨rfl, B9⟩
    | true =>
      have HT := Lib.hid ht
      clear ht
      go_wp2_with fail
      refine (textOk_any s _ hsm).mono ?_
      rintro e wt ⟨rfl, rfl⟩
      rw [HT.out]
      obtain ⟨hg, g0, g1⟩ := G4
      go_wp2_with fail
      refine (sGramOk_any _ _ _ rs _ U4 hcap).mono ?_
      rintro e w5 ⟨rfl, hb5⟩
      rw [HOK.out]
      have B5 := Below.on B4 hb5 (Nat.le_refl _)
      have G5 := Box2.below ⟨hg, g0, g1⟩ hb5
      have U5 := U4.below hb5 (Nat.le_refl _)
      clear B4 hg g0 g1 U4 hb5
      go_wp2_with fail
      refine (sTextOk_any s _ hsm).mono ?_
      rintro e wt ⟨rfl, rfl⟩
      rw [HT.out]
      obtain ⟨hg, g0, g1⟩ := G5
      go_wp2_with fail
      refine (sGramOk_any _ _ _ rs _ U5 hcap).mono ?_
      rintro e w6 ⟨rfl, hb6⟩
      rw [HOK.out]
      have B6 := Below.on B5 hb6 (Nat.le_refl _)
      clear B5 hg g0 g1 U5 hb6
      go_wp2_with fail
      refine (sTextOk_any s _ hsm).mono ?_
      rintro e wt ⟨rfl, rfl⟩
      rw [HT.out]
      go_wp2
      go_ret
      exact ⟨rfl, B6⟩
end Go.Proofs.YtngekjbdjnfhmaaGreat
