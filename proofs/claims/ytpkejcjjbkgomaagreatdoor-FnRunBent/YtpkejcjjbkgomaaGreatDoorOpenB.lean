/- The walk of FnRunBent. -/
import Derived.Test.YtpkejcjjbkgomaaGreatDoorL4E
import Derived.Test.YtpkejcjjbkgomaaGreatDoorNuE
import Derived.Test.YtpkejcjjbkgomaaGreatDoorRows
import Derived.Test.YtpkejcjjbkgomaaGreatDoorLawB
import Derived.Deep.SlicePairs
import Derived.Lib.SmallJoins
import Derived.OpenShut
import Derived.ShutString
import Derived.ChangeOld
import Derived.Below
namespace Go.Proofs.YtpkejcjjbkgomaaGreatDoor
open Go.ChangeShapes Go.WideShapes Go.ChangeAt Go.RowKit Go.Deep
set_option maxRecDepth 100000
def emT : Value := .agg #[.string ⟨#[]⟩, .int .i64 0, .slice none 0 0]
def noP : Value := .agg #[.string ⟨#[]⟩, .slice none 0 0, .int .i64 0, .slice none 0 0, .slice none 0 0]
def zP (i : Nat) : Value := if i = 0 then .string ⟨#[]⟩ else if i = 2 then .int .i64 0 else .slice none 0 0
theorem zP_row (w : World) (T : TypeId) : (w.alloc (.cells #[.string ⟨#[]⟩, .slice none 0 0, .int .i64 0, .slice none 0 0, .slice none 0 0] T)).rowIs w.heap.size T 5 zP :=
  World.rowIs_alloc w #[.string ⟨#[]⟩, .slice none 0 0, .int .i64 0, .slice none 0 0, .slice none 0 0] T zP (fun i hi => by
    have : i = 0 ∨ i = 1 ∨ i = 2 ∨ i = 3 ∨ i = 4 := by simp at hi; omega
    rcases this with e | e | e | e | e <;> subst e <;> rfl)
set_option maxHeartbeats 2000000 in
theorem parserOf_bad (st : ByteArray) (a : Option Addr) (cap : Nat) (rs : List RuleT) (s : ByteArray) (w : World) (H : RulesAt w a rs) (hcap : rs.length ≤ cap) (hs : s.size ≤ maxLen) (hbad : gramOkB st rs = false ∨ textB s = false) :
    Calls Tryz.prog 48 #[.agg #[.string st, .slice a rs.length cap], .string s] w fun e w' => e = .returned (.tuple #[noP, .int .i64 3]) ∧ Below w.heap.size w w' := by
  have hbw := ((Below.refl w.heap.size w).alloc (Nat.le_refl _) (.cells #[.string st, .slice a rs.length cap] 25)).alloc (by simp) (.cells #[.string ⟨#[]⟩, .slice none 0 0, .int .i64 0, .slice none 0 0, .slice none 0 0] 92)
  have R1 := zP_row (w.alloc (.cells #[.string st, .slice a rs.length cap] 25)) 92
  have hz1 : (w.alloc (.cells #[.string st, .slice a rs.length cap] 25)).heap.size = w.heap.size + 1 := by simp
  rw [hz1] at R1
  clear hz1
  go_enter Tryz.func48, Tryz.ntmps48
  go_wp2_with fail
  refine (gramOk_any _ _ _ rs _ (H.below hbw (Nat.le_refl _)) hcap).mono ?_
  rintro e w2 ⟨rfl, hb2⟩
  have R2 := R1.of_block (hb2.block _ R1.lt)
  have cb := Below.on hbw hb2 (Nat.le_refl _)
  clear hbw hb2 R1
  cases hok : gramOkB st rs with
  | false =>
    clear hok hbad
    have c0 := R2.cell (i := 0) (by omega)
    have c1 := R2.cell (i := 1) (by omega)
    have c2 := R2.cell (i := 2) (by omega)
    have c3 := R2.cell (i := 3) (by omega)
    have c4 := R2.cell (i := 4) (by omega)
    have f0 := R2.frozen 0
    have f1 := R2.frozen 1
    have f2 := R2.frozen 2
    have f3 := R2.frozen 3
    have f4 := R2.frozen 4
    have R3 := ((((R2.set 0 (.string ⟨#[]⟩)).set 1 (.slice none 0 0)).set 2 (.int .i64 0)).set 3 (.slice none 0 0)).set 4 (.slice none 0 0)
    go_wp2
    have y0 := R3.cell (i := 0) (by omega)
    have y1 := R3.cell (i := 1) (by omega)
    have y2 := R3.cell (i := 2) (by omega)
    have y3 := R3.cell (i := 3) (by omega)
    have y4 := R3.cell (i := 4) (by omega)
    exact bodyPost_ret (v := .tuple #[noP, .int .i64 3]) (by simp [noP, results, Tryz.results48, go_sem, y0, y1, y2, y3, y4]) rfl ⟨rfl, ((((cb.setCell (Nat.le_succ _) _).setCell (Nat.le_succ _) _).setCell (Nat.le_succ _) _).setCell (Nat.le_succ _) _).setCell (Nat.le_succ _) _⟩
  | true =>
    have ht : textB s = false := by
      rcases hbad with h | h
      · rw [hok] at h; cases h
      · exact h
    have HT := Lib.hid ht
    clear hok hbad ht
    go_wp2_with fail
    refine (textOk_any s _ hs).mono ?_
    rintro e w3 ⟨rfl, rfl⟩
    rw [HT.out]
    have c0 := R2.cell (i := 0) (by omega)
    have c1 := R2.cell (i := 1) (by omega)
    have c2 := R2.cell (i := 2) (by omega)
    have c3 := R2.cell (i := 3) (by omega)
    have c4 := R2.cell (i := 4) (by omega)
    have f0 := R2.frozen 0
    have f1 := R2.frozen 1
    have f2 := R2.frozen 2
    have f3 := R2.frozen 3
    have f4 := R2.frozen 4
    have R3 := ((((R2.set 0 (.string ⟨#[]⟩)).set 1 (.slice none 0 0)).set 2 (.int .i64 0)).set 3 (.slice none 0 0)).set 4 (.slice none 0 0)
    go_wp2
    have y0 := R3.cell (i := 0) (by omega)
    have y1 := R3.cell (i := 1) (by omega)
    have y2 := R3.cell (i := 2) (by omega)
    have y3 := R3.cell (i := 3) (by omega)
    have y4 := R3.cell (i := 4) (by omega)
    exact bodyPost_ret (v := .tuple #[noP, .int .i64 3]) (by simp [noP, results, Tryz.results48, go_sem, y0, y1, y2, y3, y4]) rfl ⟨rfl, ((((cb.setCell (Nat.le_succ _) _).setCell (Nat.le_succ _) _).setCell (Nat.le_succ _) _).setCell (Nat.le_succ _) _).setCell (Nat.le_succ _) _⟩
def zTr (i : Nat) : Value := if i = 0 then .string ⟨#[]⟩ else if i = 1 then .int .i64 0 else .slice none 0 0
theorem zTr_row (w : World) (T : TypeId) : (w.alloc (.cells #[.string ⟨#[]⟩, .int .i64 0, .slice none 0 0] T)).rowIs w.heap.size T 3 zTr :=
  World.rowIs_alloc w #[.string ⟨#[]⟩, .int .i64 0, .slice none 0 0] T zTr (fun i hi => by
    have : i = 0 ∨ i = 1 ∨ i = 2 := by simp at hi; omega
    rcases this with e | e | e <;> subst e <;> rfl)
theorem runSteps_bad (st : ByteArray) (a : Option Addr) (cap : Nat) (rs : List RuleT) (s : ByteArray) (w : World) (H : RulesAt w a rs) (hcap : rs.length ≤ cap) (hs : s.size ≤ maxLen) (hbad : gramOkB st rs = false ∨ textB s = false) :
    Calls Tryz.prog 47 #[.agg #[.string st, .slice a rs.length cap], .string s] w fun e w' => e = .returned (.tuple #[.slice none 0 0, .int .i64 0, .int .i64 3]) ∧ Below w.heap.size w w' := by
  have hbw := (Below.refl w.heap.size w).alloc (Nat.le_refl _) (.cells #[.string st, .slice a rs.length cap] 25)
  go_enter Tryz.func47, Tryz.ntmps47
  go_wp2_with fail
  refine (parserOf_bad _ _ _ rs _ _ (H.below hbw (Nat.le_refl _)) hcap hs hbad).mono ?_
  rintro e w2 ⟨rfl, hb2⟩
  have c2 := Below.on hbw hb2 (Nat.le_refl _)
  clear hbw hb2 hbad
  unfold noP
  go_wp2
  exact bodyPost_ret (v := .tuple #[.slice none 0 0, .int .i64 0, .int .i64 3]) (by simp [results, Tryz.results47, go_sem]) rfl ⟨rfl, c2.alloc c2.size _⟩
theorem runOf_bad (st : ByteArray) (a : Option Addr) (cap : Nat) (rs : List RuleT) (s : ByteArray) (w : World) (H : RulesAt w a rs) (hcap : rs.length ≤ cap) (hs : s.size ≤ maxLen) (hbad : gramOkB st rs = false ∨ textB s = false) :
    Calls Tryz.prog 17 #[.agg #[.string st, .slice a rs.length cap], .string s] w fun e w' => e = .returned (.tuple #[emT, .int .i64 0, .int .i64 3]) ∧ Below w.heap.size w w' := by
  have hbw := ((Below.refl w.heap.size w).alloc (Nat.le_refl _) (.cells #[.string st, .slice a rs.length cap] 25)).alloc (by simp) (.cells #[.string ⟨#[]⟩, .int .i64 0, .slice none 0 0] 30)
  have R1 := zTr_row (w.alloc (.cells #[.string st, .slice a rs.length cap] 25)) 30
  have hz1 : (w.alloc (.cells #[.string st, .slice a rs.length cap] 25)).heap.size = w.heap.size + 1 := by simp
  rw [hz1] at R1
  clear hz1
  go_enter Tryz.func17, Tryz.ntmps17
  go_wp2_with fail
  refine (runSteps_bad _ _ _ rs _ _ (H.below hbw (Nat.le_refl _)) hcap hs hbad).mono ?_
  rintro e w2 ⟨rfl, hb2⟩
  have R2 := R1.of_block (hb2.block _ R1.lt)
  have cb := Below.on hbw hb2 (Nat.le_refl _)
  clear hbw hb2 R1 hbad
  have c0 := R2.cell (i := 0) (by omega)
  have c1 := R2.cell (i := 1) (by omega)
  have c2 := R2.cell (i := 2) (by omega)
  have f0 := R2.frozen 0
  have f1 := R2.frozen 1
  have f2 := R2.frozen 2
  have R3 := ((R2.set 0 (.string ⟨#[]⟩)).set 1 (.int .i64 0)).set 2 (.slice none 0 0)
  go_wp2
  have y0 := R3.cell (i := 0) (by omega)
  have y1 := R3.cell (i := 1) (by omega)
  have y2 := R3.cell (i := 2) (by omega)
  exact bodyPost_ret (v := .tuple #[emT, .int .i64 0, .int .i64 3]) (by simp [emT, results, Tryz.results17, go_sem, y0, y1, y2]) rfl ⟨rfl, ((cb.setCell (Nat.le_succ _) _).setCell (Nat.le_succ _) _).setCell (Nat.le_succ _) _⟩
theorem nextOf_bad (st : ByteArray) (a : Option Addr) (cap : Nat) (rs : List RuleT) (s : ByteArray) (w : World) (H : RulesAt w a rs) (hcap : rs.length ≤ cap) (hs : s.size ≤ maxLen) (hbad : gramOkB st rs = false ∨ textB s = false) :
    Calls Tryz.prog 18 #[.agg #[.string st, .slice a rs.length cap], .string s] w fun e w' => e = .returned (.tuple #[.string ⟨#[]⟩, .int .i64 3]) ∧ Below w.heap.size w w' := by
  have hbw := ((Below.refl w.heap.size w).alloc (Nat.le_refl _) (.cells #[.string st, .slice a rs.length cap] 25)).alloc (by simp) (.cells #[.string s] 9)
  go_enter Tryz.func18, Tryz.ntmps18
  go_wp2_with fail
  refine (parserOf_bad _ _ _ rs _ _ (H.below hbw (Nat.le_refl _)) hcap hs hbad).mono ?_
  rintro e w2 ⟨rfl, hb2⟩
  have c2 := Below.on hbw hb2 (Nat.le_refl _)
  clear hbw hb2 hbad
  unfold noP
  go_wp2
  exact bodyPost_ret (v := .tuple #[.string ⟨#[]⟩, .int .i64 3]) (by simp [results, Tryz.results18, go_sem]) rfl ⟨rfl, c2.alloc c2.size _⟩
theorem stepsTree_bad (st : ByteArray) (a : Option Addr) (cap : Nat) (rs : List RuleT) (s : ByteArray) (w : World) (H : RulesAt w a rs) (hcap : rs.length ≤ cap) (hs : s.size ≤ maxLen) (hbad : gramOkB st rs = false ∨ textB s = false) :
    Calls Tryz.prog 19 #[.agg #[.string st, .slice a rs.length cap], .string s, .slice none 0 0] w fun e w' => e = .returned (.tuple #[emT, .bool false]) ∧ Below w.heap.size w w' := by
  have hbw := ((Below.refl w.heap.size w).alloc (Nat.le_refl _) (.cells #[.string st, .slice a rs.length cap] 25)).alloc (by simp) (.cells #[.string ⟨#[]⟩, .int .i64 0, .slice none 0 0] 30)
  have R1 := zTr_row (w.alloc (.cells #[.string st, .slice a rs.length cap] 25)) 30
  have hz1 : (w.alloc (.cells #[.string st, .slice a rs.length cap] 25)).heap.size = w.heap.size + 1 := by simp
  rw [hz1] at R1
  clear hz1
  go_enter Tryz.func19, Tryz.ntmps19
  go_wp2_with fail
  refine (gramOk_any _ _ _ rs _ (H.below hbw (Nat.le_refl _)) hcap).mono ?_
  rintro e w2 ⟨rfl, hb2⟩
  have R2 := R1.of_block (hb2.block _ R1.lt)
  have cb := Below.on hbw hb2 (Nat.le_refl _)
  clear hbw hb2 R1
  cases hok : gramOkB st rs with
  | false =>
    clear hok hbad
    have c0 := R2.cell (i := 0) (by omega)
    have c1 := R2.cell (i := 1) (by omega)
    have c2 := R2.cell (i := 2) (by omega)
    have f0 := R2.frozen 0
    have f1 := R2.frozen 1
    have f2 := R2.frozen 2
    have R3 := ((R2.set 0 (.string ⟨#[]⟩)).set 1 (.int .i64 0)).set 2 (.slice none 0 0)
    go_wp2
    have y0 := R3.cell (i := 0) (by omega)
    have y1 := R3.cell (i := 1) (by omega)
    have y2 := R3.cell (i := 2) (by omega)
    exact bodyPost_ret (v := .tuple #[emT, .bool false]) (by simp [emT, results, Tryz.results19, go_sem, y0, y1, y2]) rfl ⟨rfl, ((cb.setCell (Nat.le_succ _) _).setCell (Nat.le_succ _) _).setCell (Nat.le_succ _) _⟩
  | true =>
    have ht : textB s = false := by
      rcases hbad with h | h
      · rw [hok] at h; cases h
      · exact h
    have HT := Lib.hid ht
    clear hok hbad ht
    go_wp2_with fail
    refine (textOk_any s _ hs).mono ?_
    rintro e w3 ⟨rfl, rfl⟩
    rw [HT.out]
    have c0 := R2.cell (i := 0) (by omega)
    have c1 := R2.cell (i := 1) (by omega)
    have c2 := R2.cell (i := 2) (by omega)
    have f0 := R2.frozen 0
    have f1 := R2.frozen 1
    have f2 := R2.frozen 2
    have R3 := ((R2.set 0 (.string ⟨#[]⟩)).set 1 (.int .i64 0)).set 2 (.slice none 0 0)
    go_wp2
    have y0 := R3.cell (i := 0) (by omega)
    have y1 := R3.cell (i := 1) (by omega)
    have y2 := R3.cell (i := 2) (by omega)
    exact bodyPost_ret (v := .tuple #[emT, .bool false]) (by simp [emT, results, Tryz.results19, go_sem, y0, y1, y2]) rfl ⟨rfl, ((cb.setCell (Nat.le_succ _) _).setCell (Nat.le_succ _) _).setCell (Nat.le_succ _) _⟩
set_option maxHeartbeats 1000000 in
theorem drawRunOf_any (a : Option Addr) (n cap : Nat) (w : World) (H : BytesAt w a n cap) :
    Calls Tryz.prog 13 #[.slice a n cap] w (DrawnGS w) := by
  go_enter Tryz.func13, Tryz.ntmps13
  go_wp2_with fail
  have hZ : BoxG (w.alloc (.cells #[.string ⟨#[]⟩, .slice none 0 0] 25)) w.heap.size (.string ⟨#[]⟩) (.slice none 0 0) := blk_new _ _ rfl
  refine (l4Draw_any a n cap _ (H.alloc _)).mono ?_
  rintro e w2 ⟨b, off, cp, st, rs, s, rfl, hc, HU, hst, hs, hbl, hb2⟩
  have Z2 := hZ.below hb2
  have B2 : Below w.heap.size w w2 := ((Below.refl _ _).alloc (Nat.le_refl _) _).trans (hb2.mono (by simp))
  have hbw : w.heap.size < b := by simp at hbl; omega
  obtain ⟨z0, z1, zf0, zf1⟩ := Z2.cells
  clear hZ hb2
  go_wp2
  have E6 := gs_end HU B2 hbw (.string st) (.slice (some ⟨b, off, none⟩) rs.length cp)
  obtain ⟨y0, y1, _, _⟩ := ((Z2.set0 (.string st)).set1 (.slice (some ⟨b, off, none⟩) rs.length cp)).cells
  exact bodyPost_ret (v := .tuple #[.agg #[.string st, .slice (some ⟨b, off, none⟩) rs.length cp], .string s]) (by simp [results, Tryz.results13, go_sem, y0, y1]) rfl ⟨b, off, cp, st, rs, s, rfl, hc, E6.1, hst, hs, Nat.le_of_lt hbw, E6.2⟩
/-- TreeSame of two empty trees, as it is still to be proved -/
theorem sameLeaf (w : World) (hp : PowB w.heap.size w) : Calls Tryz.prog 12 #[emT, emT] w fun e w' => e = .returned (.bool true) ∧ Below w.heap.size w w' := by
  have HT : TrP w 0 emT (.node ⟨#[]⟩ 0 []) := ⟨⟨#[]⟩, 0, [], none, 0, fun _ => False, rfl, rfl, by decide, rfl, Nat.zero_le _, Nat.le_refl _, fun _ hi => absurd hi (Nat.not_lt_zero _), fun _ hi => absurd hi (Nat.not_lt_zero _), fun _ hk => hk.elim⟩
  have hz : (Tr.node ⟨#[]⟩ 0 []).sz = 1 := by rw [Tr.sz]; rfl
  refine (treeSame_any _ _ _ _ w 0 0 HT HT (by rw [hz]; omega) (by rw [hz]; omega) (by rw [hz]; omega) hp).mono ?_
  rintro e w' ⟨rfl, hb⟩
  exact ⟨by rw [sameTr_true rfl], hb⟩
set_option maxHeartbeats 2000000 in
theorem runBent_law (p : Option Addr) (n cp : Nat) (w : World) (H : BytesAt w p n cp) (hp : PowB w.heap.size w) :
    Calls Tryz.prog 4 #[.slice p n cp] w fun e w' => e = .returned (.bool true) ∧ Below w.heap.size w w' := by
  have HP := Lib.hid hp
  clear hp
  by_cases h1 : (1048576 : Int) < (n : Int)
  · go_enter Tryz.func4, Tryz.ntmps4
    go_wp2
    go_ret
    exact ⟨rfl, Below.refl _ _⟩
  go_enter Tryz.func4, Tryz.ntmps4
  go_wp2_with fail
  refine (drawRunOf_any p n cp _ H).mono ?_
  rintro e w2 ⟨b, off, cap, st, rs, s, rfl, hcap, HU, hst, hs, _, hb2⟩
  have hsm : s.size ≤ maxLen := by unfold maxLen; omega
  have hal := (Below.refl w2.heap.size w2).alloc (Nat.le_refl _) (.cells #[.string st, .slice (some ⟨b, off, none⟩) rs.length cap] 25)
  have B3 := Below.on hb2 hal (Nat.le_refl _)
  have G3 := Box2.new w2 (.string st) (.slice (some ⟨b, off, none⟩) rs.length cap) 25
  have U3 := HU.below hal (Nat.le_refl _)
  clear hb2 hal HU
  obtain ⟨hg, g0, g1⟩ := G3
  go_wp2_with fail
  refine (gramOk_any _ _ _ rs _ U3 hcap).mono ?_
  rintro e w3 ⟨rfl, hb3⟩
  have B4 := Below.on B3 hb3 (Nat.le_refl _)
  have G4 := Box2.below ⟨hg, g0, g1⟩ hb3
  have U4 := U3.below hb3 (Nat.le_refl _)
  clear B3 hg g0 g1 U3 hb3
  obtain ⟨hg, g0, g1⟩ := G4
  cases hok : gramOkB st rs with
  | false =>
    have HK := Lib.hid hok
    have HB : Hid (gramOkB st rs = false ∨ textB s = false) := .inl hok
    clear hok
    go_wp2_with fail
    refine (sGramOk_any _ _ _ rs _ U4 hcap).mono ?_
    rintro e w5 ⟨rfl, hb5⟩
    have B5 := Below.on B4 hb5 (Nat.le_refl _)
    have G5 := Box2.below ⟨hg, g0, g1⟩ hb5
    have U5 := U4.below hb5 (Nat.le_refl _)
    clear B4 hg g0 g1 U4 hb5
    obtain ⟨hg, g0, g1⟩ := G5
    rw [HK.out]
    go_wp2_with fail
    refine (runOf_bad _ _ _ rs _ _ U5 hcap hsm HB.out).mono ?_
    rintro e w6 ⟨rfl, hb6⟩
    have B6 := Below.on B5 hb6 (Nat.le_refl _)
    have G6 := Box2.below ⟨hg, g0, g1⟩ hb6
    have U6 := U5.below hb6 (Nat.le_refl _)
    clear B5 hg g0 g1 U5 hb6
    obtain ⟨hg, g0, g1⟩ := G6
    unfold emT
    have al := (Below.refl w6.heap.size w6).alloc (Nat.le_refl _) (.cells #[.string ⟨#[]⟩, .int .i64 0, .slice none 0 0] 30)
    have Z : BoxT (w6.alloc (.cells #[.string ⟨#[]⟩, .int .i64 0, .slice none 0 0] 30)) w6.heap.size (.string ⟨#[]⟩) (.int .i64 0) (.slice none 0 0) := blk_new _ _ rfl
    have Ua := U6.below al (Nat.le_refl _)
    have Ga := Box2.below ⟨hg, g0, g1⟩ al
    have Ba := Below.on B6 al (Nat.le_refl _)
    clear al hg g0 g1 U6 B6
    obtain ⟨hg, g0, g1⟩ := Ga
    go_wp2_with fail
    refine (nextOf_bad _ _ _ rs _ _ Ua hcap hsm HB.out).mono ?_
    rintro e w7 ⟨rfl, hb7⟩
    have B7 := Below.on Ba hb7 (Nat.le_refl _)
    have G7 := Box2.below ⟨hg, g0, g1⟩ hb7
    have U7 := Ua.below hb7 (Nat.le_refl _)
    have Z7 := Z.below hb7
    clear Ba hg g0 g1 Ua hb7 Z
    obtain ⟨hg, g0, g1⟩ := G7
    go_wp2_with fail
    refine (stepsTree_bad _ _ _ rs _ _ U7 hcap hsm HB.out).mono ?_
    rintro e w8 ⟨rfl, hb8⟩
    have B8 := Below.on B7 hb8 (Nat.le_refl _)
    have Z8' := Z7.below hb8
    have al8 := (Below.refl w8.heap.size w8).alloc (Nat.le_refl _) (.cells #[.string ⟨#[]⟩, .int .i64 0, .slice none 0 0] 30)
    have Z8 := Z8'.below al8
    have B8' := Below.on B8 al8 (Nat.le_refl _)
    clear B7 hg g0 g1 U7 hb8 Z7 Z8' al8 B8
    obtain ⟨x0, x1, x2, _, _, _⟩ := Z8.cells
    unfold emT
    go_wp2_with fail
    refine (sameLeaf _ ((HP.out.on B8').up B8'.size)).mono ?_
    rintro e w9 ⟨rfl, hb9⟩
    have B9 := Below.on B8' hb9 (Nat.le_refl _)
    clear B8' hb9 x0 x1 x2 Z8
    go_wp2
    go_ret
    exact ⟨rfl, B9⟩
  | true =>
    have HK := Lib.hid hok
    clear hok
    go_wp2_with fail
    refine (textOk_any s _ hsm).mono ?_
    rintro e wt ⟨rfl, rfl⟩
    cases ht : textB s with
    | true =>
      have HT := Lib.hid ht
      clear ht
      go_wp2_with fail
      refine (sGramOk_any _ _ _ rs _ U4 hcap).mono ?_
      rintro e w5 ⟨rfl, hb5⟩
      have B5 := Below.on B4 hb5 (Nat.le_refl _)
      have G5 := Box2.below ⟨hg, g0, g1⟩ hb5
      have U5 := U4.below hb5 (Nat.le_refl _)
      clear B4 hg g0 g1 U4 hb5
      obtain ⟨hg, g0, g1⟩ := G5
      rw [HK.out]
      go_wp2_with fail
      refine (sTextOk_any s _ hsm).mono ?_
      rintro e wt ⟨rfl, rfl⟩
      rw [HT.out]
      go_wp2_with fail
      refine (sGramOk_any _ _ _ rs _ U5 hcap).mono ?_
      rintro e w6 ⟨rfl, hb6⟩
      have B6 := Below.on B5 hb6 (Nat.le_refl _)
      have G6 := Box2.below ⟨hg, g0, g1⟩ hb6
      have U6 := U5.below hb6 (Nat.le_refl _)
      clear B5 hg g0 g1 U5 hb6
      obtain ⟨hg, g0, g1⟩ := G6
      rw [HK.out]
      go_wp2_with fail
      refine (sTextOk_any s _ hsm).mono ?_
      rintro e wt ⟨rfl, rfl⟩
      rw [HT.out]
      go_wp2
      go_ret
      exact ⟨rfl, B6⟩
    | false =>
      have HT := Lib.hid ht
      have HB : Hid (gramOkB st rs = false ∨ textB s = false) := .inr ht
      clear ht
      go_wp2_with fail
      refine (sGramOk_any _ _ _ rs _ U4 hcap).mono ?_
      rintro e w5 ⟨rfl, hb5⟩
      have B5 := Below.on B4 hb5 (Nat.le_refl _)
      have G5 := Box2.below ⟨hg, g0, g1⟩ hb5
      have U5 := U4.below hb5 (Nat.le_refl _)
      clear B4 hg g0 g1 U4 hb5
      obtain ⟨hg, g0, g1⟩ := G5
      rw [HK.out]
      go_wp2_with fail
      refine (sTextOk_any s _ hsm).mono ?_
      rintro e wt ⟨rfl, rfl⟩
      rw [HT.out]
      go_wp2_with fail
      refine (runOf_bad _ _ _ rs _ _ U5 hcap hsm HB.out).mono ?_
      rintro e w6 ⟨rfl, hb6⟩
      have B6 := Below.on B5 hb6 (Nat.le_refl _)
      have G6 := Box2.below ⟨hg, g0, g1⟩ hb6
      have U6 := U5.below hb6 (Nat.le_refl _)
      clear B5 hg g0 g1 U5 hb6
      obtain ⟨hg, g0, g1⟩ := G6
      unfold emT
      have al := (Below.refl w6.heap.size w6).alloc (Nat.le_refl _) (.cells #[.string ⟨#[]⟩, .int .i64 0, .slice none 0 0] 30)
      have Z : BoxT (w6.alloc (.cells #[.string ⟨#[]⟩, .int .i64 0, .slice none 0 0] 30)) w6.heap.size (.string ⟨#[]⟩) (.int .i64 0) (.slice none 0 0) := blk_new _ _ rfl
      have Ua := U6.below al (Nat.le_refl _)
      have Ga := Box2.below ⟨hg, g0, g1⟩ al
      have Ba := Below.on B6 al (Nat.le_refl _)
      clear al hg g0 g1 U6 B6
      obtain ⟨hg, g0, g1⟩ := Ga
      go_wp2_with fail
      refine (nextOf_bad _ _ _ rs _ _ Ua hcap hsm HB.out).mono ?_
      rintro e w7 ⟨rfl, hb7⟩
      have B7 := Below.on Ba hb7 (Nat.le_refl _)
      have G7 := Box2.below ⟨hg, g0, g1⟩ hb7
      have U7 := Ua.below hb7 (Nat.le_refl _)
      have Z7 := Z.below hb7
      clear Ba hg g0 g1 Ua hb7 Z
      obtain ⟨hg, g0, g1⟩ := G7
      go_wp2_with fail
      refine (stepsTree_bad _ _ _ rs _ _ U7 hcap hsm HB.out).mono ?_
      rintro e w8 ⟨rfl, hb8⟩
      have B8 := Below.on B7 hb8 (Nat.le_refl _)
      have Z8' := Z7.below hb8
      have al8 := (Below.refl w8.heap.size w8).alloc (Nat.le_refl _) (.cells #[.string ⟨#[]⟩, .int .i64 0, .slice none 0 0] 30)
      have Z8 := Z8'.below al8
      have B8' := Below.on B8 al8 (Nat.le_refl _)
      clear B7 hg g0 g1 U7 hb8 Z7 Z8' al8 B8
      obtain ⟨x0, x1, x2, _, _, _⟩ := Z8.cells
      unfold emT
      go_wp2_with fail
      refine (sameLeaf _ ((HP.out.on B8').up B8'.size)).mono ?_
      rintro e w9 ⟨rfl, hb9⟩
      have B9 := Below.on B8' hb9 (Nat.le_refl _)
      clear B8' hb9 x0 x1 x2 Z8
      go_wp2
      go_ret
      exact ⟨rfl, B9⟩
end Go.Proofs.YtpkejcjjbkgomaaGreatDoor
namespace Go.Proofs.YtpkejcjjbkgomaaGreatDoor
set_option maxRecDepth 100000
theorem runBent_card (p : Option Addr) (n cp : Nat) (w : World) (H : BytesAt w p n cp) (hL : laidMetH Tryz.prog Rows.fnRunBentRow.laid w) :
    Calls Tryz.prog 4 #[.slice p n cp] w fun e w' => e = .returned (.bool true) ∧ RowKit.Below w.heap.size w w' :=
  runBent_law p n cp w H (pow_third hL.1 (by kernel_rfl) (by kernel_rfl) (by kernel_rfl) (by kernel_rfl))
end Go.Proofs.YtpkejcjjbkgomaaGreatDoor
namespace Go.Proofs.YtpkejcjjbkgomaaGreatDoor
open Go.ChangeShapes Go.WideShapes Go.ChangeAt Go.RowKit Go.Joins Go.Deep
theorem ownK : ownKnob Tryz.prog.godebug = none := by kernel_rfl
theorem laidOutP : laidOutB Tryz.prog = true := by kernel_rfl
def strOf : Value → ByteArray
  | .string s => s
  | _ => ByteArray.empty
end Go.Proofs.YtpkejcjjbkgomaaGreatDoor
namespace Go.Proofs.YtpkejcjjbkgomaaGreatDoor
open Go.ChangeShapes Go.WideShapes Go.ChangeAt Go.RowKit Go.Joins Go.Deep
section
variable {H : Type} {enc : TypeId × Value → H} {W : World} {base : Nat} {spare : Nat → Bool} {held : Bool}
set_option maxRecDepth 100000 in
theorem open_bytes {r : Reach} {b0 : Nat} {v : Value} {d : DataW H} {p : List MemPlace} (hv : Value.okWide Tryz.prog W r b0 22 v) (h : DataW.Trod enc Tryz.prog W base spare held 22 v d p) :
    ∃ (a : Option Addr) (n cap : Nat), v = .slice a n cap ∧ BytesAt W a n cap := by
  obtain ⟨a, n, cap, rfl⟩ := okWide_slice Tryz.underlying22 hv
  refine ⟨a, n, cap, rfl, ?_⟩
  obtain ⟨fuel, hf⟩ := h
  rcases open_ints Tryz.underlying22 Tryz.underlying5 (by kernel_rfl) hf with ⟨hcs, _⟩ | ⟨x, l, c, zs, hcs, _, hl, hm, hz, _, hcell, hwz⟩
  · simp [Value.cells] at hcs
    obtain ⟨rfl, rfl, rfl⟩ := hcs
    exact ⟨Nat.le_refl _, Nat.zero_le _, fun i hi => absurd hi (Nat.not_lt_zero _)⟩
  · simp [Value.cells] at hcs
    obtain ⟨rfl, rfl, rfl⟩ := hcs
    have hz' : n ≤ zs.length := by rw [hz]; split <;> omega
    refine ⟨hl, hm, fun i hi => ?_⟩
    have hc := hcell i (by omega)
    obtain ⟨b, off, spot⟩ := x
    have hspot : spot = none := by simpa [Addr.add] using World.cell?_spot (hcell 0 (by omega))
    subst hspot
    rw [add_plain] at hc
    have hi' : i < zs.length := by omega
    have hw := hwz zs[i] (List.getElem_mem hi')
    rw [show zs.getD i 0 = zs[i] from by simp [List.getD, hi']] at hc
    have hr : 0 ≤ zs[i] ∧ zs[i] ≤ 255 := by
      simp [Lit.wf] at hw
      exact ⟨hw.1, hw.2⟩
    exact ⟨b, off, zs[i], rfl, World.block_lt_of_cell? _ _ hc, hc, hr⟩
end
end Go.Proofs.YtpkejcjjbkgomaaGreatDoor
