/- The walk of FnAllBent. -/
import Derived.Test.YtngekjbdjnfhmaaDoorL4E
import Derived.Test.YtngekjbdjnfhmaaDoorLawB
import Derived.Deep.SlicePairs
import Derived.Lib.SmallJoins
import Derived.OpenShut
import Derived.ShutString
import Derived.ChangeOld
import Derived.Below
import Derived.Test.YtngekjbdjnfhmaaDoorDrawH
namespace Go.Proofs.YtngekjbdjnfhmaaDoor
open Go.ChangeShapes Go.WideShapes Go.ChangeAt Go.RowKit Go.Deep
set_option maxRecDepth 100000
set_option maxHeartbeats 1000000 in
theorem allIs_bad (st : ByteArray) (a : Option Addr) (cap : Nat) (rs : List RuleT) (s : ByteArray) (w : World) (H : RulesAt w a rs) (hcap : rs.length ≤ cap) (hs : s.size ≤ maxLen) (hbad : gramOkB st rs = false ∨ textB s = false) :
    Calls Tryd.prog 8 #[.agg #[.string st, .slice a rs.length cap], .string s] w fun e w' => e = .returned (.bool false) ∧ Below w.heap.size w w' := by
  have hbw := (Below.refl w.heap.size w).alloc (Nat.le_refl _) (.cells #[.string st, .slice a rs.length cap] 25)
  have G1 := Box2.new w (.string st) (.slice a rs.length cap) 25
  have U1 := H.below hbw (Nat.le_refl _)
  go_enter Tryd.func8, Tryd.ntmps8
  go_wp2_with fail
  generalize hw1 : w.alloc (.cells #[.string st, .slice a rs.length cap] 25) = w1 at *
  clear hw1
  obtain ⟨hg, g0, g1⟩ := G1
  have p0 : ∀ x, (grow w1 x).cell? ⟨w.heap.size, 0, none⟩ = some (.string st) := fun x => by rw [grow_cell _ _ _ _ hg, g0]
  have p1 : ∀ x, (grow w1 x).cell? ⟨w.heap.size, 1, none⟩ = some (.slice a rs.length cap) := fun x => by rw [grow_cell _ _ _ _ hg, g1]
  have CG : ∀ x, Calls Tryd.prog 18 #[.agg #[.string st, .slice a rs.length cap]] (grow w1 x) fun e w'' => e = .returned (.bool (gramOkB st rs)) ∧ ∃ y, w'' = grow w1 y := fun x => Calls.grow_of (gramOk_any _ _ _ rs (grow w1 x) (U1.below (below_grow _ _) (Nat.le_refl _)) hcap)
  have CT : ∀ x, Calls Tryd.prog 5 #[.string s] (grow w1 x) fun e w'' => e = .returned (.bool (textB s)) ∧ ∃ y, w'' = grow w1 y := fun x => (textOk_any s (grow w1 x) hs).mono fun e w'' h => ⟨h.1, x, h.2.symm⟩
  cases hok : gramOkB st rs with
  | false =>
    rw [hok] at CG
    clear hok hbad CT g0 g1
    refine wp_region_grow (by kernel_rfl) (by kernel_rfl) ?_
    repeat (go_big_quiet_step ((first | (go_at_call 18; exact CG _) | fail)))
    refine wpQuiet_nil ?_
    rintro _ ⟨x, rfl⟩
    have hfin : Below w.heap.size w (grow w1 x) := hbw.trans ((below_grow _ _).mono hbw.size)
    go_wp2
    go_ret
    exact ⟨rfl, hfin⟩
  | true =>
    have ht : textB s = false := by
      rcases hbad with h | h
      · rw [hok] at h; cases h
      · exact h
    rw [hok] at CG
    rw [ht] at CT
    clear hok hbad ht g0 g1
    refine wp_region_grow (by kernel_rfl) (by kernel_rfl) ?_
    repeat (go_big_quiet_step ((first | (go_at_call 18; exact CG _) | (go_at_call 5; exact CT _) | fail)))
    refine wpQuiet_nil ?_
    rintro _ ⟨x, rfl⟩
    have hfin : Below w.heap.size w (grow w1 x) := hbw.trans ((below_grow _ _).mono hbw.size)
    go_wp2
    go_ret
    exact ⟨rfl, hfin⟩
theorem allTrees_bad (st : ByteArray) (a : Option Addr) (cap : Nat) (rs : List RuleT) (s : ByteArray) (w : World) (H : RulesAt w a rs) (hcap : rs.length ≤ cap) (hs : s.size ≤ maxLen) (hbad : gramOkB st rs = false ∨ textB s = false) :
    Calls Tryd.prog 9 #[.agg #[.string st, .slice a rs.length cap], .string s] w fun e w' => e = .returned (.slice none 0 0) ∧ Below w.heap.size w w' := by
  have hbw := (Below.refl w.heap.size w).alloc (Nat.le_refl _) (.cells #[.string st, .slice a rs.length cap] 25)
  go_enter Tryd.func9, Tryd.ntmps9
  go_wp2_with fail
  refine (gramOk_any _ _ _ rs _ (H.below hbw (Nat.le_refl _)) hcap).mono ?_
  rintro e w2 ⟨rfl, hb2⟩
  have c2 := Below.on hbw hb2 (Nat.le_refl _)
  clear hbw hb2
  cases hok : gramOkB st rs with
  | false =>
    clear hok hbad
    go_wp2
    go_ret
    exact ⟨rfl, c2⟩
  | true =>
    have ht : textB s = false := by
      rcases hbad with h | h
      · rw [hok] at h; cases h
      · exact h
    have HT := Lib.hid ht
    clear hok hbad ht
    go_wp2_with fail
    refine (textOk_any s _ hs).mono ?_
    rintro e w3 ⟨rfl, rfl⟩
    rw [HT.out]
    go_wp2
    go_ret
    exact ⟨rfl, c2⟩
theorem allParts_bad (st : ByteArray) (a : Option Addr) (cap : Nat) (rs : List RuleT) (s : ByteArray) (w : World) (H : RulesAt w a rs) (hcap : rs.length ≤ cap) (hs : s.size ≤ maxLen) (hbad : gramOkB st rs = false ∨ textB s = false) :
    Calls Tryd.prog 10 #[.agg #[.string st, .slice a rs.length cap], .string s] w fun e w' => e = .returned (.slice none 0 0) ∧ Below w.heap.size w w' := by
  have hbw := ((Below.refl w.heap.size w).alloc (Nat.le_refl _) (.cells #[.string st, .slice a rs.length cap] 25)).alloc (by simp) (.cells #[.string s] 9)
  have T1 : ((w.alloc (.cells #[.string st, .slice a rs.length cap] 25)).alloc (.cells #[.string s] 9)).cell? ⟨w.heap.size + 1, 0, none⟩ = some (.string s) := by simp
  have hlt : w.heap.size + 1 < ((w.alloc (.cells #[.string st, .slice a rs.length cap] 25)).alloc (.cells #[.string s] 9)).heap.size := by simp
  go_enter Tryd.func10, Tryd.ntmps10
  go_wp2_with fail
  refine (gramOk_any _ _ _ rs _ (H.below hbw (Nat.le_refl _)) hcap).mono ?_
  rintro e w2 ⟨rfl, hb2⟩
  have c2 := Below.on hbw hb2 (Nat.le_refl _)
  have T2 : w2.cell? ⟨w.heap.size + 1, 0, none⟩ = some (.string s) := (hb2.cell (p := ⟨w.heap.size + 1, 0, none⟩) hlt).trans T1
  clear hbw hb2 T1 hlt
  cases hok : gramOkB st rs with
  | false =>
    clear hok hbad
    go_wp2
    go_ret
    exact ⟨rfl, c2⟩
  | true =>
    have ht : textB s = false := by
      rcases hbad with h | h
      · rw [hok] at h; cases h
      · exact h
    have HT := Lib.hid ht
    clear hok hbad ht
    go_wp2_with fail
    refine (textOk_any s _ hs).mono ?_
    rintro e w3 ⟨rfl, rfl⟩
    rw [HT.out]
    go_wp2
    go_ret
    exact ⟨rfl, c2⟩
set_option maxHeartbeats 2000000 in
theorem allBent_law (p : Option Addr) (n cp : Nat) (w : World) (H : BytesAt w p n cp) :
    Calls Tryd.prog 3 #[.slice p n cp] w fun e w' => e = .returned (.bool true) ∧ Below w.heap.size w w' := by
  by_cases h1 : (1048576 : Int) < (n : Int)
  · go_enter Tryd.func3, Tryd.ntmps3
    go_wp2
    go_ret
    exact ⟨rfl, Below.refl _ _⟩
  go_enter Tryd.func3, Tryd.ntmps3
  go_wp2_with fail
  refine (drawAllTrees_any p n cp _ H).mono ?_
  rintro e w2 ⟨b, off, cap, st, rs, s, rfl, hcap, HU, hst, hs, _, hb2⟩
  have hsm : s.size ≤ maxLen := by unfold maxLen; omega
  have hal := (Below.refl w2.heap.size w2).alloc (Nat.le_refl _) (.cells #[.string st, .slice (some ⟨b, off, none⟩) rs.length cap] 25)
  have B3 := Below.on hb2 hal (Nat.le_refl _)
  have G3 := Box2.new w2 (.string st) (.slice (some ⟨b, off, none⟩) rs.length cap) 25
  have U3 := HU.below hal (Nat.le_refl _)
  clear hb2 hal HU
  go_wp2_with fail
  refine (textOk_any s _ hsm).mono ?_
  rintro e wt ⟨rfl, rfl⟩
  cases ht : textB s with
  | false =>
    have HT := Lib.hid ht
    clear ht
    go_wp2_with fail
    refine (sTextOk_any s _ hsm).mono ?_
    rintro e wt ⟨rfl, rfl⟩
    rw [HT.out]
    have HB : Hid (gramOkB st rs = false ∨ textB s = false) := .inr HT.out
    obtain ⟨hg, g0, g1⟩ := G3
    go_wp2_with fail
    refine (allIs_bad _ _ _ rs _ _ U3 hcap hsm HB.out).mono ?_
    rintro e w6 ⟨rfl, hb6⟩
    have B6 := Below.on B3 hb6 (Nat.le_refl _)
    have G6 := Box2.below ⟨hg, g0, g1⟩ hb6
    have U6 := U3.below hb6 (Nat.le_refl _)
    clear B3 hg g0 g1 U3 hb6
    obtain ⟨hg, g0, g1⟩ := G6
    go_wp2_with fail
    refine (allTrees_bad _ _ _ rs _ _ U6 hcap hsm HB.out).mono ?_
    rintro e w7 ⟨rfl, hb7⟩
    have B7 := Below.on B6 hb7 (Nat.le_refl _)
    have G7 := Box2.below ⟨hg, g0, g1⟩ hb7
    have U7 := U6.below hb7 (Nat.le_refl _)
    clear B6 hg g0 g1 U6 hb7
    obtain ⟨hg, g0, g1⟩ := G7
    go_wp2_with fail
    refine (allParts_bad _ _ _ rs _ _ U7 hcap hsm HB.out).mono ?_
    rintro e w8 ⟨rfl, hb8⟩
    have B8 := Below.on B7 hb8 (Nat.le_refl _)
    clear B7 hg g0 g1 U7 hb8
    go_wp2
    go_ret
    exact ⟨rfl, B8⟩
  | true =>
    have HT := Lib.hid ht
    clear ht
    go_wp2_with fail
    refine (sTextOk_any s _ hsm).mono ?_
    rintro e wt ⟨rfl, rfl⟩
    rw [HT.out]
    obtain ⟨hg, g0, g1⟩ := G3
    go_wp2_with fail
    refine (sGramOk_any _ _ _ rs _ U3 hcap).mono ?_
    rintro e w5 ⟨rfl, hb5⟩
    have B5 := Below.on B3 hb5 (Nat.le_refl _)
    have G5 := Box2.below ⟨hg, g0, g1⟩ hb5
    have U5 := U3.below hb5 (Nat.le_refl _)
    clear B3 hg g0 g1 U3 hb5
    cases hok : gramOkB st rs with
    | true =>
      clear hok
      go_wp2_with fail
      refine (sTextOk_any s _ hsm).mono ?_
      rintro e wt ⟨rfl, rfl⟩
      rw [HT.out]
      go_wp2
      go_ret
      exact ⟨rfl, B5⟩
    | false =>
      have HB : Hid (gramOkB st rs = false ∨ textB s = false) := .inl hok
      clear hok
      have G3 := G5
      have U3 := U5
      have B3 := B5
      clear G5 U5 B5
      obtain ⟨hg, g0, g1⟩ := G3
      go_wp2_with fail
      refine (allIs_bad _ _ _ rs _ _ U3 hcap hsm HB.out).mono ?_
      rintro e w6 ⟨rfl, hb6⟩
      have B6 := Below.on B3 hb6 (Nat.le_refl _)
      have G6 := Box2.below ⟨hg, g0, g1⟩ hb6
      have U6 := U3.below hb6 (Nat.le_refl _)
      clear B3 hg g0 g1 U3 hb6
      obtain ⟨hg, g0, g1⟩ := G6
      go_wp2_with fail
      refine (allTrees_bad _ _ _ rs _ _ U6 hcap hsm HB.out).mono ?_
      rintro e w7 ⟨rfl, hb7⟩
      have B7 := Below.on B6 hb7 (Nat.le_refl _)
      have G7 := Box2.below ⟨hg, g0, g1⟩ hb7
      have U7 := U6.below hb7 (Nat.le_refl _)
      clear B6 hg g0 g1 U6 hb7
      obtain ⟨hg, g0, g1⟩ := G7
      go_wp2_with fail
      refine (allParts_bad _ _ _ rs _ _ U7 hcap hsm HB.out).mono ?_
      rintro e w8 ⟨rfl, hb8⟩
      have B8 := Below.on B7 hb8 (Nat.le_refl _)
      clear B7 hg g0 g1 U7 hb8
      go_wp2
      go_ret
      exact ⟨rfl, B8⟩
end Go.Proofs.YtngekjbdjnfhmaaDoor
namespace Go.Proofs.YtngekjbdjnfhmaaDoor
open Go.ChangeShapes Go.WideShapes Go.ChangeAt Go.RowKit Go.Joins Go.Deep
theorem ownK : ownKnob Tryd.prog.godebug = none := by kernel_rfl
theorem laidOutP : laidOutB Tryd.prog = true := by kernel_rfl
def strOf : Value → ByteArray
  | .string s => s
  | _ => ByteArray.empty
end Go.Proofs.YtngekjbdjnfhmaaDoor
namespace Go.Proofs.YtngekjbdjnfhmaaDoor
open Go.ChangeShapes Go.WideShapes Go.ChangeAt Go.RowKit Go.Joins Go.Deep
section
variable {H : Type} {enc : TypeId × Value → H} {W : World} {base : Nat} {spare : Nat → Bool} {held : Bool}
set_option maxRecDepth 100000 in
theorem open_bytes {r : Reach} {b0 : Nat} {v : Value} {d : DataW H} {p : List MemPlace} (hv : Value.okWide Tryd.prog W r b0 22 v) (h : DataW.Trod enc Tryd.prog W base spare held 22 v d p) :
    ∃ (a : Option Addr) (n cap : Nat), v = .slice a n cap ∧ BytesAt W a n cap := by
  obtain ⟨a, n, cap, rfl⟩ := okWide_slice Tryd.underlying22 hv
  refine ⟨a, n, cap, rfl, ?_⟩
  obtain ⟨fuel, hf⟩ := h
  rcases open_ints Tryd.underlying22 Tryd.underlying5 (by kernel_rfl) hf with ⟨hcs, _⟩ | ⟨x, l, c, zs, hcs, _, hl, hm, hz, _, hcell, hwz⟩
  · simp [Value.cells] at hcs
    obtain ⟨rfl, rfl, rfl⟩ := hcs
    exact ⟨Nat.le_refl _, Nat.zero_le _, fun i hi => absurd hi (Nat.not_lt_zero _)⟩
  · simp [Value.cells] at hcs
    obtain ⟨rfl, rfl, rfl⟩ := hcs
    have hz' : n ≤ zs.length := by rw [hz]; split <;> omega
    refine ⟨hl, hm, fun i hi => ?_⟩
    have hc := hcell i (by omega)
    obtain ⟨b, off, spot⟩ := x
    have hspot : spot = none := by simpa [Addr.add] using World.cell?_spot (hcell 0 (by omega))
    subst hspot
    rw [add_plain] at hc
    have hi' : i < zs.length := by omega
    have hw := hwz zs[i] (List.getElem_mem hi')
    rw [show zs.getD i 0 = zs[i] from by simp [List.getD, hi']] at hc
    have hr : 0 ≤ zs[i] ∧ zs[i] ≤ 255 := by
      simp [Lit.wf] at hw
      exact ⟨hw.1, hw.2⟩
    exact ⟨b, off, zs[i], rfl, World.block_lt_of_cell? _ _ hc, hc, hr⟩
end
end Go.Proofs.YtngekjbdjnfhmaaDoor
