/- The walk of FnExactFollowOf. -/
import Derived.Test.YtjpkohahabclgaaFolE
import Derived.Test.YtjpkohahabclgaaBox
namespace Go.Proofs.Ytjpkohahabclgaa
open Go.ChangeShapes Go.WideShapes Go.ChangeAt Go.RowKit
theorem followRes_eq {st : ByteArray} {rs : List RuleT} {s : ByteArray} {F G K L : V5} (hF : followAsk st rs s = true → IsFirst rs (leftsLeast rs 0) F ∧ IsFollow (headB st) rs (leftsLeast rs 0) F K) (hG : followAsk st rs s = true → IsFirst rs (leftsLeast rs 0) G ∧ IsFollow (headB st) rs (leftsLeast rs 0) G L) : followRes st rs K s = followRes st rs L s := by
  cases h : followAsk st rs s with
  | true =>
    obtain ⟨h1, h2⟩ := hF h
    obtain ⟨h3, h4⟩ := hG h
    rw [h1.unique h3] at h2
    rw [h2.unique h4]
  | false => simp [followRes, h]
set_option maxHeartbeats 2000000 in
theorem followOf_law (st : ByteArray) (a : Option Addr) (cap : Nat) (rs : List RuleT) (s : ByteArray) (w : World) (H : RulesAt w a rs) (hs : st.size ≤ maxLen) (_hss : s.size ≤ maxLen) :
    Calls Try.prog 6 #[.agg #[.string st, .slice a rs.length cap], .string s] w fun e w' => e = .returned (.bool true) ∧ Below w.heap.size w w' := by
  have hb1 := (Below.refl w.heap.size w).alloc (Nat.le_refl _) (.cells #[.string st, .slice a rs.length cap] 32)
  have H1 := H.below hb1 (Nat.le_refl _)
  by_cases hbig : (1048576 : Int) < (s.size : Int)
  · go_enter Try.func6, Try.ntmps6
    go_wp2
    go_ret
    exact ⟨rfl, hb1⟩
  go_enter Try.func6, Try.ntmps6
  go_wp2_with fail
  refine (szGram_any _ _ _ rs _ _ H1 hs (by omega) (by omega)).mono ?_
  rintro e w2 ⟨rfl, hb2⟩
  -- the box of the argument stays
  have k0 : w2.cell? ⟨w.heap.size, 0, none⟩ = some (.string st) := by rw [hb2.cell (p := ⟨w.heap.size, 0, none⟩) (by simp)]; simp
  have k1 : w2.cell? ⟨w.heap.size, 1, none⟩ = some (.slice a rs.length cap) := by rw [hb2.cell (p := ⟨w.heap.size, 1, none⟩) (by simp)]; simp
  have z2 : w.heap.size < w2.heap.size := by have := hb2.size; simp at this; omega
  have c2 : Below w.heap.size w w2 := hb1.trans (hb2.mono (by simp))
  clear hb1 H1 hb2
  by_cases hneg : szGramM st rs 1048576 < 0
  · go_wp2
    go_ret
    exact ⟨rfl, c2⟩
  obtain ⟨_, n1, n2, n3⟩ := szGram_bounds (st := st) (rs := rs) (left := 1048576) (by omega) (by omega)
  have H2 := H.below c2 (Nat.le_refl _)
  have hnn : decide (szGramM st rs 1048576 < 0) = false := by simpa using hneg
  clear hneg
  have N3 := Lib.hid n3
  clear n3
  go_wp2_with fail
  refine (toGram_any _ _ _ rs _ H2 n1).mono ?_
  rintro e w3 ⟨v, rfl, b3, rfl, l3, row3, hb3⟩
  have R3 := rulesAt_of_row row3 H.fits
  have c3 : Below w.heap.size w w3 := c2.trans (hb3.mono (by omega))
  have z3 : w.heap.size < w3.heap.size := by have := hb3.size; omega
  have k0' : w3.cell? ⟨w.heap.size, 0, none⟩ = some (.string st) := by rw [hb3.cell (p := ⟨w.heap.size, 0, none⟩) z2, k0]
  have k1' : w3.cell? ⟨w.heap.size, 1, none⟩ = some (.slice a rs.length cap) := by rw [hb3.cell (p := ⟨w.heap.size, 1, none⟩) z2, k1]
  clear k0 k1
  go_wp2_with fail
  refine (sFollowOf_any st _ _ rs s _ R3 (Nat.le_refl _)).mono ?_
  rintro e w4 ⟨F, K, hF, rfl, hb4⟩
  have c4 : Below w.heap.size w w4 := c3.trans (hb4.mono (by omega))
  have z4 : w.heap.size < w4.heap.size := by have := hb4.size; omega
  have k0 : w4.cell? ⟨w.heap.size, 0, none⟩ = some (.string st) := by rw [hb4.cell (p := ⟨w.heap.size, 0, none⟩) z3, k0']
  have k1 : w4.cell? ⟨w.heap.size, 1, none⟩ = some (.slice a rs.length cap) := by rw [hb4.cell (p := ⟨w.heap.size, 1, none⟩) z3, k1']
  have H4 := H.below c4 (Nat.le_refl _)
  clear k0' k1' row3 hb3 R3 H2 hb4 l3
  go_wp2_with fail
  refine (toGram_any _ _ _ rs _ H4 n1).mono ?_
  rintro e w5 ⟨v, rfl, b5, rfl, l5, row5, hb5⟩
  have R5 := rulesAt_of_row row5 H.fits
  have c5 : Below w.heap.size w w5 := c4.trans (hb5.mono (by omega))
  have z5 : w.heap.size < w5.heap.size := by have := hb5.size; omega
  have k0' : w5.cell? ⟨w.heap.size, 0, none⟩ = some (.string st) := by rw [hb5.cell (p := ⟨w.heap.size, 0, none⟩) z4, k0]
  have k1' : w5.cell? ⟨w.heap.size, 1, none⟩ = some (.slice a rs.length cap) := by rw [hb5.cell (p := ⟨w.heap.size, 1, none⟩) z4, k1]
  clear k0 k1 hb5 H4
  go_wp2_with fail
  have hbx := (Below.refl w5.heap.size w5).alloc (Nat.le_refl _) (.cells #[.string st, .slice (some ⟨b5, 0, none⟩) rs.length rs.length] 24)
  refine (followOf_any st _ _ rs s _ (R5.below hbx (Nat.le_refl _)) (Nat.le_refl _)).mono ?_
  rintro e w6 ⟨G, L, hG, rfl, hb6⟩
  rw [followRes_eq hG hF]
  generalize followRes st rs K s = res at *
  have z6' : w5.heap.size < w6.heap.size := by have := hb6.size; simp at this; omega
  have z6 : w.heap.size < w6.heap.size := by omega
  have hb56 : Below w5.heap.size w5 w6 := hbx.trans (hb6.mono (by simp))
  have c6 : Below w.heap.size w w6 := c5.trans (hb56.mono (by omega))
  have k0 : w6.cell? ⟨w.heap.size, 0, none⟩ = some (.string st) := by rw [hb56.cell (p := ⟨w.heap.size, 0, none⟩) z5, k0']
  have k1 : w6.cell? ⟨w.heap.size, 1, none⟩ = some (.slice a rs.length cap) := by rw [hb56.cell (p := ⟨w.heap.size, 1, none⟩) z5, k1']
  have m0 : w6.cell? ⟨w5.heap.size, 0, none⟩ = some (.string st) := by rw [hb6.cell (p := ⟨w5.heap.size, 0, none⟩) (by simp)]; simp
  have m1 : w6.cell? ⟨w5.heap.size, 1, none⟩ = some (.slice (some ⟨b5, 0, none⟩) rs.length rs.length) := by rw [hb6.cell (p := ⟨w5.heap.size, 1, none⟩) (by simp)]; simp
  have R6 := R5.below hb56 (Nat.le_refl _)
  have H6 := H.below c6 (Nat.le_refl _)
  clear k0' k1' hbx hb6 R5 hb56 row5 l5
  have hE := eqG_refl st rs
  go_wp2_with fail
  go_region_held3 (fun w' => w'.cell? ⟨w.heap.size, 0, none⟩ = some (.string st) ∧ w'.cell? ⟨w.heap.size, 1, none⟩ = some (.slice a rs.length cap) ∧ w'.cell? ⟨w5.heap.size, 0, none⟩ = some (.string st) ∧ w'.cell? ⟨w5.heap.size, 1, none⟩ = some (.slice (some ⟨b5, 0, none⟩) rs.length rs.length))
    (first
      | go_keep
      | exact keep4 (hb7.trans (hb8.mono hb7.size)) z6 z6' k0 k1 m0 m1
      | exact keep4 hb7 z6 z6' k0 k1 m0 m1)
    (first
      | (go_at_call 21; refine (toGram_any _ _ _ rs _ ?_ n1).mono ?_; (exact H6); rintro e w7 ⟨v, rfl, b7, rfl, l7, row7, hb7'⟩; have hb7 := below_of_drew hb7')
      | (go_at_call 16; refine (eqGram_any _ _ _ _ _ _ rs rs _ ?_ ?_).mono ?_; (exact R6.below hb7 (Nat.le_refl _)); (exact rulesAt_of_row row7 H.fits); rintro e w8 ⟨rfl, hb8⟩))
  go_wp2
  go_ret
  exact ⟨rfl, c6.trans ((hb7.trans (hb8.mono hb7.size)).mono (by omega))⟩
end Go.Proofs.Ytjpkohahabclgaa
