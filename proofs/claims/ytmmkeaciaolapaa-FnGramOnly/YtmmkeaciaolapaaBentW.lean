/- The walk of FnGramBent. -/
import Derived.Test.YtmmkeaciaolapaaBentA
import Derived.Deep.RegionHeld3
namespace Go.Proofs.Ytmmkeaciaolapaa
open Go.ChangeShapes Go.WideShapes Go.ChangeAt Go.RowKit
set_option maxRecDepth 100000
theorem gramText_bad (st : ByteArray) (a : Option Addr) (cap : Nat) (rs : List RuleT) (w : World) (H : RulesAt w a rs) (hcap : rs.length ≤ cap) (hok : gramOkB st rs = false) :
    Calls Try.prog 16 #[.agg #[.string st, .slice a rs.length cap]] w fun e w' => e = .returned (.string ⟨#[]⟩) ∧ Below w.heap.size w w' := by
  have := gramText_any st a cap rs w H hcap
  rwa [show bytesOf (gramTextL st rs) = ⟨#[]⟩ from by unfold gramTextL; rw [hok]; simp [bytesOf]] at this
theorem gramBigs_bad (st : ByteArray) (a : Option Addr) (cap : Nat) (rs : List RuleT) (w : World) (H : RulesAt w a rs) (hcap : rs.length ≤ cap) (hok : gramOkB st rs = false) :
    Calls Try.prog 30 #[.agg #[.string st, .slice a rs.length cap]] w fun e w' => e = .returned (.string ⟨#[]⟩) ∧ Below w.heap.size w w' := by
  have := gramBigs_any st a cap rs w H hcap
  rwa [show bytesOf (symsL (gramTextL st rs) 65 5) = ⟨#[]⟩ from by unfold gramTextL symsL; rw [hok]; simp [bytesOf]] at this
theorem gramSmalls_bad (st : ByteArray) (a : Option Addr) (cap : Nat) (rs : List RuleT) (w : World) (H : RulesAt w a rs) (hcap : rs.length ≤ cap) (hok : gramOkB st rs = false) :
    Calls Try.prog 31 #[.agg #[.string st, .slice a rs.length cap]] w fun e w' => e = .returned (.string ⟨#[]⟩) ∧ Below w.heap.size w w' := by
  have := gramSmalls_any st a cap rs w H hcap
  rwa [show bytesOf (symsL (gramTextL st rs) 97 4) = ⟨#[]⟩ from by unfold gramTextL symsL; rw [hok]; simp [bytesOf]] at this
theorem noneSame (w : World) : Calls Try.prog 21 #[.agg #[.string ⟨#[]⟩, .slice none 0 0], .agg #[.string ⟨#[]⟩, .slice none 0 0]] w fun e w' => e = .returned (.bool true) ∧ Below w.heap.size w w' := by
  have hN : RulesAt w none [] := ⟨Nat.zero_le _, fun i hi => absurd hi (Nat.not_lt_zero _)⟩
  have := gramSame_any ⟨#[]⟩ ⟨#[]⟩ none none 0 0 [] [] w hN hN
  rwa [eqG_refl] at this
theorem add_none (w : World) : (Op.stringOp .add (⟨#[]⟩ : ByteArray) (⟨#[]⟩ : ByteArray)).run Try.prog w = .ok (.string ⟨#[]⟩) w := by
  have := run_add_bytes (P := Try.prog) [] (⟨#[]⟩ : ByteArray) (by decide) w
  exact this
theorem keep2 {w w' : World} (hb : Below w.heap.size w w') {b : Nat} {v0 v1 : Value} (h : BoxG w b v0 v1) : w'.cell? ⟨b, 0, none⟩ = some v0 ∧ w'.cell? ⟨b, 1, none⟩ = some v1 :=
  ⟨(h.below hb).cells.1, (h.below hb).cells.2.1⟩
set_option maxHeartbeats 4000000 in
theorem gramBent_law (a : Option Addr) (n cap : Nat) (w : World) (H : BytesAt w a n cap) :
    Calls Try.prog 10 #[.slice a n cap] w fun e w' => e = .returned (.bool true) ∧ Below w.heap.size w w' := by
  have hm := H.2.1
  unfold maxLen at hm
  by_cases h : (1048576 : Int) < (n : Int)
  · go_enter Try.func10, Try.ntmps10
    go_wp2
    go_ret
    exact ⟨rfl, Below.refl _ _⟩
  go_enter Try.func10, Try.ntmps10
  go_wp2_with fail
  refine (drawGramFor_any a n cap w H).mono ?_
  rintro e w1 ⟨v1, st, rs, left, rfl, ⟨b, off, c1, rfl, hc1, hR1, hl1, hs1, hS1, hb1⟩, hleft, hB1⟩
  have hbw := (Below.refl w1.heap.size w1).alloc (Nat.le_refl _) (.cells #[.string st, .slice (some ⟨b, off, none⟩) rs.length c1] 25)
  have hR2 := hR1.below hbw (Nat.le_refl _)
  have hG : BoxG (w1.alloc (.cells #[.string st, .slice (some ⟨b, off, none⟩) rs.length c1] 25)) w1.heap.size (.string st) (.slice (some ⟨b, off, none⟩) rs.length c1) := blk_new _ _ rfl
  go_wp2_with fail
  refine (gramOk_any st (some ⟨b, off, none⟩) c1 rs _ hR2 hc1).mono ?_
  rintro e w3 ⟨rfl, hb3⟩
  have hG3 := hG.below hb3
  have hR3 := hR2.below hb3 (Nat.le_refl _)
  have hB3 : Below w.heap.size w w3 := hB1.trans ((hbw.trans (hb3.mono (by simp))).mono hB1.size)
  obtain ⟨g0, g1, gf0, gf1⟩ := hG3.cells
  clear hG hR2 hb3 hbw
  generalize w1.heap.size = G at *
  cases hok : gramOkB st rs with
  | true =>
    go_wp2_with fail
    refine (sGramOk_any st (some ⟨b, off, none⟩) c1 rs _ hR3 hc1).mono ?_
    rintro e w4 ⟨rfl, hb4⟩
    rw [hok]
    have hG4 := hG3.below hb4
    have hR4 := hR3.below hb4 (Nat.le_refl _)
    have hB4 : Below w.heap.size w w4 := hB3.trans (hb4.mono hB3.size)
    obtain ⟨x0, x1, xf0, xf1⟩ := hG4.cells
    clear g0 g1 gf0 gf1 hG3 hR3 hb4
    go_wp2_with fail
    refine (sGramOk_any st (some ⟨b, off, none⟩) c1 rs _ hR4 hc1).mono ?_
    rintro e w5 ⟨rfl, hb5⟩
    rw [hok]
    go_wp2
    go_ret
    exact ⟨rfl, hB4.trans (hb5.mono hB4.size)⟩
  | false =>
    go_wp2_with fail
    refine (sGramOk_any st (some ⟨b, off, none⟩) c1 rs _ hR3 hc1).mono ?_
    rintro e w4 ⟨rfl, hb4⟩
    rw [hok]
    have hG4 := hG3.below hb4
    have hR4 := hR3.below hb4 (Nat.le_refl _)
    have hB4 : Below w.heap.size w w4 := hB3.trans (hb4.mono hB3.size)
    obtain ⟨k0, k1, _, _⟩ := hG4.cells
    clear g0 g1 gf0 gf1 hG3 hR3 hb4 hB3
    have hadd := add_none
    go_wp2_with fail
    go_region_held3 (fun w' => w'.cell? ⟨G, 0, none⟩ = some (.string st) ∧ w'.cell? ⟨G, 1, none⟩ = some (.slice (some ⟨b, off, none⟩) rs.length c1))
      (first
        | go_keep
        | exact keep2 hT hG4)
      (first
        | (go_at_call 16; refine (gramText_bad _ _ _ rs _ ?_ hc1 hok).mono ?_; (exact hR4); rintro e wA ⟨rfl, hT'⟩; have hT := below_of_drew hT')
        | (go_at_call 25; refine (gramFor_bad _ _ _ _ rs _ ?_ hc1 hok).mono ?_; (exact hR4.below hT (Nat.le_refl _)); rintro e wB ⟨rfl, hT1⟩; replace hT := hT.trans (hT1.mono hT.size))
        | (go_at_call 30; refine (gramBigs_bad _ _ _ rs _ ?_ hc1 hok).mono ?_; (exact hR4.below hT (Nat.le_refl _)); rintro e wC ⟨rfl, hT2⟩; replace hT := hT.trans (hT2.mono hT.size))
        | (go_at_call 31; refine (gramSmalls_bad _ _ _ rs _ ?_ hc1 hok).mono ?_; (exact hR4.below hT (Nat.le_refl _)); rintro e wD ⟨rfl, hT3⟩; replace hT := hT.trans (hT3.mono hT.size))
        | (go_at_call 37; refine (gramOnly_bad _ _ _ rs _ _ ?_ hc1 hok).mono ?_; (exact hR4.below (hT.alloc hT.size _) (Nat.le_refl _)); rintro e wE ⟨rfl, hT4⟩; replace hT := (hT.alloc hT.size _).trans (hT4.mono (hT.alloc hT.size _).size))
        | (go_at_call 21; refine (noneSame _).mono ?_; rintro e wF ⟨rfl, hT5⟩; replace hT := hT.trans (hT5.mono hT.size)))
    go_wp2
    go_ret
    exact ⟨rfl, hB4.trans (hT.mono hB4.size)⟩
end Go.Proofs.Ytmmkeaciaolapaa
