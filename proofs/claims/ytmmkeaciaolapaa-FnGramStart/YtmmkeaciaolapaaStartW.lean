/- The walk of FnGramStart. -/
import Derived.Test.YtmmkeaciaolapaaHas
import Derived.Test.YtmmkeaciaolapaaDrawH
namespace Go.Proofs.Ytmmkeaciaolapaa
open Go.ChangeShapes Go.WideShapes Go.ChangeAt Go.RowKit
set_option maxRecDepth 100000
set_option maxHeartbeats 4000000 in
theorem gramStart_law (a : Option Addr) (n cap : Nat) (w : World) (H : BytesAt w a n cap) :
    Calls Try.prog 9 #[.slice a n cap] w fun e w' => e = .returned (.bool true) ∧ Below w.heap.size w w' := by
  have hm := H.2.1
  unfold maxLen at hm
  by_cases h : (1048576 : Int) < (n : Int)
  · go_enter Try.func9, Try.ntmps9
    go_wp2
    go_ret
    exact ⟨rfl, Below.refl _ _⟩
  go_enter Try.func9, Try.ntmps9
  go_wp2_with fail
  refine (drawGramOk_any a n cap w H).mono ?_
  rintro e w1 ⟨v1, st, rs, rfl, ⟨b, off, c1, rfl, hc1, hR1, hl1, hs1, hS1, hb1⟩, hB1⟩
  have hbb : b < w1.heap.size ∨ rs = [] := by
    by_cases h0 : rs = []
    · exact .inr h0
    · have hp : 0 < rs.length := List.length_pos_iff.2 h0
      obtain ⟨_, _, b', off', e, hlt, _⟩ := hR1.2 0 hp
      cases e
      exact .inl hlt
  have hbw := (Below.refl w1.heap.size w1).alloc (Nat.le_refl _) (.cells #[.string st, .slice (some ⟨b, off, none⟩) rs.length c1] 25)
  have hR2 := hR1.below hbw (Nat.le_refl _)
  have hG : BoxG (w1.alloc (.cells #[.string st, .slice (some ⟨b, off, none⟩) rs.length c1] 25)) w1.heap.size (.string st) (.slice (some ⟨b, off, none⟩) rs.length c1) := blk_new _ _ rfl
  go_wp2_with fail
  refine (gramOk_any st (some ⟨b, off, none⟩) c1 rs _ hR2 hc1).mono ?_
  rintro e w3 ⟨rfl, hb3⟩
  have hG3 := hG.below hb3
  have hR3 := hR2.below hb3 (Nat.le_refl _)
  have hB3 : Below w.heap.size w w3 := hB1.trans ((hbw.trans (hb3.mono (by simp))).mono hB1.size)
  obtain ⟨g0, g1, gf0, gf1⟩ := hG3.cells
  clear hG hR2 hb3 hbw
  cases hok : gramOkB st rs with
  | false =>
    go_wp2_with fail
    refine (sGramOk_any st (some ⟨b, off, none⟩) c1 rs _ hR3 hc1).mono ?_
    rintro e w4 ⟨rfl, hb4⟩
    rw [hok]
    have hG4 := hG3.below hb4
    have hR4 := hR3.below hb4 (Nat.le_refl _)
    have hB4 : Below w.heap.size w w4 := hB3.trans (hb4.mono hB3.size)
    obtain ⟨x0, x1, xf0, xf1⟩ := hG4.cells
    clear g0 g1 gf0 gf1 hG3 hR3 hb4
    go_wp2_with fail
    refine (sGramOk_any st (some ⟨b, off, none⟩) c1 rs _ hR4 hc1).mono ?_
    rintro e w5 ⟨rfl, hb5⟩
    rw [hok]
    go_wp2
    go_ret
    exact ⟨rfl, hB4.trans (hb5.mono hB4.size)⟩
  | true =>
    go_wp2_with fail
    refine (sGramOk_any st (some ⟨b, off, none⟩) c1 rs _ hR3 hc1).mono ?_
    rintro e w4 ⟨rfl, hb4⟩
    rw [hok]
    have hG4 := hG3.below hb4
    have hR4 := hR3.below hb4 (Nat.le_refl _)
    have hB4 : Below w.heap.size w w4 := hB3.trans (hb4.mono hB3.size)
    obtain ⟨x0, x1, xf0, xf1⟩ := hG4.cells
    clear g0 g1 gf0 gf1 hG3 hR3 hb4
    go_upto_region 8 with fail
    have hX : BoxG (w4.alloc (.cells #[.string ⟨#[69]⟩, .slice (some ⟨b, off, none⟩) rs.length c1] 25)) w4.heap.size (.string ⟨#[69]⟩) (.slice (some ⟨b, off, none⟩) rs.length c1) := blk_new _ _ rfl
    have hY := hG4.below ((Below.refl _ _).alloc (Nat.le_refl _) (.cells #[.string ⟨#[69]⟩, .slice (some ⟨b, off, none⟩) rs.length c1] 25))
    have hRX := hR4.below ((Below.refl _ _).alloc (Nat.le_refl _) (.cells #[.string ⟨#[69]⟩, .slice (some ⟨b, off, none⟩) rs.length c1] 25)) (Nat.le_refl _)
    have hBX : Below w.heap.size w (w4.alloc (.cells #[.string ⟨#[69]⟩, .slice (some ⟨b, off, none⟩) rs.length c1] 25)) := hB4.alloc hB4.size _
    clear x0 x1 xf0 xf1 hG4 hR4 hB4 hB3 hR1 hB1
    generalize w4.alloc (.cells #[.string ⟨#[69]⟩, .slice (some ⟨b, off, none⟩) rs.length c1] 25) = W at *
    generalize w4.heap.size = X at *
    generalize w1.heap.size = G at *
    have HW : ∀ x, RulesAt (grow W x) (some ⟨b, off, none⟩) rs := fun x => hRX.below (below_grow _ x) (Nat.le_refl _)
    have p0 : ∀ x, (grow W x).cell? ⟨X, 0, none⟩ = some (.string ⟨#[69]⟩) := fun x => by rw [grow_cell _ _ _ _ hX.lt]; exact hX.cells.1
    have p1 : ∀ x, (grow W x).cell? ⟨X, 1, none⟩ = some (.slice (some ⟨b, off, none⟩) rs.length c1) := fun x => by rw [grow_cell _ _ _ _ hX.lt]; exact hX.cells.2.1
    have q0 : ∀ x, (grow W x).cell? ⟨G, 0, none⟩ = some (.string st) := fun x => by rw [grow_cell _ _ _ _ hY.lt]; exact hY.cells.1
    have q1 : ∀ x, (grow W x).cell? ⟨G, 1, none⟩ = some (.slice (some ⟨b, off, none⟩) rs.length c1) := fun x => by rw [grow_cell _ _ _ _ hY.lt]; exact hY.cells.2.1
    have C1 : ∀ x, Calls Try.prog 19 #[.agg #[.string ⟨#[69]⟩, .slice (some ⟨b, off, none⟩) rs.length c1]] (grow W x) fun e w' => e = .returned (.bool true) ∧ ∃ y, w' = grow W y := fun x => by
      have := gramOk_any ⟨#[69]⟩ _ c1 rs _ (HW x) hc1
      rw [ok_start hok] at this
      exact Calls.grow_of this
    have C2 : ∀ x, Calls Try.prog 31 #[.agg #[.string ⟨#[69]⟩, .slice (some ⟨b, off, none⟩) rs.length c1]] (grow W x) fun e w' => e = .returned (.string (bytesOf (symsL (gramTextL st rs) 97 4))) ∧ ∃ y, w' = grow W y := fun x => by
      have := gramSmalls_any ⟨#[69]⟩ _ c1 rs _ (HW x) hc1
      rw [smalls_start hok] at this
      exact Calls.grow_of this
    have C3 : ∀ x, Calls Try.prog 31 #[.agg #[.string st, .slice (some ⟨b, off, none⟩) rs.length c1]] (grow W x) fun e w' => e = .returned (.string (bytesOf (symsL (gramTextL st rs) 97 4))) ∧ ∃ y, w' = grow W y := fun x =>
      Calls.grow_of (gramSmalls_any st _ c1 rs _ (HW x) hc1)
    have C4 : ∀ x, Calls Try.prog 30 #[.agg #[.string ⟨#[69]⟩, .slice (some ⟨b, off, none⟩) rs.length c1]] (grow W x) fun e w' => e = .returned (.string (bytesOf (symsL (gramTextL ⟨#[69]⟩ rs) 65 5))) ∧ ∃ y, w' = grow W y := fun x =>
      Calls.grow_of (gramBigs_any _ _ c1 rs _ (HW x) hc1)
    have C5 : ∀ x, Calls Try.prog 35 #[.string (bytesOf (symsL (gramTextL ⟨#[69]⟩ rs) 65 5)), .int .u8 69] (grow W x) fun e w' => e = .returned (.bool true) ∧ ∃ y, w' = grow W y := fun x => by
      have := wpHas_any (bytesOf (symsL (gramTextL ⟨#[69]⟩ rs) 65 5)) 69 (grow W x) (by rw [bytesOf_size]; have := symsL_len (gramTextL ⟨#[69]⟩ rs) 65 5; unfold maxLen; omega)
      rw [bigs_start hok] at this
      exact Calls.grow_of_same this
    generalize bytesOf (symsL (gramTextL st rs) 97 4) = sm at *
    generalize bytesOf (symsL (gramTextL ⟨#[69]⟩ rs) 65 5) = bg at *
    by_cases hE : st = ⟨#[69]⟩
    · have C6 : ∀ x, Calls Try.prog 21 #[.agg #[.string ⟨#[69]⟩, .slice (some ⟨b, off, none⟩) rs.length c1], .agg #[.string st, .slice (some ⟨b, off, none⟩) rs.length c1]] (grow W x) fun e w' => e = .returned (.bool true) ∧ ∃ y, w' = grow W y := fun x => by
        have := gramSame_any ⟨#[69]⟩ st _ _ c1 c1 rs rs _ (HW x) (HW x)
        rw [hE, eqG_refl] at this
        rw [hE]
        exact Calls.grow_of this
      subst hE
      refine wp_region_grow (by kernel_rfl) (by kernel_rfl) ?_
      repeat (go_big_quiet_step ((first | (go_at_call 19; exact C1 _) | (go_at_call 31; first | exact C2 _ | exact C3 _) | (go_at_call 30; exact C4 _) | (go_at_call 35; exact C5 _) | (go_at_call 21; exact C6 _))))
      refine wpQuiet_nil ?_
      rintro _ ⟨x, rfl⟩
      go_wp2
      go_ret
      exact ⟨rfl, hBX.trans ((below_grow _ _).mono hBX.size)⟩
    · have C6 : ∀ x, Calls Try.prog 21 #[.agg #[.string ⟨#[69]⟩, .slice (some ⟨b, off, none⟩) rs.length c1], .agg #[.string st, .slice (some ⟨b, off, none⟩) rs.length c1]] (grow W x) fun e w' => e = .returned (.bool false) ∧ ∃ y, w' = grow W y := fun x => by
        have := gramSame_any ⟨#[69]⟩ st _ _ c1 c1 rs rs _ (HW x) (HW x)
        rw [same_start hE] at this
        exact Calls.grow_of this
      refine wp_region_grow (by kernel_rfl) (by kernel_rfl) ?_
      repeat (go_big_quiet_step ((first | (go_at_call 19; exact C1 _) | (go_at_call 31; first | exact C2 _ | exact C3 _) | (go_at_call 30; exact C4 _) | (go_at_call 35; exact C5 _) | (go_at_call 21; exact C6 _))))
      refine wpQuiet_nil ?_
      rintro _ ⟨x, rfl⟩
      go_wp2
      go_ret
      exact ⟨rfl, hBX.trans ((below_grow _ _).mono hBX.size)⟩
end Go.Proofs.Ytmmkeaciaolapaa
