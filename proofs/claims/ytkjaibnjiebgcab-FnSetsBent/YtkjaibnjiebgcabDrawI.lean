/- The draws of a grammar and signs. -/
import Derived.Test.YtkjaibnjiebgcabBentA
namespace Go.Proofs.Ytkjaibnjiebgcab
open Go.ChangeShapes Go.WideShapes Go.ChangeAt Go.RowKit
set_option maxRecDepth 100000
theorem drawFollowOf_any (a : Option Addr) (n cap : Nat) (w : World) (H : BytesAt w a n cap) :
    Calls Try.prog 31 #[.slice a n cap] w (MadeGS 10 w) := by
  go_enter Try.func31, Try.ntmps31
  go_wp2_with fail
  have hZ : BoxG (w.alloc (.cells #[.string ⟨#[]⟩, .slice none 0 0] 25)) w.heap.size (.string ⟨#[]⟩) (.slice none 0 0) := blk_new _ _ rfl
  refine (l17Open_any a n cap _ (H.alloc _)).mono ?_
  rintro e w2 ⟨rfl, hrd2, hb2⟩
  have hZ2 := hZ.below hb2
  have hB2 : Below w.heap.size w w2 := ((Below.refl _ _).alloc (Nat.le_refl _) _).trans (hb2.mono (by simp))
  simp only [World.size_alloc] at hrd2
  clear hZ hb2
  go_wp2_with fail
  refine (l1Gram_any (w.heap.size + 1) 0 w2 hrd2 (by omega)).mono ?_
  rintro e w3 ⟨v3, st3, rs3, rfl, ⟨b3, off3, cap3, rfl, hc3, hR3, hl3, hs3, hS3, hb3⟩, hrd3, ho3⟩
  have hZ3 := hZ2.only ho3 (by omega)
  have hlt2 := hrd2.lt
  have hB3 : Below w.heap.size w w3 := hB2.trans (ho3.below _ (by omega) (by omega))
  clear hZ2 hrd2 hB2
  go_wp2_with fail
  refine (l1Bent_any (w.heap.size + 1) (0 + 100) 6 b3 off3 cap3 st3 rs3 w3 hrd3 (by omega) hR3 hl3 (by omega) (by omega) hs3 hS3).mono ?_
  rintro e w4 ⟨v4, st4, rs4, rfl, ⟨b4, off4, cap4, rfl, hc4, hR4, hl4, hs4, hS4, hb4⟩, hrd4, ho4⟩
  have hZ4 := hZ3.only ho4 (by omega)
  have hlt3 := hrd3.lt
  have hB4 : Below w.heap.size w w4 := hB3.trans (ho4.below _ (by omega) (by omega))
  clear hZ3 hrd3 hB3 hR3 hS3
  go_wp2_with fail
  refine (of_any (w.heap.size + 1) (0 + 100 + 100) w4.heap.size 6 _ [⟨#[65]⟩, ⟨#[66]⟩, ⟨#[67]⟩, ⟨#[68]⟩, ⟨#[97]⟩, ⟨#[]⟩] _ (hrd4.alloc _) (by omega) rfl (by omega) (by omega) (by have := hrd4.lt; omega) (lit_cells w4 [⟨#[65]⟩, ⟨#[66]⟩, ⟨#[67]⟩, ⟨#[68]⟩, ⟨#[97]⟩, ⟨#[]⟩] _)).mono ?_
  rintro e w5 ⟨s5, rfl, hs5, hrd5, ho5'⟩
  have ho5 : Only (w.heap.size + 1) w4 w5 := (Only.of_below ((Below.refl _ _).alloc (Nat.le_refl _) _)).trans ho5'
  have hlt4 := hrd4.lt
  have hZ5 := hZ4.only ho5 (by omega)
  have hB5 : Below w.heap.size w w5 := hB4.trans (ho5.below _ (by omega) (by omega))
  have hs5' : s5.size ≤ 100 := by
    simp only [List.mem_cons, List.not_mem_nil, or_false] at hs5
    rcases hs5 with rfl | rfl | rfl | rfl | rfl | rfl <;> decide
  have hR5 : RulesAt w5 (some ⟨b4, off4, none⟩) rs4 := hR4.only ho5 (by omega)
  obtain ⟨z0, z1, zf0, zf1⟩ := hZ5.cells
  clear hZ4 hrd4 hB4 hs5
  go_wp2
  refine bodyPost_ret (v := .tuple #[.agg #[.string st4, .slice (some ⟨b4, off4, none⟩) rs4.length cap4], .string s5]) (by simp [results, Try.results31, go_sem, z0, z1]) rfl ?_
  obtain ⟨v, st, rs, e, hv, hb⟩ := wrap_end (w := w) (m := 10) (wz := w5) (st := st4) (rs := rs4) ⟨b4, off4, cap4, rfl, hc4, hR5, hl4, hs4, hS4, by omega⟩ hB5
  cases e
  exact ⟨_, st, rs, s5, rfl, hv, hs5', hb⟩
set_option maxHeartbeats 1000000 in
theorem drawFirstOf_any (a : Option Addr) (n cap : Nat) (w : World) (H : BytesAt w a n cap) :
    Calls Try.prog 28 #[.slice a n cap] w (MadeGS 10 w) := by
  go_enter Try.func28, Try.ntmps28
  go_wp2_with fail
  have hZ : BoxG (w.alloc (.cells #[.string ⟨#[]⟩, .slice none 0 0] 25)) w.heap.size (.string ⟨#[]⟩) (.slice none 0 0) := blk_new _ _ rfl
  refine (l17Open_any a n cap _ (H.alloc _)).mono ?_
  rintro e w2 ⟨rfl, hrd2, hb2⟩
  have hZ2 := hZ.below hb2
  have hB2 : Below w.heap.size w w2 := ((Below.refl _ _).alloc (Nat.le_refl _) _).trans (hb2.mono (by simp))
  simp only [World.size_alloc] at hrd2
  clear hZ hb2
  go_wp2_with fail
  refine (l1Gram_any (w.heap.size + 1) 0 w2 hrd2 (by omega)).mono ?_
  rintro e w3 ⟨v3, st3, rs3, rfl, ⟨b3, off3, cap3, rfl, hc3, hR3, hl3, hs3, hS3, hb3⟩, hrd3, ho3⟩
  have hZ3 := hZ2.only ho3 (by omega)
  have hlt2 := hrd2.lt
  have hB3 : Below w.heap.size w w3 := hB2.trans (ho3.below _ (by omega) (by omega))
  clear hZ2 hrd2 hB2
  go_wp2_with fail
  refine (l1Bent_any (w.heap.size + 1) (0 + 100) 6 b3 off3 cap3 st3 rs3 w3 hrd3 (by omega) hR3 hl3 (by omega) (by omega) hs3 hS3).mono ?_
  rintro e w4 ⟨v4, st4, rs4, rfl, ⟨b4, off4, cap4, rfl, hc4, hR4, hl4, hs4, hS4, hb4⟩, hrd4, ho4⟩
  have hZ4 := hZ3.only ho4 (by omega)
  have hlt3 := hrd3.lt
  have hB4 : Below w.heap.size w w4 := hB3.trans (ho4.below _ (by omega) (by omega))
  clear hZ3 hrd3 hB3 hR3 hS3
  have hG5 : BoxG (w4.alloc (.cells #[.string st4, .slice (some ⟨b4, off4, none⟩) rs4.length cap4] 25)) w4.heap.size (.string st4) (.slice (some ⟨b4, off4, none⟩) rs4.length cap4) := blk_new _ _ rfl
  have hlt4 := hrd4.lt
  have hbA := (Below.refl w4.heap.size w4).alloc (Nat.le_refl _) (.cells #[.string st4, .slice (some ⟨b4, off4, none⟩) rs4.length cap4] 25)
  have hrdA := hrd4.alloc (.cells #[.string st4, .slice (some ⟨b4, off4, none⟩) rs4.length cap4] 25)
  have hZA := hZ4.old (.cells #[.string st4, .slice (some ⟨b4, off4, none⟩) rs4.length cap4] 25)
  have hRA := hR4.below hbA (Nat.le_refl _)
  have hBA : Below w.heap.size w (w4.alloc (.cells #[.string st4, .slice (some ⟨b4, off4, none⟩) rs4.length cap4] 25)) := hB4.alloc hB4.size _
  have hltA : w4.heap.size < (w4.alloc (.cells #[.string st4, .slice (some ⟨b4, off4, none⟩) rs4.length cap4] 25)).heap.size := by simp
  have hXA : (w4.alloc (.cells #[.string st4, .slice (some ⟨b4, off4, none⟩) rs4.length cap4] 25)).heap.size = w4.heap.size + 1 := by simp
  have hb4lt : b4 < w4.heap.size ∨ rs4 = [] := by
    by_cases h0 : rs4 = []
    · exact .inr h0
    · have hp : 0 < rs4.length := List.length_pos_iff.2 h0
      obtain ⟨_, _, b', off', e, hlt, _⟩ := hR4.2 0 hp
      cases e
      exact .inl hlt
  go_wp2_with fail
  generalize w4.alloc (.cells #[.string st4, .slice (some ⟨b4, off4, none⟩) rs4.length cap4] 25) = wA at *
  generalize hX : w4.heap.size = X at *
  rw [← hXA]
  refine (num_any (w.heap.size + 1) (0 + 100 + 100) wA.heap.size 6 _ [1, 2, 3, 0, 8, 9] _ (hrdA.alloc _) (by omega) rfl (by omega) (by omega) (by have := hrdA.lt; omega) (lit_ints wA [1, 2, 3, 0, 8, 9] _)).mono ?_
  rintro e w5 ⟨v5, rfl, hv5, hrd5, ho5'⟩
  obtain ⟨m5, rfl, hm5⟩ : ∃ m : Nat, v5 = (m : Int) ∧ m ≤ 9 := by
    simp only [List.mem_cons, List.not_mem_nil, or_false] at hv5
    rcases hv5 with rfl | rfl | rfl | rfl | rfl | rfl
    · exact ⟨1, rfl, by omega⟩
    · exact ⟨2, rfl, by omega⟩
    · exact ⟨3, rfl, by omega⟩
    · exact ⟨0, rfl, by omega⟩
    · exact ⟨8, rfl, by omega⟩
    · exact ⟨9, rfl, by omega⟩
  have ho5 : Only (w.heap.size + 1) wA w5 := (Only.of_below ((Below.refl _ _).alloc (Nat.le_refl _) _)).trans ho5'
  clear hv5 ho5'
  have hRlt := hrdA.lt
  go_wp2_with fail
  refine (l1Signed_any (w.heap.size + 1) (0 + 100 + 100 + 1) m5 _ hrd5 (by omega) (by omega)).mono ?_
  rintro e w6 ⟨s6, rfl, hs6, hrd6, ho6⟩
  go_wp2_with fail
  refine (pick_any (w.heap.size + 1) (0 + 100 + 100 + 1 + m5) 16 _ hrd6 (by omega) (by omega) (by omega)).mono ?_
  rintro e w7 ⟨v7, rfl, hv7, hrd7, ho7⟩
  have hoB : Only (w.heap.size + 1) wA w7 := (ho5.trans ho6).trans ho7
  have hZ7 := hZA.only hoB (by omega)
  have hG7 := hG5.only hoB (by omega)
  have hR7 : RulesAt w7 (some ⟨b4, off4, none⟩) rs4 := hRA.only hoB (by omega)
  have hB7 : Below w.heap.size w w7 := hBA.trans (hoB.below _ (by omega) (by omega))
  have hlt7 := hoB.size
  clear hrd5 ho5 ho6 ho7 hrdA hZA hRA hBA hv7 hG5 hbA
  by_cases h0 : v7 = 0
  · subst h0
    go_wp2_with fail
    refine (of_any (w.heap.size + 1) (0 + 100 + 100 + 1 + m5 + 1) w7.heap.size 3 _ [⟨#[101]⟩, ⟨#[32]⟩, ⟨#[70]⟩] _ (hrd7.alloc _) (by omega) rfl (by omega) (by omega) (by have := hrd7.lt; omega) (lit_cells w7 [⟨#[101]⟩, ⟨#[32]⟩, ⟨#[70]⟩] _)).mono ?_
    rintro e w8 ⟨s8, rfl, hs8, hrd8, ho8'⟩
    have ho8 : Only (w.heap.size + 1) w7 w8 := (Only.of_below ((Below.refl _ _).alloc (Nat.le_refl _) _)).trans ho8'
    have hs8' : s8.size ≤ 1 := by
      simp only [List.mem_cons, List.not_mem_nil, or_false] at hs8
      rcases hs8 with rfl | rfl | rfl <;> decide
    have hadd : ∀ w, (Op.stringOp .add s6 s8).run Try.prog w = .ok (.string (bytesOf (cat s6.data.toList s8))) w := fun w => by
      have := run_add_bytes (P := Try.prog) s6.data.toList s8 (by simp; omega) w
      rwa [bytesOf_self] at this
    have hsz : (bytesOf (cat s6.data.toList s8)).size ≤ 100 := by rw [bytesOf_size, cat_len]; simp; omega
    have hZ8 := hZ7.only ho8 (by omega)
    have hG8 := hG7.only ho8 (by omega)
    have hR8 : RulesAt w8 (some ⟨b4, off4, none⟩) rs4 := hR7.only ho8 (by omega)
    have hB8 : Below w.heap.size w w8 := hB7.trans (ho8.below _ (by omega) (by omega))
    obtain ⟨z0, z1, zf0, zf1⟩ := hZ8.cells
    obtain ⟨g0, g1, gf0, gf1⟩ := hG8.cells
    clear hZ7 hG7 hB7 hs8 hrd8 hrd7
    go_wp2
    refine bodyPost_ret (v := .tuple #[.agg #[.string st4, .slice (some ⟨b4, off4, none⟩) rs4.length cap4], .string (bytesOf (cat s6.data.toList s8))]) (by simp [results, Try.results28, go_sem, z0, z1]) rfl ?_
    obtain ⟨v, st, rs, e, hv, hb⟩ := wrap_end (w := w) (m := 10) (wz := w8) (st := st4) (rs := rs4) ⟨b4, off4, cap4, rfl, hc4, hR8, hl4, hs4, hS4, by omega⟩ hB8
    cases e
    exact ⟨_, st, rs, _, rfl, hv, hsz, hb⟩
  · have h0' : (v7 == 0) = false := by simpa using h0
    obtain ⟨z0, z1, zf0, zf1⟩ := hZ7.cells
    obtain ⟨g0, g1, gf0, gf1⟩ := hG7.cells
    clear h0 hrd7
    go_wp2
    refine bodyPost_ret (v := .tuple #[.agg #[.string st4, .slice (some ⟨b4, off4, none⟩) rs4.length cap4], .string s6]) (by simp [results, Try.results28, go_sem, z0, z1]) rfl ?_
    obtain ⟨v, st, rs, e, hv, hb⟩ := wrap_end (w := w) (m := 10) (wz := w7) (st := st4) (rs := rs4) ⟨b4, off4, cap4, rfl, hc4, hR7, hl4, hs4, hS4, by omega⟩ hB7
    cases e
    exact ⟨_, st, rs, s6, rfl, hv, by omega, hb⟩
end Go.Proofs.Ytkjaibnjiebgcab
