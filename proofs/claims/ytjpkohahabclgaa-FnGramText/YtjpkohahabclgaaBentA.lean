/- What a grammar that is not right gives; the draw of a grammar and a sign. -/
import Derived.Test.YtjpkohahabclgaaDrawH
import Derived.Test.YtjpkohahabclgaaSymA
import Derived.Test.YtjpkohahabclgaaSame
namespace Go.Proofs.Ytjpkohahabclgaa
open Go.ChangeShapes Go.WideShapes Go.ChangeAt Go.RowKit
set_option maxRecDepth 100000
theorem RulesAt.only {R : Nat} {w w' : World} {b off : Nat} {rs : List RuleT} (h : RulesAt w (some ⟨b, off, none⟩) rs) (ho : Only R w w') (hR : b ≠ R) : RulesAt w' (some ⟨b, off, none⟩) rs := by
  refine ⟨h.1, fun i hi => ?_⟩
  obtain ⟨z1, z2, b', off', e, hl, c1, c2⟩ := h.2 i hi
  cases e
  exact ⟨z1, z2, b, off, rfl, Nat.lt_of_lt_of_le hl ho.size, by rw [ho.cell (p := ⟨b, _, none⟩) hl hR]; exact c1, by rw [ho.cell (p := ⟨b, _, none⟩) hl hR]; exact c2⟩
theorem gramFor_bad (st left : ByteArray) (a : Option Addr) (cap : Nat) (rs : List RuleT) (w : World) (H : RulesAt w a rs) (hcap : rs.length ≤ cap) (hok : gramOkB st rs = false) :
    Calls Try.prog 22 #[.agg #[.string st, .slice a rs.length cap], .string left] w fun e w' => e = .returned (.slice none 0 0) ∧ Below w.heap.size w w' := by
  have hbw := (Below.refl w.heap.size w).alloc (Nat.le_refl _) (.cells #[.string st, .slice a rs.length cap] 24)
  go_enter Try.func22, Try.ntmps22
  go_wp2_with fail
  refine (gramOk_any _ _ _ rs _ (H.below hbw (Nat.le_refl _)) hcap).mono ?_
  rintro e w2 ⟨rfl, hb2⟩
  rw [hok]
  go_wp2
  go_ret
  exact ⟨rfl, hbw.trans (hb2.mono (by simp))⟩
/-- a draw of a grammar and a text -/
def MadeGS (m : Nat) (w : World) (e : Ending) (w' : World) : Prop := ∃ v st rs left, e = .returned (.tuple #[v, .string left]) ∧ GramVal w' w.heap.size m v st rs ∧ left.size ≤ 100 ∧ Below w.heap.size w w'
theorem drawGramFor_any (a : Option Addr) (n cap : Nat) (w : World) (H : BytesAt w a n cap) :
    Calls Try.prog 40 #[.slice a n cap] w (MadeGS 10 w) := by
  go_enter Try.func40, Try.ntmps40
  go_wp2_with fail
  have hZ : BoxG (w.alloc (.cells #[.string ⟨#[]⟩, .slice none 0 0] 24)) w.heap.size (.string ⟨#[]⟩) (.slice none 0 0) := blk_new _ _ rfl
  refine (l17Open_any a n cap _ (H.alloc _)).mono ?_
  rintro e w2 ⟨rfl, hrd2, hb2⟩
  have hZ2 := hZ.below hb2
  have hB2 : Below w.heap.size w w2 := ((Below.refl _ _).alloc (Nat.le_refl _) _).trans (hb2.mono (by simp))
  simp only [World.size_alloc] at hrd2
  clear hZ hb2
  go_wp2_with fail
  refine (l1Gram_any (w.heap.size + 1) 0 w2 hrd2 (by omega)).mono ?_
  rintro e w3 ⟨v3, st3, rs3, rfl, ⟨b3, off3, cap3, rfl, hc3, hR3, hl3, hs3, hS3, hb3⟩, hrd3, ho3⟩
  have hZ3 := hZ2.only ho3 (by omega)
  have hlt2 := hrd2.lt
  have hB3 : Below w.heap.size w w3 := hB2.trans (ho3.below _ (by omega) (by omega))
  clear hZ2 hrd2 hB2
  go_wp2_with fail
  refine (l1Bent_any (w.heap.size + 1) (0 + 100) 6 b3 off3 cap3 st3 rs3 w3 hrd3 (by omega) hR3 hl3 (by omega) (by omega) hs3 hS3).mono ?_
  rintro e w4 ⟨v4, st4, rs4, rfl, ⟨b4, off4, cap4, rfl, hc4, hR4, hl4, hs4, hS4, hb4⟩, hrd4, ho4⟩
  have hZ4 := hZ3.only ho4 (by omega)
  have hlt3 := hrd3.lt
  have hB4 : Below w.heap.size w w4 := hB3.trans (ho4.below _ (by omega) (by omega))
  clear hZ3 hrd3 hB3 hR3 hS3
  go_wp2_with fail
  refine (of_any (w.heap.size + 1) (0 + 100 + 100) w4.heap.size 5 _ [⟨#[65]⟩, ⟨#[66]⟩, ⟨#[67]⟩, ⟨#[97]⟩, ⟨#[]⟩] _ (hrd4.alloc _) (by omega) rfl (by omega) (by omega) (by have := hrd4.lt; omega) (lit_cells w4 [⟨#[65]⟩, ⟨#[66]⟩, ⟨#[67]⟩, ⟨#[97]⟩, ⟨#[]⟩] _)).mono ?_
  rintro e w5 ⟨s5, rfl, hs5, hrd5, ho5'⟩
  have ho5 : Only (w.heap.size + 1) w4 w5 := (Only.of_below ((Below.refl _ _).alloc (Nat.le_refl _) _)).trans ho5'
  have hlt4 := hrd4.lt
  have hZ5 := hZ4.only ho5 (by omega)
  have hB5 : Below w.heap.size w w5 := hB4.trans (ho5.below _ (by omega) (by omega))
  have hs5' : s5.size ≤ 100 := by
    simp only [List.mem_cons, List.not_mem_nil, or_false] at hs5
    rcases hs5 with rfl | rfl | rfl | rfl | rfl <;> decide
  have hR5 : RulesAt w5 (some ⟨b4, off4, none⟩) rs4 := hR4.only ho5 (by omega)
  obtain ⟨z0, z1, zf0, zf1⟩ := hZ5.cells
  clear hZ4 hrd4 hB4 hs5
  go_wp2
  refine bodyPost_ret (v := .tuple #[.agg #[.string st4, .slice (some ⟨b4, off4, none⟩) rs4.length cap4], .string s5]) (by simp [results, Try.results40, go_sem, z0, z1]) rfl ?_
  obtain ⟨v, st, rs, e, hv, hb⟩ := wrap_end (w := w) (m := 10) (wz := w5) (st := st4) (rs := rs4) ⟨b4, off4, cap4, rfl, hc4, hR5, hl4, hs4, hS4, by omega⟩ hB5
  cases e
  exact ⟨_, st, rs, s5, rfl, hv, hs5', hb⟩
theorem gramOnly_bad (st : ByteArray) (a : Option Addr) (cap : Nat) (rs : List RuleT) (v : Value) (w : World) (H : RulesAt w a rs) (hcap : rs.length ≤ cap) (hok : gramOkB st rs = false) :
    Calls Try.prog 28 #[.agg #[.string st, .slice a rs.length cap], v] w fun e w' => e = .returned (.agg #[.string ⟨#[]⟩, .slice none 0 0]) ∧ Below w.heap.size w w' := by
  have hbw := ((Below.refl w.heap.size w).alloc (Nat.le_refl _) (.cells #[.string st, .slice a rs.length cap] 24)).alloc (by simp) (.cells #[.string ⟨#[]⟩, .slice none 0 0] 24)
  have hZ : BoxG ((w.alloc (.cells #[.string st, .slice a rs.length cap] 24)).alloc (.cells #[.string ⟨#[]⟩, .slice none 0 0] 24)) (w.heap.size + 1) (.string ⟨#[]⟩) (.slice none 0 0) := blk_new _ _ (by simp)
  go_enter Try.func28, Try.ntmps28
  go_wp2_with fail
  refine (gramOk_any _ _ _ rs _ (H.below hbw (Nat.le_refl _)) hcap).mono ?_
  rintro e w2 ⟨rfl, hb2⟩
  obtain ⟨z0, z1, zf0, zf1⟩ := (hZ.below hb2).cells
  have hB2 : Below w.heap.size w w2 := hbw.trans (hb2.mono (by simp; omega))
  clear hZ hb2 hbw
  rw [hok]
  go_wp2
  exact bodyPost_ret (v := .agg #[.string ⟨#[]⟩, .slice none 0 0]) (by simp [results, Try.results28, go_sem, z0, z1]) rfl
    ⟨rfl, (hB2.setCell (p := ⟨w.heap.size + 1, 0, none⟩) (Nat.le_succ _) _).setCell (p := ⟨w.heap.size + 1, 1, none⟩) (Nat.le_succ _) _⟩
end Go.Proofs.Ytjpkohahabclgaa
