/- A grammar and a text are drawn: the contracts of l4Draw and of the draws that hand it on. -/
import Derived.Test.YtngekjbdjnfhmaaDoorL4D
namespace Go.Proofs.YtngekjbdjnfhmaaDoor
open Go.ChangeShapes Go.WideShapes Go.ChangeAt Go.RowKit Go.Deep
set_option maxRecDepth 100000
/-- a grammar and a text were drawn -/
def DrawnGS (w : World) (e : Ending) (w' : World) : Prop := ∃ b off cap st rs s, e = .returned (.tuple #[.agg #[.string st, .slice (some ⟨b, off, none⟩) rs.length cap], .string s]) ∧ rs.length ≤ cap ∧ RulesAt w' (some ⟨b, off, none⟩) rs ∧ st.size ≤ 100 ∧ s.size ≤ 1000 ∧ w.heap.size ≤ b ∧ Below w.heap.size w w'
theorem gs_end {w w' : World} {b off : Nat} {rs : List RuleT} (HU : RulesAt w' (some ⟨b, off, none⟩) rs) (hb : Below w.heap.size w w') (hbw : w.heap.size < b) (v0 v1 : Value) :
    RulesAt ((w'.setCell ⟨w.heap.size, 0, none⟩ v0).setCell ⟨w.heap.size, 1, none⟩ v1) (some ⟨b, off, none⟩) rs ∧ Below w.heap.size w ((w'.setCell ⟨w.heap.size, 0, none⟩ v0).setCell ⟨w.heap.size, 1, none⟩ v1) := by
  refine ⟨⟨HU.1, fun i hi => ?_⟩, (hb.setCell (Nat.le_refl _) _).setCell (Nat.le_refl _) _⟩
  obtain ⟨z1, z2, b', off', e, hl, c1, c2⟩ := HU.2 i hi
  simp only [Option.some.injEq, Addr.mk.injEq] at e
  obtain ⟨rfl, rfl, _⟩ := e
  have hbl : ((w'.setCell ⟨w.heap.size, 0, none⟩ v0).setCell ⟨w.heap.size, 1, none⟩ v1).heap[b]? = w'.heap[b]? := (Below.heap_setCell _ _ _ _ (by show b ≠ w.heap.size; omega)).trans (Below.heap_setCell _ _ _ _ (by show b ≠ w.heap.size; omega))
  exact ⟨z1, z2, b, off, rfl, by simp [World.setCell]; exact hl, (World.cell?_of_block (w := w') (a := ⟨b, _, none⟩) hbl).trans c1, (World.cell?_of_block (w := w') (a := ⟨b, _, none⟩) hbl).trans c2⟩
theorem put_block {w : World} {X : Nat} {u0 u1 : Value} {g : Nat} (h : g ≠ X) : ((w.setCell ⟨X, 0, none⟩ u0).setCell ⟨X, 1, none⟩ u1).heap[g]? = w.heap[g]? :=
  (Below.heap_setCell _ _ _ _ h).trans (Below.heap_setCell _ _ _ _ h)
theorem box2_put {w : World} {C X : Nat} {v0 v1 : Value} (h : Box2 w C v0 v1) (hne : C ≠ X) (u0 u1 : Value) : ((w.setCell ⟨X, 0, none⟩ u0).setCell ⟨X, 1, none⟩ u1).cell? ⟨C, 0, none⟩ = some v0 ∧ ((w.setCell ⟨X, 0, none⟩ u0).setCell ⟨X, 1, none⟩ u1).cell? ⟨C, 1, none⟩ = some v1 :=
  ⟨(World.cell?_of_block (w := w) (a := ⟨C, 0, none⟩) (put_block hne)).trans h.2.1, (World.cell?_of_block (w := w) (a := ⟨C, 1, none⟩) (put_block hne)).trans h.2.2⟩
set_option maxHeartbeats 2000000 in
theorem l4Draw_any (a : Option Addr) (n cap : Nat) (w : World) (H : BytesAt w a n cap) :
    Calls Tryd.prog 11 #[.slice a n cap] w (DrawnGS w) := by
  go_enter Tryd.func11, Tryd.ntmps11
  go_wp2_with fail
  have hZ : BoxG (w.alloc (.cells #[.string ⟨#[]⟩, .slice none 0 0] 25)) w.heap.size (.string ⟨#[]⟩) (.slice none 0 0) := blk_new _ _ rfl
  refine (l17Open_any a n cap _ (H.alloc _)).mono ?_
  rintro e w2 ⟨rfl, hrd2, hb2⟩
  have hZ2 := hZ.below hb2
  have hB2 : Below w.heap.size w w2 := ((Below.refl _ _).alloc (Nat.le_refl _) _).trans (hb2.mono (by simp))
  simp only [World.size_alloc] at hrd2
  clear hZ hb2
  go_wp2_with fail
  refine (l1Gram_any (w.heap.size + 1) 0 w2 hrd2 (by omega)).mono ?_
  rintro e w3 ⟨v3, st3, rs3, rfl, ⟨b3, off3, cap3, rfl, hc3, hR3, hl3, hs3, hS3, hb3⟩, hrd3, ho3⟩
  have hZ3 := hZ2.only ho3 (by omega)
  have hlt2 := hrd2.lt
  have hB3 : Below w.heap.size w w3 := hB2.trans (ho3.below _ (by omega) (by omega))
  clear hZ2 hrd2 hB2
  go_wp2_with fail
  refine (l1Bent_any (w.heap.size + 1) (0 + 100) 6 b3 off3 cap3 st3 rs3 w3 hrd3 (by omega) hR3 hl3 (by omega) (by omega) hs3 hS3).mono ?_
  rintro e w4 ⟨v4, st4, rs4, rfl, ⟨b4, off4, cap4, rfl, hc4, hR4, hl4, hs4, hS4, hb4⟩, hrd4, ho4⟩
  have hZ4 := hZ3.only ho4 (by omega)
  have hlt3 := hrd3.lt
  have hB4 : Below w.heap.size w w4 := hB3.trans (ho4.below _ (by omega) (by omega))
  clear hZ3 hrd3 hB3 hR3 hS3
  have hlt4 := hrd4.lt
  have r5 := hrd4.alloc (.cells #[.string st4, .slice (some ⟨b4, off4, none⟩) rs4.length cap4] 25)
  have Z5 := hZ4.old (.cells #[.string st4, .slice (some ⟨b4, off4, none⟩) rs4.length cap4] 25)
  have B5 := hB4.alloc hB4.size (.cells #[.string st4, .slice (some ⟨b4, off4, none⟩) rs4.length cap4] 25)
  have U5 := hR4.below ((Below.refl w4.heap.size w4).alloc (Nat.le_refl _) (.cells #[.string st4, .slice (some ⟨b4, off4, none⟩) rs4.length cap4] 25)) (Nat.le_refl _)
  have G5 : BoxG (w4.alloc (.cells #[.string st4, .slice (some ⟨b4, off4, none⟩) rs4.length cap4] 25)) w4.heap.size (.string st4) (.slice (some ⟨b4, off4, none⟩) rs4.length cap4) := blk_new _ _ rfl
  have hbw : w.heap.size < b4 := by omega
  have hbR : b4 ≠ w.heap.size + 1 := by omega
  go_wp2_with fail
  generalize w4.alloc (.cells #[.string st4, .slice (some ⟨b4, off4, none⟩) rs4.length cap4] 25) = w5 at *
  have hCw : w.heap.size + 1 < w4.heap.size := hlt4
  have hC5 : w4.heap.size < w5.heap.size := G5.lt
  generalize w4.heap.size = C at *
  obtain ⟨z0, z1, zf0, zf1⟩ := Z5.cells
  obtain ⟨g0, g1, _, _⟩ := G5.cells
  have q5 : Rdk w5.drew (w.heap.size + 1) 200 := r5.mono (by omega)
  have V5 : RulesAt w5.drew (some ⟨b4, off4, none⟩) rs4 := U5.below ((Below.refl w5.heap.size w5).drew) (Nat.le_refl _)
  have Z5d : BoxG w5.drew w.heap.size (.string ⟨#[]⟩) (.slice none 0 0) := Z5
  have G5d : Box2 w5.drew C (.string st4) (.slice (some ⟨b4, off4, none⟩) rs4.length cap4) := ⟨hC5, g0, g1⟩
  have hCR : C ≠ w.heap.size + 1 := by omega
  have hwR : w.heap.size ≠ w.heap.size + 1 := by omega
  have hCX : C ≠ w.heap.size := by omega
  go_region_held3 (fun w' => w'.cell? ⟨C, 0, none⟩ = some (.string st4) ∧ w'.cell? ⟨C, 1, none⟩ = some (.slice (some ⟨b4, off4, none⟩) rs4.length cap4))
    (first
      | go_keep
      | with_reducible exact box2_keep G6
      | with_reducible exact box2_put G6 hCX _ _
      | fail)
    (first
      | (go_at_call 32; (with_reducible refine (l4Some_any (w.heap.size + 1) 200 b4 off4 cap4 st4 rs4 w5.drew q5 (by omega) V5 hc4 (by omega) hS4 hs4 hbR).mono ?_); rintro e w6 ⟨s, rfl, hs, r6, o6⟩; have G6 : Box2 w6 C (.string st4) (.slice (some ⟨b4, off4, none⟩) rs4.length cap4) := ⟨Nat.lt_of_lt_of_le G5d.1 o6.size, (o6.cell (p := ⟨C, 0, none⟩) G5d.1 hCR).trans G5d.2.1, (o6.cell (p := ⟨C, 1, none⟩) G5d.1 hCR).trans G5d.2.2⟩; have Z6 := BoxG.only Z5d o6 hwR; obtain ⟨z0, z1, zf0, zf1⟩ := Z6.cells)
      | fail)
  go_wp2
  have U6 := V5.only o6 hbR
  have B6 : Below w.heap.size w w6 := (B5.drew).trans (o6.below w.heap.size (by omega) (B5.drew).size)
  have E6 := gs_end U6 B6 hbw (.string st4) (.slice (some ⟨b4, off4, none⟩) rs4.length cap4)
  obtain ⟨y0, y1, _, _⟩ := ((Z6.set0 (.string st4)).set1 (.slice (some ⟨b4, off4, none⟩) rs4.length cap4)).cells
  exact bodyPost_ret (v := .tuple #[.agg #[.string st4, .slice (some ⟨b4, off4, none⟩) rs4.length cap4], .string s]) (by simp [results, Tryd.results11, go_sem, y0, y1]) rfl ⟨b4, off4, cap4, st4, rs4, s, rfl, hc4, E6.1, hs4, hs, Nat.le_of_lt hbw, E6.2⟩
set_option maxHeartbeats 1000000 in
theorem drawAllTrees_any (a : Option Addr) (n cap : Nat) (w : World) (H : BytesAt w a n cap) :
    Calls Tryd.prog 4 #[.slice a n cap] w (DrawnGS w) := by
  go_enter Tryd.func4, Tryd.ntmps4
  go_wp2_with fail
  have hZ : BoxG (w.alloc (.cells #[.string ⟨#[]⟩, .slice none 0 0] 25)) w.heap.size (.string ⟨#[]⟩) (.slice none 0 0) := blk_new _ _ rfl
  refine (l4Draw_any a n cap _ (H.alloc _)).mono ?_
  rintro e w2 ⟨b, off, cp, st, rs, s, rfl, hc, HU, hst, hs, hbl, hb2⟩
  have Z2 := hZ.below hb2
  have B2 : Below w.heap.size w w2 := ((Below.refl _ _).alloc (Nat.le_refl _) _).trans (hb2.mono (by simp))
  have hbw : w.heap.size < b := by simp at hbl; omega
  obtain ⟨z0, z1, zf0, zf1⟩ := Z2.cells
  clear hZ hb2
  go_wp2
  have E6 := gs_end HU B2 hbw (.string st) (.slice (some ⟨b, off, none⟩) rs.length cp)
  obtain ⟨y0, y1, _, _⟩ := ((Z2.set0 (.string st)).set1 (.slice (some ⟨b, off, none⟩) rs.length cp)).cells
  exact bodyPost_ret (v := .tuple #[.agg #[.string st, .slice (some ⟨b, off, none⟩) rs.length cp], .string s]) (by simp [results, Tryd.results4, go_sem, y0, y1]) rfl ⟨b, off, cp, st, rs, s, rfl, hc, E6.1, hst, hs, Nat.le_of_lt hbw, E6.2⟩
end Go.Proofs.YtngekjbdjnfhmaaDoor
