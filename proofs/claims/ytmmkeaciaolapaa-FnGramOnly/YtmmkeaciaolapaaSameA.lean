/- The draw of two grammars, and of a sign; an append of rules in a plain region. -/
import Derived.Test.YtmmkeaciaolapaaBentA
import Derived.Deep.RegionHeld3
namespace Go.Proofs.Ytmmkeaciaolapaa
open Go.ChangeShapes Go.WideShapes Go.ChangeAt Go.RowKit
set_option maxRecDepth 100000
theorem GramVal.only {R : Nat} {w w' : World} {B m : Nat} {v : Value} {st : ByteArray} {rs : List RuleT} (h : GramVal w B m v st rs) (ho : Only R w w') (hR : R < B) : GramVal w' B m v st rs := by
  obtain ⟨b, off, cap, e, hc, hr, hl, hs, hS, hb⟩ := h
  exact ⟨b, off, cap, e, hc, hr.only ho (by omega), hl, hs, hS, hb⟩
theorem GramVal.more {w : World} {B m m' : Nat} {v : Value} {st : ByteArray} {rs : List RuleT} (h : GramVal w B m v st rs) (hm : m ≤ m') : GramVal w B m' v st rs := by
  obtain ⟨b, off, cap, e, hc, hr, hl, hs, hS, hb⟩ := h
  exact ⟨b, off, cap, e, hc, hr, by omega, hs, hS, hb⟩
theorem drawSignBig_any (a : Option Addr) (n cap : Nat) (w : World) (H : BytesAt w a n cap) :
    Calls Try.prog 40 #[.slice a n cap] w fun e w' => ∃ s : ByteArray, e = .returned (.string s) ∧ s.size ≤ 100 ∧ Below w.heap.size w w' := by
  go_enter Try.func40, Try.ntmps40
  go_wp2_with fail
  refine (l17Open_any a n cap _ H).mono ?_
  rintro e w2 ⟨rfl, hrd2, hb2⟩
  have hlt2 := hrd2.lt
  go_wp2_with fail
  refine (of_any w.heap.size 0 w2.heap.size 10 _ [⟨#[65]⟩, ⟨#[69]⟩, ⟨#[70]⟩, ⟨#[97]⟩, ⟨#[100]⟩, ⟨#[101]⟩, ⟨#[]⟩, ⟨#[65, 65]⟩, ⟨#[97, 97]⟩, ⟨#[32]⟩] _ (hrd2.alloc _) (by omega) rfl (by omega) (by omega) (by omega) (lit_cells w2 [⟨#[65]⟩, ⟨#[69]⟩, ⟨#[70]⟩, ⟨#[97]⟩, ⟨#[100]⟩, ⟨#[101]⟩, ⟨#[]⟩, ⟨#[65, 65]⟩, ⟨#[97, 97]⟩, ⟨#[32]⟩] _)).mono ?_
  rintro e w3 ⟨s, rfl, hs, hrd3, ho3⟩
  have hs' : s.size ≤ 100 := by
    simp only [List.mem_cons, List.not_mem_nil, or_false] at hs
    rcases hs with rfl | rfl | rfl | rfl | rfl | rfl | rfl | rfl | rfl | rfl <;> decide
  go_wp2
  go_ret
  exact ⟨_, rfl, hs', hb2.trans (((Below.refl _ _).alloc hb2.size _).trans (ho3.below _ (Nat.le_refl _) (by simp; omega)))⟩
def MadeGG (m : Nat) (w : World) (e : Ending) (w' : World) : Prop := ∃ v st rs v' st' rs', e = .returned (.tuple #[v, v']) ∧ GramVal w' w.heap.size m v st rs ∧ GramVal w' w.heap.size m v' st' rs' ∧ Below w.heap.size w w'
theorem two_end {w wz : World} {m : Nat} {v0 v1 u0 u1 : Value} {st st' : ByteArray} {rs rs' : List RuleT} (h : GramVal wz (w.heap.size + 2) m (.agg #[v0, v1]) st rs) (h' : GramVal wz (w.heap.size + 2) m (.agg #[u0, u1]) st' rs') (hb : Below w.heap.size w wz) :
    MadeGG m w (.returned (.tuple #[.agg #[v0, v1], .agg #[u0, u1]])) ((((wz.setCell ⟨w.heap.size, 0, none⟩ v0).setCell ⟨w.heap.size, 1, none⟩ v1).setCell ⟨w.heap.size + 1, 0, none⟩ u0).setCell ⟨w.heap.size + 1, 1, none⟩ u1) := by
  have l0 : w.heap.size < w.heap.size + 2 := by omega
  have l1 : w.heap.size + 1 < w.heap.size + 2 := by omega
  exact ⟨_, st, rs, _, st', rs', rfl,
    ((((h.other (p := ⟨w.heap.size, 0, none⟩) l0 _).other (p := ⟨w.heap.size, 1, none⟩) l0 _).other (p := ⟨w.heap.size + 1, 0, none⟩) l1 _).other (p := ⟨w.heap.size + 1, 1, none⟩) l1 _).mono (by omega),
    ((((h'.other (p := ⟨w.heap.size, 0, none⟩) l0 _).other (p := ⟨w.heap.size, 1, none⟩) l0 _).other (p := ⟨w.heap.size + 1, 0, none⟩) l1 _).other (p := ⟨w.heap.size + 1, 1, none⟩) l1 _).mono (by omega),
    (((hb.setCell (p := ⟨w.heap.size, 0, none⟩) (Nat.le_refl _) _).setCell (p := ⟨w.heap.size, 1, none⟩) (Nat.le_refl _) _).setCell (p := ⟨w.heap.size + 1, 0, none⟩) (Nat.le_succ _) _).setCell (p := ⟨w.heap.size + 1, 1, none⟩) (Nat.le_succ _) _⟩
theorem drawGramSame_any (a : Option Addr) (n cap : Nat) (w : World) (H : BytesAt w a n cap) :
    Calls Try.prog 39 #[.slice a n cap] w (MadeGG 18 w) := by
  go_enter Try.func39, Try.ntmps39
  go_wp2_with fail
  have hY : BoxG ((w.alloc (.cells #[.string ⟨#[]⟩, .slice none 0 0] 25)).alloc (.cells #[.string ⟨#[]⟩, .slice none 0 0] 25)) (w.heap.size + 1) (.string ⟨#[]⟩) (.slice none 0 0) := blk_new _ _ (by simp)
  have hZ : BoxG ((w.alloc (.cells #[.string ⟨#[]⟩, .slice none 0 0] 25)).alloc (.cells #[.string ⟨#[]⟩, .slice none 0 0] 25)) w.heap.size (.string ⟨#[]⟩) (.slice none 0 0) := BoxG.old (blk_new _ _ rfl) _
  refine (l17Open_any a n cap _ ((H.alloc _).alloc _)).mono ?_
  rintro e w2 ⟨rfl, hrd2, hb2⟩
  have hZ2 := hZ.below hb2
  have hY2 := hY.below hb2
  have hB2 : Below w.heap.size w w2 := (((Below.refl _ _).alloc (Nat.le_refl _) _).alloc (by simp) _).trans (hb2.mono (by simp; omega))
  simp only [World.size_alloc] at hrd2
  clear hZ hY hb2
  go_wp2_with fail
  refine (l1Gram_any (w.heap.size + 1 + 1) 0 w2 hrd2 (by omega)).mono ?_
  rintro e w3 ⟨v3, st3, rs3, rfl, ⟨b3, off3, cap3, rfl, hc3, hR3, hl3, hs3, hS3, hb3⟩, hrd3, ho3⟩
  have hlt2 := hrd2.lt
  have hZ3 := (hZ2.only ho3 (by omega)).old (.cells #[.string st3, .slice (some ⟨b3, off3, none⟩) rs3.length cap3] 25)
  have hY3 := (hY2.only ho3 (by omega)).old (.cells #[.string st3, .slice (some ⟨b3, off3, none⟩) rs3.length cap3] 25)
  have hB3 : Below w.heap.size w w3 := hB2.trans (ho3.below _ (by omega) (by omega))
  have hG3 : BoxG (w3.alloc (.cells #[.string st3, .slice (some ⟨b3, off3, none⟩) rs3.length cap3] 25)) w3.heap.size (.string st3) (.slice (some ⟨b3, off3, none⟩) rs3.length cap3) := blk_new _ _ rfl
  have hlt3 := hrd3.lt
  clear hZ2 hY2 hrd2 hB2
  go_wp2_with fail
  refine (pick_any (w.heap.size + 1 + 1) (0 + 100) 3 _ (hrd3.alloc _) (by omega) (by omega) (by omega)).mono ?_
  rintro e w5 ⟨v5, rfl, ⟨hv50, hv51, _⟩, hrd5, ho5'⟩
  have hZ5 := hZ3.only ho5' (by omega)
  have hY5 := hY3.only ho5' (by omega)
  have hG5 := hG3.only ho5' (by omega)
  have ho5 : Only (w.heap.size + 1 + 1) w3 w5 := (Only.of_below ((Below.refl _ _).alloc (Nat.le_refl _) _)).trans ho5'
  have hR5 := hR3.only ho5 (by omega)
  have hB5 : Below w.heap.size w w5 := hB3.trans (ho5.below _ (by omega) (by omega))
  have hlt5 := hrd5.lt
  have hsz5 := ho5'.size
  simp only [World.size_alloc] at hsz5
  generalize hGG : w3.heap.size = G at *
  clear hZ3 hY3 hrd3 hB3 hR3 hG3 ho5' ho5 hv51
  obtain ⟨k0, k1, _, _⟩ := hG5.cells
  by_cases h0 : v5 = 0
  · have e0 : (v5 == 0) = true := by simp [h0]
    clear h0
    go_wp2_with fail
    have nZ : ¬ G = w.heap.size := by omega
    have nY : ¬ G = w.heap.size + 1 := by omega
    go_region_held3 (fun w' => w'.cell? ⟨G, 0, none⟩ = some (.string st3) ∧ w'.cell? ⟨G, 1, none⟩ = some (.slice (some ⟨b3, off3, none⟩) rs3.length cap3))
      (first
        | go_keep
        | with_reducible exact ⟨hG6.cells.1, hG6.cells.2.1⟩
        | with_reducible exact ⟨((hG6.other (p := ⟨w.heap.size, 0, none⟩) nZ _).other (p := ⟨w.heap.size, 1, none⟩) nZ _).cells.1, ((hG6.other (p := ⟨w.heap.size, 0, none⟩) nZ _).other (p := ⟨w.heap.size, 1, none⟩) nZ _).cells.2.1⟩
        | with_reducible exact ⟨((hG6.other (p := ⟨w.heap.size + 1, 0, none⟩) nY _).other (p := ⟨w.heap.size + 1, 1, none⟩) nY _).cells.1, ((hG6.other (p := ⟨w.heap.size + 1, 0, none⟩) nY _).other (p := ⟨w.heap.size + 1, 1, none⟩) nY _).cells.2.1⟩
        | with_reducible exact ⟨((((hG6.other (p := ⟨w.heap.size, 0, none⟩) nZ _).other (p := ⟨w.heap.size, 1, none⟩) nZ _).other (p := ⟨w.heap.size + 1, 0, none⟩) nY _).other (p := ⟨w.heap.size + 1, 1, none⟩) nY _).cells.1, ((((hG6.other (p := ⟨w.heap.size, 0, none⟩) nZ _).other (p := ⟨w.heap.size, 1, none⟩) nZ _).other (p := ⟨w.heap.size + 1, 0, none⟩) nY _).other (p := ⟨w.heap.size + 1, 1, none⟩) nY _).cells.2.1⟩
        | fail)
      ((go_at_call 60; refine (l1Gram_any (w.heap.size + 1 + 1) (0 + 100 + 1) _ ?_ (by omega)).mono ?_; (exact hrd5.drew); rintro e w6 ⟨v6, st6, rs6, rfl, ⟨b6, off6, cap6, rfl, hc6, hR6, hl6, hs6, hS6, hb6⟩, hrd6, ho6'⟩; have ho6 : Only (w.heap.size + 1 + 1) w5 w6 := ⟨ho6'.os, ho6'.tape, ho6'.output, ho6'.size, ho6'.block⟩; have hG6 := hG5.only ho6 (by omega); have hZ6 := hZ5.only ho6 (by omega); have hY6 := hY5.only ho6 (by omega); obtain ⟨z0, z1, zf0, zf1⟩ := hZ6.cells; obtain ⟨y0, y1, yf0, yf1⟩ := hY6.cells))
    have hlt6 := hrd6.lt
    have hB6 : Below w.heap.size w w6 := hB5.trans (ho6.below _ (by omega) (by omega))
    have hb6' : w5.heap.size ≤ b6 := hb6
    have V1 : GramVal w6 (w.heap.size + 2) 18 (.agg #[.string st3, .slice (some ⟨b3, off3, none⟩) rs3.length cap3]) st3 rs3 := ⟨b3, off3, cap3, rfl, hc3, hR5.only ho6 (by omega), by omega, hs3, hS3, by omega⟩
    have V2 : GramVal w6 (w.heap.size + 2) 18 (.agg #[.string st6, .slice (some ⟨b6, off6, none⟩) rs6.length cap6]) st6 rs6 := ⟨b6, off6, cap6, rfl, hc6, hR6, by omega, hs6, hS6, by omega⟩
    clear hG6 hG5 hZ6 hY6 hZ5 hY5 hrd5 hrd6 hR5 hR6
    go_wp2
    exact bodyPost_ret (v := .tuple #[.agg #[.string st3, .slice (some ⟨b3, off3, none⟩) rs3.length cap3], .agg #[.string st6, .slice (some ⟨b6, off6, none⟩) rs6.length cap6]]) (by simp [results, Try.results39, go_sem, z0, z1, y0, y1]) rfl
      (two_end V1 V2 hB6)
  · have e0 : (v5 == 0) = false := by simpa using h0
    clear h0
    go_wp2_with fail
    have qa1 : 0 + 100 + 1 ≤ 900000 := by omega
    have qb1 : 6 ≤ 100 := by omega
    have qc1 : 5 ≤ 6 := by omega
    have qa2 : 0 + 100 + 1 + 100 ≤ 900000 := by omega
    have qb2 : 6 + 4 ≤ 100 := by omega
    have qc2 : 5 ≤ 6 + 4 := by omega
    have qa3 : 0 + 100 + 1 + 100 + 100 ≤ 900000 := by omega
    have qb3 : 6 + 4 + 4 ≤ 100 := by omega
    have qc3 : 5 ≤ 6 + 4 + 4 := by omega
    have nZ : ¬ G = w.heap.size := by omega
    have nY : ¬ G = w.heap.size + 1 := by omega
    go_region_held3 (fun w' => w'.cell? ⟨G, 0, none⟩ = some (.string st3) ∧ w'.cell? ⟨G, 1, none⟩ = some (.slice (some ⟨b3, off3, none⟩) rs3.length cap3))
      (first
        | go_keep
        | with_reducible exact ⟨hG6.cells.1, hG6.cells.2.1⟩
        | with_reducible exact ⟨hG7.cells.1, hG7.cells.2.1⟩
        | with_reducible exact ⟨hG8.cells.1, hG8.cells.2.1⟩
        | with_reducible exact ⟨((hG8.other (p := ⟨w.heap.size, 0, none⟩) nZ _).other (p := ⟨w.heap.size, 1, none⟩) nZ _).cells.1, ((hG8.other (p := ⟨w.heap.size, 0, none⟩) nZ _).other (p := ⟨w.heap.size, 1, none⟩) nZ _).cells.2.1⟩
        | with_reducible exact ⟨((hG8.other (p := ⟨w.heap.size + 1, 0, none⟩) nY _).other (p := ⟨w.heap.size + 1, 1, none⟩) nY _).cells.1, ((hG8.other (p := ⟨w.heap.size + 1, 0, none⟩) nY _).other (p := ⟨w.heap.size + 1, 1, none⟩) nY _).cells.2.1⟩
        | with_reducible exact ⟨((((hG8.other (p := ⟨w.heap.size, 0, none⟩) nZ _).other (p := ⟨w.heap.size, 1, none⟩) nZ _).other (p := ⟨w.heap.size + 1, 0, none⟩) nY _).other (p := ⟨w.heap.size + 1, 1, none⟩) nY _).cells.1, ((((hG8.other (p := ⟨w.heap.size, 0, none⟩) nZ _).other (p := ⟨w.heap.size, 1, none⟩) nZ _).other (p := ⟨w.heap.size + 1, 0, none⟩) nY _).other (p := ⟨w.heap.size + 1, 1, none⟩) nY _).cells.2.1⟩
        | fail)
      (first
        | (go_at_call 62; refine (l1Bent_any (w.heap.size + 1 + 1) (0 + 100 + 1 + 100 + 100) (6 + 4 + 4) b7 off7 cap7 st7 rs7 _ ?_ qa3 ?_ hl7 qb3 qc3 hs7 hS7).mono ?_; (exact hrd7); (exact hR7); rintro e w8 ⟨v8, st8, rs8, rfl, ⟨b8, off8, cap8, rfl, hc8, hR8, hl8, hs8, hS8, hb8⟩, hrd8, ho8'⟩; have ho8 := ho7.trans ho8'; have hG8 := hG5.only ho8 (by omega); have hZ8 := hZ5.only ho8 (by omega); have hY8 := hY5.only ho8 (by omega); obtain ⟨z0, z1, zf0, zf1⟩ := hZ8.cells; obtain ⟨y0, y1, yf0, yf1⟩ := hY8.cells)
        | (go_at_call 62; refine (l1Bent_any (w.heap.size + 1 + 1) (0 + 100 + 1 + 100) (6 + 4) b6 off6 cap6 st6 rs6 _ ?_ qa2 ?_ hl6 qb2 qc2 hs6 hS6).mono ?_; (exact hrd6); (exact hR6); rintro e w7 ⟨v7, st7, rs7, rfl, ⟨b7, off7, cap7, rfl, hc7, hR7, hl7, hs7, hS7, hb7⟩, hrd7, ho7'⟩; have ho7 := ho6.trans ho7'; have hG7 := hG5.only ho7 (by omega))
        | (go_at_call 62; refine (l1Bent_any (w.heap.size + 1 + 1) (0 + 100 + 1) (6) b3 off3 cap3 st3 rs3 _ ?_ qa1 ?_ hl3 qb1 qc1 hs3 hS3).mono ?_; (exact hrd5.drew); (exact hR5.drew2); rintro e w6 ⟨v6, st6, rs6, rfl, ⟨b6, off6, cap6, rfl, hc6, hR6, hl6, hs6, hS6, hb6⟩, hrd6, ho6'⟩; have ho6 : Only (w.heap.size + 1 + 1) w5 w6 := ⟨ho6'.os, ho6'.tape, ho6'.output, ho6'.size, ho6'.block⟩; have hG6 := hG5.only ho6 (by omega))
        | fail)
    have hlt6 := ho6.size
    have hlt7 := ho7.size
    have hB8 : Below w.heap.size w w8 := hB5.trans (ho8.below _ (by omega) (by omega))
    have V1 : GramVal w8 (w.heap.size + 2) 18 (.agg #[.string st3, .slice (some ⟨b3, off3, none⟩) rs3.length cap3]) st3 rs3 := ⟨b3, off3, cap3, rfl, hc3, hR5.only ho8 (by omega), by omega, hs3, hS3, by omega⟩
    have V2 : GramVal w8 (w.heap.size + 2) 18 (.agg #[.string st8, .slice (some ⟨b8, off8, none⟩) rs8.length cap8]) st8 rs8 := ⟨b8, off8, cap8, rfl, hc8, hR8, by omega, hs8, hS8, by omega⟩
    clear hG6 hG7 hG8 hG5 hZ8 hY8 hZ5 hY5 hrd5 hrd6 hrd7 hrd8 hR5 hR6 hR7 hR8
    go_wp2
    exact bodyPost_ret (v := .tuple #[.agg #[.string st3, .slice (some ⟨b3, off3, none⟩) rs3.length cap3], .agg #[.string st8, .slice (some ⟨b8, off8, none⟩) rs8.length cap8]]) (by simp [results, Try.results39, go_sem, z0, z1, y0, y1]) rfl
      (two_end V1 V2 hB8)
end Go.Proofs.Ytmmkeaciaolapaa
