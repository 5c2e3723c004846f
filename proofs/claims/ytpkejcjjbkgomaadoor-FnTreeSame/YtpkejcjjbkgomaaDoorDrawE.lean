/- The contract of l1Gram: rules are drawn. -/
import Derived.Test.YtpkejcjjbkgomaaDoorDrawD
namespace Go.Proofs.YtpkejcjjbkgomaaDoor
open Go.ChangeShapes Go.WideShapes Go.ChangeAt Go.RowKit
/-- block b is a box of these two values -/
def BoxG (w : World) (b : Nat) (v0 v1 : Value) : Prop := w.heap[b]? = some (.cells #[v0, v1] 64)
theorem BoxG.lt {w : World} {b : Nat} {v0 v1 : Value} (h : BoxG w b v0 v1) : b < w.heap.size := (Array.getElem?_eq_some_iff.1 h).1
theorem BoxG.below {w w' : World} {b : Nat} {v0 v1 : Value} (h : BoxG w b v0 v1) (hb : Below w.heap.size w w') : BoxG w' b v0 v1 := (hb.block b h.lt).trans h
theorem BoxG.only {R : Nat} {w w' : World} {b : Nat} {v0 v1 : Value} (h : BoxG w b v0 v1) (hb : Only R w w') (hR : b ≠ R) : BoxG w' b v0 v1 := (hb.block b h.lt hR).trans h
theorem BoxG.cells {w : World} {b : Nat} {v0 v1 : Value} (h : BoxG w b v0 v1) : w.cell? ⟨b, 0, none⟩ = some v0 ∧ w.cell? ⟨b, 1, none⟩ = some v1 ∧ w.frozen? ⟨b, 0, none⟩ = false ∧ w.frozen? ⟨b, 1, none⟩ = false :=
  ⟨cell_of_block h 0, cell_of_block h 1, frozen_of_block h 0, frozen_of_block h 1⟩
theorem BoxG.set0 {w : World} {b : Nat} {v0 v1 : Value} (h : BoxG w b v0 v1) (u : Value) : BoxG (w.setCell ⟨b, 0, none⟩ u) b u v1 := by
  have h' : w.heap[b]? = some (.cells #[v0, v1] 64) := h
  simp [BoxG, World.setCell, Array.getElem?_modify, h']
theorem BoxG.set1 {w : World} {b : Nat} {v0 v1 : Value} (h : BoxG w b v0 v1) (u : Value) : BoxG (w.setCell ⟨b, 1, none⟩ u) b v0 u := by
  have h' : w.heap[b]? = some (.cells #[v0, v1] 64) := h
  simp [BoxG, World.setCell, Array.getElem?_modify, h']
theorem BoxG.other {w : World} {b : Nat} {v0 v1 : Value} (h : BoxG w b v0 v1) {p : Addr} (hp : b ≠ p.block) (u : Value) : BoxG (w.setCell p u) b v0 v1 := (Below.heap_setCell _ _ _ _ hp).trans h
theorem Rdk.other {w : World} {R k : Nat} (h : Rdk w R k) {p : Addr} (hR : R < p.block) (u : Value) : Rdk (w.setCell p u) R k := by
  obtain ⟨a, n, cap, q, h1, h2, h3, h4⟩ := h
  refine ⟨a, n, cap, q, (Below.heap_setCell _ _ _ _ (by omega)).trans h1, h2, h3, fun i hi => ?_⟩
  obtain ⟨b, off, x, e, hbl, hc, hx⟩ := h4 i hi
  exact ⟨b, off, x, e, hbl, by rw [World.cell?_of_block (w := w) (a := ⟨b, off + i, none⟩) (Below.heap_setCell _ _ _ _ (by show b ≠ p.block; omega))]; exact hc, hx⟩
theorem Only.store {R B : Nat} {w w' : World} (h : Only R w w') (hB : w.heap.size ≤ B) {p : Addr} (hp : B ≤ p.block) (u : Value) : Only R w (w'.setCell p u) :=
  ⟨h.os, h.tape, h.output, by have := h.size; simpa [World.setCell] using this, fun k hk hR => (Below.heap_setCell _ _ _ _ (by omega)).trans (h.block k hk hR)⟩

theorem RulesAt.other {w : World} {a : Option Addr} {rs : List RuleT} (h : RulesAt w a rs) {p : Addr} (hp : ∀ x : Addr, a = some x → x.block ≠ p.block) (u : Value) : RulesAt (w.setCell p u) a rs := by
  refine ⟨h.1, fun i hi => ?_⟩
  obtain ⟨h1, h2, b, off, rfl, hlt, c1, c2⟩ := h.2 i hi
  have hne : b ≠ p.block := hp _ rfl
  refine ⟨h1, h2, b, off, rfl, by simpa [World.setCell] using hlt, ?_, ?_⟩
  · rw [World.cell?_of_block (w := w) (a := ⟨b, _, none⟩) (Below.heap_setCell _ _ _ _ hne)]; exact c1
  · rw [World.cell?_of_block (w := w) (a := ⟨b, _, none⟩) (Below.heap_setCell _ _ _ _ hne)]; exact c2
theorem GramVal.other {w : World} {B m : Nat} {v : Value} {st : ByteArray} {rs : List RuleT} (h : GramVal w B m v st rs) {p : Addr} (hp : p.block < B) (u : Value) : GramVal (w.setCell p u) B m v st rs := by
  obtain ⟨b, off, cap, g0, g1, g2, g3, g4, g5, g6⟩ := h
  exact ⟨b, off, cap, g0, g1, g2.other (fun x hx => by cases hx; show b ≠ p.block; omega) u, g3, g4, g5, g6⟩
theorem GramVal.below {w w' : World} {B m : Nat} {v : Value} {st : ByteArray} {rs : List RuleT} (h : GramVal w B m v st rs) (hb : Below w.heap.size w w') : GramVal w' B m v st rs := by
  obtain ⟨b, off, cap, g0, g1, g2, g3, g4, g5, g6⟩ := h
  exact ⟨b, off, cap, g0, g1, g2.below hb (Nat.le_refl _), g3, g4, g5, g6⟩
theorem GramVal.mono {w : World} {B B' m : Nat} {v : Value} {st : ByteArray} {rs : List RuleT} (h : GramVal w B m v st rs) (hB : B' ≤ B) : GramVal w B' m v st rs := by
  obtain ⟨b, off, cap, g0, g1, g2, g3, g4, g5, g6⟩ := h
  exact ⟨b, off, cap, g0, g1, g2, g3, g4, g5, Nat.le_trans hB g6⟩

theorem flatR_snoc (rs : List RuleT) (l r : ByteArray) : flatR (rs ++ [(l, r)]) = flatR rs ++ [.string l, .string r] := by simp [flatR]
/-- a block that an append to a slice of rules leaves alone -/
theorem grown_keep {w w' : World} {B : Nat} {v : Value} {rs : List RuleT} (h : OwnR w B v rs) (hg : w.grownBy w' v.ownBlock) {b : Nat} {o : Obj} (hb : w.heap[b]? = some o) (ho : ∀ cur, o ≠ .cells cur 159 (0, 0)) : w'.heap[b]? = some o := by
  obtain ⟨g, cap, cur, rfl, _, _, hh, _, _⟩ := h.block
  have hlt : b < w.heap.size := (Array.getElem?_eq_some_iff.1 hb).1
  rw [hg.block b hlt (fun e => by
    simp only [Value.ownBlock, Option.some.injEq] at e
    subst e
    rw [hh] at hb
    simp only [Option.some.injEq] at hb
    exact ho _ hb.symm)]
  exact hb
theorem own_grown {w' : World} {B : Nat} {v' : Value} {rs : List RuleT} {l r : ByteArray} (ho : w'.ownsRow B 159 2 v' (rs.length + 1) (flatR rs ++ [.string l, .string r])) (hn : ¬ v' = .slice none 0 0) : OwnR w' B v' (rs ++ [(l, r)]) := by
  have hlen : (rs ++ [(l, r)]).length = rs.length + 1 := by simp
  refine ⟨?_, by rw [flatR_snoc, hlen]; exact ho⟩
  rcases ho.2 with ⟨h0, _⟩ | ⟨g, cap, cur, hv, hB, _, hl, _⟩
  · exact absurd h0 hn
  · exact ⟨g, cap, by rw [hlen]; exact hv, hB, by rw [hlen]; exact hl⟩
theorem only_grown {R : Nat} {w w1 w' : World} {B : Nat} {v : Value} {rs : List RuleT} (h : Only R w w1) (hB : w.heap.size ≤ B) (ho : OwnR w1 B v rs) (hg : w1.grownBy w' v.ownBlock) : Only R w w' := by
  obtain ⟨g, cap, cur, rfl, hgB, _, _, _, _⟩ := ho.block
  exact ⟨hg.os.trans h.os, hg.tape.trans h.tape, hg.output.trans h.output, Nat.le_trans h.size hg.size, fun j hj hR => (hg.block j (Nat.lt_of_lt_of_le hj h.size) (fun e => by simp only [Value.ownBlock, Option.some.injEq] at e; omega)).trans (h.block j hj hR)⟩
theorem rdk_grown {R k : Nat} {w1 w' : World} {B : Nat} {v : Value} {rs : List RuleT} (h : Rdk w1 R k) (hB : R < B) (ho : OwnR w1 B v rs) (hg : w1.grownBy w' v.ownBlock) : Rdk w' R k := by
  have hlt := h.lt
  obtain ⟨g, cap, cur, rfl, hgB, _, _, _, _⟩ := ho.block
  have hk : ∀ j, j ≤ R → w'.heap[j]? = w1.heap[j]? := fun j hj => hg.block j (by omega) (fun e => by simp only [Value.ownBlock, Option.some.injEq] at e; omega)
  obtain ⟨a, n, cap', q, h1, h2, h3, h4⟩ := h
  refine ⟨a, n, cap', q, (hk R (Nat.le_refl _)).trans h1, h2, h3, fun i hi => ?_⟩
  obtain ⟨b, off, x, e, hbl, hc, hx⟩ := h4 i hi
  exact ⟨b, off, x, e, hbl, by rw [World.cell?_of_block (w := w1) (a := ⟨b, off + i, none⟩) (hk b (Nat.le_of_lt hbl))]; exact hc, hx⟩
/-- what holds at the head of each round -/
def GramRel (R k j A G : Nat) (w wr : World) : Prop := ∃ vr rs, BoxG wr G (.string ⟨#[65]⟩) vr ∧ OwnR wr (A + 1) vr rs ∧ SmallR rs ∧ rs.length + j ≤ 5 ∧ Rdk wr R (k + 2 + (5 - j) * 8) ∧ BoxG wr A (.string ⟨#[]⟩) (.slice none 0 0) ∧ Only R w wr

set_option maxRecDepth 100000 in
set_option maxHeartbeats 3200000 in
theorem l1Gram_any (R k : Nat) (w : World) (H : Rdk w R k) (hk : k ≤ 900000) :
    Calls Tryd.prog 95 #[.pointer (some ⟨R, 0, none⟩)] w (DrawnG R (k + 100) 6 w) := by
  obtain ⟨i0, hi0, hz0, hz1, hz2⟩ := info_parts infoRule
  have hRl := H.lt
  go_enter Tryd.func95, Tryd.ntmps95
  go_wp2_with fail
  have hA1 : BoxG (w.alloc (.cells #[.string ⟨#[]⟩, .slice none 0 0] 64)) w.heap.size (.string ⟨#[]⟩) (.slice none 0 0) := blk_new _ _ rfl
  refine (pick_any R k 5 _ (H.alloc _) (by omega) (by omega) (by omega)).mono ?_
  rintro e w2 ⟨v, rfl, ⟨hv0, hv1, _⟩, hrd2, ho2'⟩
  have ho2 : Only R w w2 := ((Only.refl R w).alloc _).trans ho2'
  have hA2 := hA1.only ho2' (by omega)
  clear hA1 ho2' hv1
  by_cases hpos : 0 < v
  · go_wp2_with fail
    refine (num_any R (k + 1) w2.heap.size 10 _ [0, 1, 2, 3, 4, 5, 6, 1, 6, 7] _ (hrd2.alloc _) (by omega) rfl (by omega) (by omega) (by have := hrd2.lt; omega) (lit_ints w2 [0, 1, 2, 3, 4, 5, 6, 1, 6, 7] _)).mono ?_
    rintro e w3 ⟨n, rfl, _, hrd3, ho3'⟩
    have hA3 := (hA2.below ((Below.refl _ _).alloc (Nat.le_refl _) _)).only ho3' (by omega)
    have ho3 : Only R w w3 := (ho2.alloc _).trans ho3'
    clear hA2 ho3' ho2 hrd2
    go_wp2_with fail
    refine (l1Base_any n _).mono ?_
    rintro e w4 ⟨u, st, rs, rfl, hG, hb4⟩
    have hG' := hG
    obtain ⟨ba, oa, cap, rfl, _⟩ := hG'
    have hA4 := hA3.below hb4
    have hrd4 := hrd3.below hb4
    have ho4 : Only R w w4 := ho3.trans (Only.of_below hb4)
    obtain ⟨q0, q1, q2, q3⟩ := hA4.cells
    have hs3 : w.heap.size < w3.heap.size := hA3.lt
    go_wp2
    exact bodyPost_ret (v := .agg #[.string st, .slice (some ⟨ba, oa, none⟩) rs.length cap]) (by simp [results, Tryd.results95, go_sem, q0, q1]) rfl
      ⟨_, st, rs, rfl, ((hG.other (p := ⟨w.heap.size, 0, none⟩) hs3 _).other (p := ⟨w.heap.size, 1, none⟩) hs3 _).mono (Nat.le_of_lt hs3), ((hrd4.other (p := ⟨w.heap.size, 0, none⟩) hRl _).other (p := ⟨w.heap.size, 1, none⟩) hRl _).mono (by omega),
        (ho4.store (Nat.le_refl _) (p := ⟨w.heap.size, 0, none⟩) (Nat.le_refl _) _).store (Nat.le_refl _) (p := ⟨w.heap.size, 1, none⟩) (Nat.le_refl _) _⟩
  · have hnpos : decide (0 < v) = false := by simpa using hpos
    have hAl := hA2.lt
    go_wp2_with fail
    have hrd3 := ((hrd2.alloc (.cells #[] 159)).alloc (.cells #[.string ⟨#[65]⟩, .slice (some ⟨w2.heap.size, 0, none⟩) 0 0] 64))
    have hA3 := (hA2.below ((Below.refl _ _).alloc (Nat.le_refl _) (.cells #[] 159))).below ((Below.refl _ _).alloc (Nat.le_refl _) (.cells #[.string ⟨#[65]⟩, .slice (some ⟨w2.heap.size, 0, none⟩) 0 0] 64))
    have ho3 := (ho2.alloc (.cells #[] 159)).alloc (.cells #[.string ⟨#[65]⟩, .slice (some ⟨w2.heap.size, 0, none⟩) 0 0] 64)
    have hG3 : BoxG ((w2.alloc (.cells #[] 159)).alloc (.cells #[.string ⟨#[65]⟩, .slice (some ⟨w2.heap.size, 0, none⟩) 0 0] 64)) (w2.heap.size + 1) (.string ⟨#[65]⟩) (.slice (some ⟨w2.heap.size, 0, none⟩) 0 0) := blk_new _ _ (by simp)
    have hO3 : OwnR ((w2.alloc (.cells #[] 159)).alloc (.cells #[.string ⟨#[65]⟩, .slice (some ⟨w2.heap.size, 0, none⟩) 0 0] 64)) (w.heap.size + 1) (.slice (some ⟨w2.heap.size, 0, none⟩) 0 0) [] :=
      ⟨⟨w2.heap.size, 0, rfl, hAl, Nat.le_refl _⟩, rfl, .inr ⟨w2.heap.size, 0, #[], rfl, hAl, by rw [blk_old _ _ (by simp), blk_new _ _ rfl], Nat.le_refl _, Nat.zero_le _, rfl, rfl⟩⟩
    generalize hW3 : (w2.alloc (.cells #[] 159)).alloc (.cells #[.string ⟨#[65]⟩, .slice (some ⟨w2.heap.size, 0, none⟩) 0 0] 64) = w3 at *
    have hs3 : w2.heap.size + 1 + 1 = w3.heap.size := by rw [← hW3]; simp
    rw [hs3]
    have HW := Lib.hid hW3
    clear hW3
    refine (num_any R (k + 1) w3.heap.size 4 _ [3, 4, 2, 5] _ (hrd3.alloc _) (by omega) rfl (by omega) (by omega) (by have := hrd3.lt; omega) (lit_ints w3 [3, 4, 2, 5] _)).mono ?_
    rintro e w4 ⟨n, rfl, hnm, hrd4, ho4'⟩
    have hn5 : 0 ≤ n ∧ n ≤ 5 := by
      simp only [List.mem_cons, List.not_mem_nil, or_false] at hnm
      omega
    obtain ⟨j0, rfl⟩ : ∃ j0 : Nat, n = (j0 : Int) := ⟨n.toNat, by omega⟩
    have hstart : GramRel R k j0 w.heap.size (w2.heap.size + 1) w w4 := ⟨_, [], (hG3.below ((Below.refl _ _).alloc (Nat.le_refl _) _)).only ho4' (by omega), (hO3.below ((Below.refl _ _).alloc (Nat.le_refl _) _)).only ho4' (by omega), fun r hr => (by cases hr), by simp; omega, hrd4.mono (by omega), (hA3.below ((Below.refl _ _).alloc (Nat.le_refl _) _)).only ho4' (by omega), (ho3.alloc _).trans ho4'⟩
    clear hnm hrd4 ho4' hG3 hO3 hA3 hrd3 ho3 HW hA2 hrd2 ho2
    go_wp2
    go_loopw [4] (fun i wr => ∃ j : Nat, j ≤ 5 ∧ i = .int .i64 j ∧ GramRel R k j w.heap.size (w2.heap.size + 1) w wr) (fun i _ => (intOf i).toNat)
    case atStart => exact ⟨j0, by omega, rfl, hstart⟩
    case round =>
      obtain ⟨j, hj, rfl, vr, rs, hG, hO, hS, hl, hrd, hA, ho⟩ := hrel
      have hGl := hG.lt
      by_cases hlt : 0 < j
      · have hj0 : (0 : Int) < (j : Int) := by omega
        go_wp2_with fail
        refine (of_any R (k + 2 + (5 - j) * 8) wr.heap.size 4 _ [⟨#[65]⟩, ⟨#[65]⟩, ⟨#[66]⟩, ⟨#[67]⟩] _ (hrd.alloc _) (by omega) rfl (by omega) (by omega) (by have := hrd.lt; omega) (lit_cells wr [⟨#[65]⟩, ⟨#[65]⟩, ⟨#[66]⟩, ⟨#[67]⟩] _)).mono ?_
        rintro e wa ⟨s1, rfl, hs1, hrda, hoa⟩
        have hs1' : s1.size ≤ 5 := by
          simp only [List.mem_cons, List.not_mem_nil, or_false] at hs1
          rcases hs1 with rfl | rfl | rfl | rfl <;> decide
        have hGa := (hG.below ((Below.refl _ _).alloc (Nat.le_refl _) _)).only hoa (by omega)
        have hAa := (hA.below ((Below.refl _ _).alloc (Nat.le_refl _) _)).only hoa (by omega)
        have hOa := (hO.below ((Below.refl _ _).alloc (Nat.le_refl _) _)).only hoa (by omega)
        have ho_a := (ho.alloc _).trans hoa
        clear hs1 hG hA hO ho hrd hoa
        go_wp2_with fail
        refine (num_any R (k + 2 + (5 - j) * 8 + 1) wa.heap.size 5 _ [1, 2, 2, 0, 3] _ (hrda.alloc _) (by omega) rfl (by omega) (by omega) (by have := hrda.lt; omega) (lit_ints wa [1, 2, 2, 0, 3] _)).mono ?_
        rintro e wb ⟨n2, rfl, hn2, hrdb, hob⟩
        have hn2' : 0 ≤ n2 ∧ n2 ≤ 3 := by
          simp only [List.mem_cons, List.not_mem_nil, or_false] at hn2
          omega
        obtain ⟨m2, rfl⟩ : ∃ m2 : Nat, n2 = (m2 : Int) := ⟨n2.toNat, by omega⟩
        have hGb := (hGa.below ((Below.refl _ _).alloc (Nat.le_refl _) _)).only hob (by omega)
        have hAb := (hAa.below ((Below.refl _ _).alloc (Nat.le_refl _) _)).only hob (by omega)
        have hOb := (hOa.below ((Below.refl _ _).alloc (Nat.le_refl _) _)).only hob (by omega)
        have ho_b := (ho_a.alloc _).trans hob
        clear hn2 hGa hAa hOa ho_a hrda hob
        go_wp2_with fail
        refine (l1Signed_any R (k + 2 + (5 - j) * 8 + 1 + 1) m2 _ hrdb (by omega) (by omega)).mono ?_
        rintro e wc ⟨s2, rfl, hs2, hrdc, hoc⟩
        have hs2' : s2.size ≤ 5 := by have : s2.size ≤ m2 := hs2; omega
        have hGc := hGb.only hoc (by omega)
        have hAc := hAb.only hoc (by omega)
        have hOc := hOb.only hoc (by omega)
        have ho_c := ho_b.trans hoc
        clear hs2 hGb hAb hOb ho_b hrdb hoc
        have bx := (Below.refl _ _).alloc (Nat.le_refl wc.heap.size) (.cells #[.string s1, .string s2] 159)
        have hGd := hGc.below bx
        have hAd := hAc.below bx
        have hOd := hOc.below bx
        have hrdd := hrdc.below bx
        have ho_d := ho_c.trans (Only.of_below bx)
        obtain ⟨p0, p1, _, pf⟩ := hGd.cells
        obtain ⟨g, cap, rfl, hgB, hlc, hgl, hR⟩ := hOd.at hS (by omega)
        clear hGc hAc hOc hrdc ho_c bx
        go_wp2_with fail
        refine (l1Place_any _ _ rs s1 s2 _ hR).mono ?_
        rintro e we ⟨rfl, hbe⟩
        have hGe := hGd.below hbe
        have hAe := hAd.below hbe
        have hOe := hOd.below hbe
        have hrde := hrdd.below hbe
        have ho_e := ho_d.trans (Only.of_below hbe)
        have x0 : we.cell? ⟨wc.heap.size, 0, none⟩ = some (.string s1) := by rw [hbe.cell (p := ⟨wc.heap.size, 0, none⟩) (by simp)]; simp
        have x1 : we.cell? ⟨wc.heap.size, 1, none⟩ = some (.string s2) := by rw [hbe.cell (p := ⟨wc.heap.size, 1, none⟩) (by simp)]; simp
        clear hGd hAd hOd hrdd ho_d p0 p1 pf hbe hR
        obtain ⟨p0, p1, pf0, pf⟩ := hGe.cells
        by_cases hidx : idxR rs (s1, s2) < 0
        · go_wp2_with (at_builtin; refine wpList_append_own _ rfl _ _ 62 rfl (w.heap.size + 1) 159 i0 (.agg #[.string ByteArray.empty, .string ByteArray.empty]) 2 32 Tryd.underlying62 hi0 hz0 hz1 hz2 rfl (by decide) _ _ _ rfl (hOe.2.alloc _) ⟨we.heap.size, 0, none⟩ 1 1 [.string s1, .string s2] rfl rfl ?c1 ?c2 ?c3 ?c4 ?c5 ?_)
          case c1 =>
            intro q u hq
            match q, hq with
            | 0, hq => simp at hq; subst hq; simp [Addr.add]
            | 1, hq => simp at hq; subst hq; simp [Addr.add]
          case c2 => intro u hu; simp at hu; rcases hu with rfl | rfl <;> rfl
          case c3 => unfold maxLen; omega
          case c4 => omega
          case c5 => have := ho_e.size; have := hAe.lt; simp; omega
          intro v' wf hown' hgrow hnil
          have bl := (Below.refl _ _).alloc (Nat.le_refl we.heap.size) (.cells #[.string s1, .string s2] 159)
          have hOl := hOe.below bl
          have hGl' := hGe.below bl
          have hAl' := hAe.below bl
          have hGf : BoxG wf (w2.heap.size + 1) _ _ := grown_keep hOl hgrow hGl' (fun cur h => by simp at h)
          have hAf : BoxG wf w.heap.size _ _ := grown_keep hOl hgrow hAl' (fun cur h => by simp at h)
          have hOf := own_grown hown' hnil
          have hrdf := rdk_grown (hrde.below bl) (by omega) hOl hgrow
          have ho_f := only_grown (ho_e.trans (Only.of_below bl)) (Nat.le_succ _) hOl hgrow
          obtain ⟨y0, y1, yf0, yf1⟩ := hGf.cells
          clear bl hOl hGl' hAl' hown' hgrow hnil hGe hAe hOe hrde ho_e p0 p1 pf pf0 x0 x1
          obtain ⟨g', cap', hv'⟩ : ∃ g' cap', v' = .slice (some ⟨g', 0, none⟩) (rs.length + 1) cap' := by
            obtain ⟨⟨g', cap', hv', _, _⟩, _⟩ := hOf
            exact ⟨g', cap', by simpa using hv'⟩
          subst hv'
          go_wp2
          have hrel2 : GramRel R k (j - 1) w.heap.size (w2.heap.size + 1) w (wf.setCell ⟨w2.heap.size + 1, 1, none⟩ (.slice (some ⟨g', 0, none⟩) (rs.length + 1) cap')) := by
            refine ⟨_, rs ++ [(s1, s2)], hGf.set1 _, hOf.store (p := ⟨w2.heap.size + 1, 1, none⟩) hGf (by decide) _, ?_, by simp; omega, (hrdf.other (p := ⟨w2.heap.size + 1, 1, none⟩) (by show R < w2.heap.size + 1; omega) _).mono (by omega), hAf.other (by show w.heap.size ≠ w2.heap.size + 1; omega) _, ho_f.store (Nat.le_refl _) (p := ⟨w2.heap.size + 1, 1, none⟩) (by show w.heap.size ≤ w2.heap.size + 1; omega) _⟩
            intro r hr
            rcases List.mem_append.1 hr with hr | hr
            · exact hS r hr
            · obtain rfl : r = (s1, s2) := by simpa using hr
              exact ⟨hs1', hs2'⟩
          go_roundw
          case rel => exact ⟨j - 1, by omega, by rw [show ((j - 1 : Nat) : Int) = (j : Int) - 1 from by omega], hrel2⟩
          case measure => simp [intOf]; omega
        · have hrel2 : GramRel R k (j - 1) w.heap.size (w2.heap.size + 1) w we := ⟨_, rs, hGe, hOe, hS, by omega, hrde.mono (by omega), hAe, ho_e⟩
          go_wp2
          go_roundw
          case rel => exact ⟨j - 1, by omega, by rw [show ((j - 1 : Nat) : Int) = (j : Int) - 1 from by omega], hrel2⟩
          case measure => simp [intOf]; omega
      · obtain ⟨p0, p1, _, _⟩ := hG.cells
        obtain ⟨q0, q1, qf0, qf1⟩ := hA.cells
        obtain ⟨g, cap, rfl, hgB, hlc, hgl, hR⟩ := hO.at hS (by omega)
        go_wp2
        exact bodyPost_ret (v := .agg #[.string ⟨#[65]⟩, .slice (some ⟨g, 0, none⟩) rs.length cap]) (by simp [results, Tryd.results95, go_sem, q0, q1]) rfl
          ⟨_, ⟨#[65]⟩, rs, rfl, GramVal.mono (B := w.heap.size + 1) ⟨g, 0, cap, rfl, hlc, (hR.other (p := ⟨w.heap.size, 0, none⟩) (fun x hx => by cases hx; show g ≠ w.heap.size; omega) _).other (p := ⟨w.heap.size, 1, none⟩) (fun x hx => by cases hx; show g ≠ w.heap.size; omega) _, by omega, by decide, hS, hgB⟩ (Nat.le_succ _),
            ((hrd.other (p := ⟨w.heap.size, 0, none⟩) hRl _).other (p := ⟨w.heap.size, 1, none⟩) hRl _).mono (by omega), (ho.store (Nat.le_refl _) (p := ⟨w.heap.size, 0, none⟩) (Nat.le_refl _) _).store (Nat.le_refl _) (p := ⟨w.heap.size, 1, none⟩) (Nat.le_refl _) _⟩
end Go.Proofs.YtpkejcjjbkgomaaDoor
