/- A tree's row of kids as a row that can be copied; a rule laid into the first kid of a row of the call's own. -/
import Derived.Test.YtpkejcjjbkgomaaDoorTrW
import Derived.Test.YtpkejcjjbkgomaaDoorDrawX
import Derived.Deep.DeepCutAuto
import Derived.Deep.RegionHeld3
import Derived.Laws.OwnMore
import Derived.Maps.AppendAt
namespace Go.Proofs.YtpkejcjjbkgomaaDoor
open Go.ChangeShapes Go.WideShapes Go.ChangeAt Go.RowKit Go.Deep
set_option maxRecDepth 100000
theorem TrQ.kids {w : World} {A : Nat → Prop} {v : Value} {T : Tr} (h : TrQ w A v T) :
    ∃ (s : ByteArray) (r : Int) (ks : List Tr) (a : Option Addr) (cap : Nat) (us : List Kid) (hl : us.length = ks.length), v = .agg #[.string s, .int .i64 r, .slice a ks.length cap] ∧ T = .node s r ks ∧ s.size ≤ maxLen ∧ (Lit.int .i64 r).wf = true ∧ ks.length ≤ maxLen ∧ ks.length ≤ cap ∧
      (∀ j (h : j < us.length), TrQ w A (kidVal us[j]) (ks[j]'(hl ▸ h))) ∧ (∀ u ∈ us, ∃ a m c, u.2.2 = .slice a m c) ∧
      (us = [] ∨ ∃ g off, a = some ⟨g, off, none⟩ ∧ A g ∧ ∀ j y, (flatK us)[j]? = some y → w.cell? ⟨g, off + j, none⟩ = some y) := by
  obtain ⟨s, r, ps, a, cap, M, e1, e2, h1, h2, h3, h4, h5, h6, h7⟩ := h
  have each : ∀ p : PT, ∃ x : Value, PtIn w M p → w.cell? ⟨p.b, p.o, none⟩ = some (.string p.s) ∧ w.cell? ⟨p.b, p.o + 1, none⟩ = some (.int .i64 p.r) ∧ w.cell? ⟨p.b, p.o + 2, none⟩ = some x ∧ (∃ a m c, x = .slice a m c) ∧ TrQ w A (.agg #[.string p.s, .int .i64 p.r, x]) p.tr := by
    intro p
    by_cases hp : PtIn w M p
    · obtain ⟨a, cap, hb, c0, c1, c2, k1, k2, k3, k4, k5, k6⟩ := hp.open
      exact ⟨.slice a p.ks.length cap, fun _ => ⟨c0, c1, c2, ⟨_, _, _, rfl⟩, p.s, p.r, p.ks, a, cap, M, rfl, p.tr_eq, k1, k2, k3, k4, k5, k6, h7⟩⟩
    · exact ⟨.bool false, fun h => absurd h hp⟩
  obtain ⟨X, hX⟩ := Classical.axiomOfChoice each
  have hlen : (ps.map fun p => ((p.s, p.r, X p) : Kid)).length = ps.length := by simp
  refine ⟨s, r, ps.map PT.tr, a, cap, ps.map fun p => ((p.s, p.r, X p) : Kid), by simp, by rw [List.length_map]; exact e1, e2, h1, h2, by rw [List.length_map]; exact h3, by rw [List.length_map]; exact h4, fun j hj => ?_, fun u hu => ?_, ?_⟩
  · have hj' : j < ps.length := by rw [hlen] at hj; exact hj
    have := (hX ps[j] (h6 j hj')).2.2.2.2
    simpa [kidVal] using this
  · obtain ⟨p, hp, rfl⟩ := List.mem_map.1 hu
    obtain ⟨i, hi, rfl⟩ := List.getElem_of_mem hp
    exact (hX ps[i] (h6 i hi)).2.2.2.1
  · by_cases h0 : ps = []
    · left; rw [h0]; rfl
    · right
      have hpos : 0 < ps.length := List.length_pos_iff.2 h0
      obtain ⟨g, off, ea, eb0, _⟩ := h5 0 hpos
      have hAg : A g := by
        obtain ⟨_, _, hb, _⟩ := (h6 0 hpos).open
        rw [eb0] at hb
        exact (h7 _ hb).1
      refine ⟨g, off, ea, hAg, fun j y hy => ?_⟩
      have hj : j < ps.length * 3 := by
        have := (List.getElem?_eq_some_iff.1 hy).1
        rw [flatK_len, hlen] at this
        exact this
      have hi : j / 3 < ps.length := by omega
      obtain ⟨g', off', ea', eb, eo⟩ := h5 (j / 3) hi
      rw [ea] at ea'
      simp only [Option.some.injEq, Addr.mk.injEq] at ea'
      obtain ⟨rfl, rfl, _⟩ := ea'
      obtain ⟨c0, c1, c2, _, _⟩ := hX ps[j / 3] (h6 _ hi)
      rw [eb, eo] at c0 c1 c2
      obtain ⟨f0, f1, f2⟩ := flatK_at (ps.map fun p => ((p.s, p.r, X p) : Kid)) (j / 3) (by rw [hlen]; exact hi)
      simp only [List.getElem_map] at f0 f1 f2
      have hq : j % 3 = 0 ∨ j % 3 = 1 ∨ j % 3 = 2 := by omega
      rcases hq with q | q | q
      · have e : j = j / 3 * 3 := by omega
        rw [← e] at f0
        rw [hy] at f0
        obtain rfl := Option.some.inj f0
        rw [show off + j = off + j / 3 * 3 by omega]
        exact c0
      · have e : j = j / 3 * 3 + 1 := by omega
        rw [← e] at f1
        rw [hy] at f1
        obtain rfl := Option.some.inj f1
        rw [show off + j = off + j / 3 * 3 + 1 by omega]
        exact c1
      · have e : j = j / 3 * 3 + 2 := by omega
        rw [← e] at f2
        rw [hy] at f2
        obtain rfl := Option.some.inj f2
        rw [show off + j = off + j / 3 * 3 + 2 by omega]
        exact c2
theorem flatK_one (us : List Kid) (h : ∀ u ∈ us, ∃ a m c, u.2.2 = .slice a m c) : ∀ y ∈ flatK us, y.oneCell' = true := by
  intro y hy
  unfold flatK at hy
  obtain ⟨u, hu, hm⟩ := List.mem_flatMap.1 hy
  obtain ⟨a, m, c, e⟩ := h u hu
  simp only [List.mem_cons, List.not_mem_nil, or_false] at hm
  rcases hm with rfl | rfl | rfl
  · rfl
  · rfl
  · rw [e]; rfl
/-- a rule laid into the first kid -/
theorem row_rule {w : World} {B g n cap : Nat} {s0 : ByteArray} {r0 : Int} {x0 : Value} {us : List Kid} (z : Int) (h : w.ownsRow B 29 3 (.slice (some ⟨g, 0, none⟩) n cap) n (flatK ((s0, r0, x0) :: us))) :
    (w.setCell ⟨g, 1, none⟩ (.int .i64 z)).ownsRow B 29 3 (.slice (some ⟨g, 0, none⟩) n cap) n (flatK ((s0, z, x0) :: us)) := by
  refine ⟨by have := h.1; rw [flatK_len] at this ⊢; simpa using this, ?_⟩
  rcases h.2 with ⟨e, _⟩ | ⟨g', cap', cur, e, hB, hh, hn, hm, hs, ht⟩
  · simp at e
  · simp only [Value.slice.injEq, Option.some.injEq, Addr.mk.injEq, true_and, and_true] at e
    obtain ⟨rfl, rfl⟩ := e
    refine .inr ⟨g, cap, cur.setIfInBounds 1 (.int .i64 z), rfl, hB, by simp [World.setCell, Array.getElem?_modify, hh], hn, hm, by simpa using hs, ?_⟩
    have hf : flatK ((s0, z, x0) :: us) = (flatK ((s0, r0, x0) :: us)).set 1 (.int .i64 z) := by simp [flatK]
    rw [hf, ← ht, Array.toList_setIfInBounds, List.take_set]
theorem row_cell {w : World} {B g n cap : Nat} {s0 : ByteArray} {r0 : Int} {x0 : Value} {us : List Kid} (h : w.ownsRow B 29 3 (.slice (some ⟨g, 0, none⟩) n cap) n (flatK ((s0, r0, x0) :: us))) :
    w.cell? ⟨g, 1, none⟩ = some (.int .i64 r0) ∧ w.frozen? ⟨g, 1, none⟩ = false := by
  rcases h.2 with ⟨e, _⟩ | ⟨g', cap', cur, e, hB, hh, hn, hm, hs, ht⟩
  · simp at e
  · simp only [Value.slice.injEq, Option.some.injEq, Addr.mk.injEq, true_and, and_true] at e
    obtain ⟨rfl, rfl⟩ := e
    refine ⟨?_, frozen_of_block hh 1⟩
    rw [cell_of_block hh]
    have h1 : (flatK ((s0, r0, x0) :: us))[1]? = some (.int .i64 r0) := by simp [flatK]
    have hn' := h.1
    rw [flatK_len] at hn'
    rw [← ht, List.getElem?_take, if_pos (by simp at hn'; omega)] at h1
    simpa using h1
/-- the first kid's rule was changed: it is a tree still -/
theorem kids_moved {w w' : World} {A : Nat → Prop} {m B : Nat} {s s0 : ByteArray} {r r0 z : Int} {x0 v : Value} {ut : List Kid} {ks : List Tr} (hl : ((s0, r0, x0) :: ut).length = ks.length) (hs : s.size ≤ maxLen) (hr : (Lit.int .i64 r).wf = true) (hz : (Lit.int .i64 z).wf = true)
    (hk : ∀ j (h : j < ((s0, r0, x0) :: ut).length), TrQ w A (kidVal ((s0, r0, x0) :: ut)[j]) (ks[j]'(hl ▸ h))) (same : ∀ k, A k → k < w.heap.size → w'.heap[k]? = w.heap[k]?) (hA : ∀ k, A k → m ≤ k) (hB : m ≤ B)
    (row : w'.ownsRow B 29 3 v ks.length (flatK ((s0, z, x0) :: ut))) : ∃ ks', TrP w' m (.agg #[.string s, .int .i64 r, v]) (.node s r ks') ∧ (Tr.node s r ks').sz = (Tr.node s r ks).sz := by
  match ks, hl, hk, row with
  | [], hl, _, _ => simp at hl
  | k0 :: kt, hl, hk, row =>
    have h0 := hk 0 (by simp)
    simp only [List.getElem_cons_zero] at h0
    obtain ⟨s', r', ps, a, cap, M, e1, e2, h1, h2, h3, h4, h5, h6, h7⟩ := h0
    unfold kidVal at e1
    simp only [Value.agg.injEq, Array.mk.injEq, List.cons.injEq, Value.string.injEq, Value.int.injEq, true_and, and_true] at e1
    obtain ⟨rfl, rfl, e3⟩ := e1
    have hq : TrQ w A (kidVal (s0, z, x0)) (.node s0 z (ps.map PT.tr)) := ⟨s0, z, ps, a, cap, M, by unfold kidVal; rw [e3], rfl, h1, hz, h3, h4, h5, h6, h7⟩
    refine ⟨.node s0 z (ps.map PT.tr) :: kt, ?_, ?_⟩
    · have hlen : ((s0, z, x0) :: ut).length = (k0 :: kt).length := by simpa using hl
      refine TrQ.make (B := B) (us := (s0, z, x0) :: ut) hs hr ⟨by rw [hlen]; exact row, by simpa using hl, fun j hj => ?_⟩ (fun k hk => Nat.le_trans hB hk)
      match j, hj with
      | 0, _ => exact (hq.mono (fun k hk _ => hk)).stay (fun k hk hlt => same k hk hlt) |>.mono (fun k hk _ => hA k hk)
      | j + 1, hj =>
        have h' := hk (j + 1) (by simpa using hj)
        simp only [List.getElem_cons_succ] at h' ⊢
        exact (h'.stay (fun k hk hlt => same k hk hlt)).mono (fun k hk _ => hA k hk)
    · subst e2
      simp [Tr.sz]
theorem len_szs : ∀ ks : List Tr, ks.length ≤ (ks.map Tr.sz).sum
  | [] => by simp
  | .node s r l :: ks => by have := len_szs ks; simp [Tr.sz]; omega
end Go.Proofs.YtpkejcjjbkgomaaDoor
namespace Go.Proofs.YtpkejcjjbkgomaaDoor
open Go.ChangeShapes Go.WideShapes Go.ChangeAt Go.RowKit Go.Deep
set_option maxRecDepth 100000
theorem fin_two (w wz : World) {a0 a1 a2 b0 b1 b2 : Value} (z1 : BoxT wz w.heap.size a0 a1 a2) (z2 : BoxT wz (w.heap.size + 1) b0 b1 b2) (x0 x1 x2 t0 t1 t2 : Value) :
    BoxT ((((((wz.setCell ⟨w.heap.size, 0, none⟩ x0).setCell ⟨w.heap.size, 1, none⟩ x1).setCell ⟨w.heap.size, 2, none⟩ x2).setCell ⟨w.heap.size + 1, 0, none⟩ t0).setCell ⟨w.heap.size + 1, 1, none⟩ t1).setCell ⟨w.heap.size + 1, 2, none⟩ t2) w.heap.size x0 x1 x2 ∧ BoxT ((((((wz.setCell ⟨w.heap.size, 0, none⟩ x0).setCell ⟨w.heap.size, 1, none⟩ x1).setCell ⟨w.heap.size, 2, none⟩ x2).setCell ⟨w.heap.size + 1, 0, none⟩ t0).setCell ⟨w.heap.size + 1, 1, none⟩ t1).setCell ⟨w.heap.size + 1, 2, none⟩ t2) (w.heap.size + 1) t0 t1 t2 ∧
    (∀ q, q ≠ w.heap.size → q ≠ w.heap.size + 1 → ((((((wz.setCell ⟨w.heap.size, 0, none⟩ x0).setCell ⟨w.heap.size, 1, none⟩ x1).setCell ⟨w.heap.size, 2, none⟩ x2).setCell ⟨w.heap.size + 1, 0, none⟩ t0).setCell ⟨w.heap.size + 1, 1, none⟩ t1).setCell ⟨w.heap.size + 1, 2, none⟩ t2).heap[q]? = wz.heap[q]?) ∧
    ((((((wz.setCell ⟨w.heap.size, 0, none⟩ x0).setCell ⟨w.heap.size, 1, none⟩ x1).setCell ⟨w.heap.size, 2, none⟩ x2).setCell ⟨w.heap.size + 1, 0, none⟩ t0).setCell ⟨w.heap.size + 1, 1, none⟩ t1).setCell ⟨w.heap.size + 1, 2, none⟩ t2).os = wz.os ∧ ((((((wz.setCell ⟨w.heap.size, 0, none⟩ x0).setCell ⟨w.heap.size, 1, none⟩ x1).setCell ⟨w.heap.size, 2, none⟩ x2).setCell ⟨w.heap.size + 1, 0, none⟩ t0).setCell ⟨w.heap.size + 1, 1, none⟩ t1).setCell ⟨w.heap.size + 1, 2, none⟩ t2).tape = wz.tape ∧ ((((((wz.setCell ⟨w.heap.size, 0, none⟩ x0).setCell ⟨w.heap.size, 1, none⟩ x1).setCell ⟨w.heap.size, 2, none⟩ x2).setCell ⟨w.heap.size + 1, 0, none⟩ t0).setCell ⟨w.heap.size + 1, 1, none⟩ t1).setCell ⟨w.heap.size + 1, 2, none⟩ t2).output = wz.output ∧ wz.heap.size ≤ ((((((wz.setCell ⟨w.heap.size, 0, none⟩ x0).setCell ⟨w.heap.size, 1, none⟩ x1).setCell ⟨w.heap.size, 2, none⟩ x2).setCell ⟨w.heap.size + 1, 0, none⟩ t0).setCell ⟨w.heap.size + 1, 1, none⟩ t1).setCell ⟨w.heap.size + 1, 2, none⟩ t2).heap.size := by
  have hn : w.heap.size ≠ w.heap.size + 1 := by omega
  refine ⟨?_, ?_, fun q h1 h2 => ?_, ?_, ?_, ?_, by simp⟩
  · have h0 := z1.set3 x0 x1 x2
    exact ((Below.heap_setCell _ ⟨w.heap.size + 1, 2, none⟩ t2 _ hn).trans ((Below.heap_setCell _ ⟨w.heap.size + 1, 1, none⟩ t1 _ hn).trans (Below.heap_setCell _ ⟨w.heap.size + 1, 0, none⟩ t0 _ hn))).trans h0
  · refine BoxT.set3 (v0 := b0) (v1 := b1) (v2 := b2) ?_ _ _ _
    have hn' : w.heap.size + 1 ≠ w.heap.size := by omega
    exact ((Below.heap_setCell _ ⟨w.heap.size, 2, none⟩ x2 _ hn').trans ((Below.heap_setCell _ ⟨w.heap.size, 1, none⟩ x1 _ hn').trans (Below.heap_setCell _ ⟨w.heap.size, 0, none⟩ x0 _ hn'))).trans z2
  · exact (Below.heap_setCell _ ⟨w.heap.size + 1, 2, none⟩ t2 q h2).trans ((Below.heap_setCell _ ⟨w.heap.size + 1, 1, none⟩ t1 q h2).trans ((Below.heap_setCell _ ⟨w.heap.size + 1, 0, none⟩ t0 q h2).trans ((Below.heap_setCell _ ⟨w.heap.size, 2, none⟩ x2 q h1).trans ((Below.heap_setCell _ ⟨w.heap.size, 1, none⟩ x1 q h1).trans (Below.heap_setCell _ ⟨w.heap.size, 0, none⟩ x0 q h1)))))
  · rw [set_os, set_os, set_os, set_os, set_os, set_os]
  · rw [set_tape, set_tape, set_tape, set_tape, set_tape, set_tape]
  · rw [set_output, set_output, set_output, set_output, set_output, set_output]
/-- two drawn trees -/
def MadeTT (w : World) (e : Ending) (w' : World) : Prop := ∃ ta tb A B, e = .returned (.tuple #[ta, tb]) ∧ TrP w' w.heap.size ta A ∧ TrP w' w.heap.size tb B ∧ A.sz ≤ 488290 ∧ B.sz ≤ 488290 ∧ Below w.heap.size w w'
theorem two_end {w wz : World} {a0 a1 a2 b0 b1 b2 : Value} {A B : Tr} {s s' : ByteArray} {r r' : Int} {v v' : Value} (z1 : BoxT wz w.heap.size a0 a1 a2) (z2 : BoxT wz (w.heap.size + 1) b0 b1 b2)
    (HA : TrP wz (w.heap.size + 2) (.agg #[.string s, .int .i64 r, v]) A) (HB : TrP wz (w.heap.size + 2) (.agg #[.string s', .int .i64 r', v']) B) (hA : A.sz ≤ 488290) (hB : B.sz ≤ 488290) (hb : Below w.heap.size w wz) :
    MadeTT w (.returned (.tuple #[.agg #[.string s, .int .i64 r, v], .agg #[.string s', .int .i64 r', v']])) ((((((wz.setCell ⟨w.heap.size, 0, none⟩ (.string s)).setCell ⟨w.heap.size, 1, none⟩ (.int .i64 r)).setCell ⟨w.heap.size, 2, none⟩ v).setCell ⟨w.heap.size + 1, 0, none⟩ (.string s')).setCell ⟨w.heap.size + 1, 1, none⟩ (.int .i64 r')).setCell ⟨w.heap.size + 1, 2, none⟩ v') ∧
    ((((((wz.setCell ⟨w.heap.size, 0, none⟩ (.string s)).setCell ⟨w.heap.size, 1, none⟩ (.int .i64 r)).setCell ⟨w.heap.size, 2, none⟩ v).setCell ⟨w.heap.size + 1, 0, none⟩ (.string s')).setCell ⟨w.heap.size + 1, 1, none⟩ (.int .i64 r')).setCell ⟨w.heap.size + 1, 2, none⟩ v').cell? ⟨w.heap.size, 0, none⟩ = some (.string s) ∧ ((((((wz.setCell ⟨w.heap.size, 0, none⟩ (.string s)).setCell ⟨w.heap.size, 1, none⟩ (.int .i64 r)).setCell ⟨w.heap.size, 2, none⟩ v).setCell ⟨w.heap.size + 1, 0, none⟩ (.string s')).setCell ⟨w.heap.size + 1, 1, none⟩ (.int .i64 r')).setCell ⟨w.heap.size + 1, 2, none⟩ v').cell? ⟨w.heap.size, 1, none⟩ = some (.int .i64 r) ∧ ((((((wz.setCell ⟨w.heap.size, 0, none⟩ (.string s)).setCell ⟨w.heap.size, 1, none⟩ (.int .i64 r)).setCell ⟨w.heap.size, 2, none⟩ v).setCell ⟨w.heap.size + 1, 0, none⟩ (.string s')).setCell ⟨w.heap.size + 1, 1, none⟩ (.int .i64 r')).setCell ⟨w.heap.size + 1, 2, none⟩ v').cell? ⟨w.heap.size, 2, none⟩ = some v ∧
    ((((((wz.setCell ⟨w.heap.size, 0, none⟩ (.string s)).setCell ⟨w.heap.size, 1, none⟩ (.int .i64 r)).setCell ⟨w.heap.size, 2, none⟩ v).setCell ⟨w.heap.size + 1, 0, none⟩ (.string s')).setCell ⟨w.heap.size + 1, 1, none⟩ (.int .i64 r')).setCell ⟨w.heap.size + 1, 2, none⟩ v').cell? ⟨w.heap.size + 1, 0, none⟩ = some (.string s') ∧ ((((((wz.setCell ⟨w.heap.size, 0, none⟩ (.string s)).setCell ⟨w.heap.size, 1, none⟩ (.int .i64 r)).setCell ⟨w.heap.size, 2, none⟩ v).setCell ⟨w.heap.size + 1, 0, none⟩ (.string s')).setCell ⟨w.heap.size + 1, 1, none⟩ (.int .i64 r')).setCell ⟨w.heap.size + 1, 2, none⟩ v').cell? ⟨w.heap.size + 1, 1, none⟩ = some (.int .i64 r') ∧ ((((((wz.setCell ⟨w.heap.size, 0, none⟩ (.string s)).setCell ⟨w.heap.size, 1, none⟩ (.int .i64 r)).setCell ⟨w.heap.size, 2, none⟩ v).setCell ⟨w.heap.size + 1, 0, none⟩ (.string s')).setCell ⟨w.heap.size + 1, 1, none⟩ (.int .i64 r')).setCell ⟨w.heap.size + 1, 2, none⟩ v').cell? ⟨w.heap.size + 1, 2, none⟩ = some v' := by
  obtain ⟨q1, q2, hy, h1, h2, h3, h4⟩ := fin_two w wz z1 z2 (.string s) (.int .i64 r) v (.string s') (.int .i64 r') v'
  refine ⟨⟨_, _, A, B, rfl, (TrP.stay HA (fun k hk _ => hy k (by omega) (by omega))).mono (by omega), (TrP.stay HB (fun k hk _ => hy k (by omega) (by omega))).mono (by omega), hA, hB, h1.trans hb.os, h2.trans hb.tape, h3.trans hb.output, Nat.le_trans hb.size h4, fun k hk => (hy k (by omega) (by omega)).trans (hb.block k hk)⟩, q1.cells.1, q1.cells.2.1, q1.cells.2.2.1, q2.cells.1, q2.cells.2.1, q2.cells.2.2.1⟩
theorem num2 {w : World} {L : Nat} (h : w.heap[L]? = some (.cells #[.int .i64 4, .int .i64 3] 3)) : ∀ i (h' : i < ([4, 3] : List Int).length), w.cell? ⟨L, i, none⟩ = some (.int .i64 ([4, 3] : List Int)[i]) := by
  intro i hi
  rw [cell_of_block h i]
  have : i = 0 ∨ i = 1 := by simp at hi; omega
  rcases this with rfl | rfl <;> rfl
theorem num3 {w : World} {L : Nat} (h : w.heap[L]? = some (.cells #[.int .i64 (-1), .int .i64 0, .int .i64 1] 3)) : ∀ i (h' : i < ([-1, 0, 1] : List Int).length), w.cell? ⟨L, i, none⟩ = some (.int .i64 ([-1, 0, 1] : List Int)[i]) := by
  intro i hi
  rw [cell_of_block h i]
  have : i = 0 ∨ i = 1 ∨ i = 2 := by simp at hi; omega
  rcases this with rfl | rfl | rfl <;> rfl
theorem deep2 {v : Int} (h : v ∈ ([4, 3] : List Int)) : ∃ d : Nat, v = (d : Int) ∧ d ≤ 4 := by
  simp only [List.mem_cons, List.not_mem_nil, or_false] at h
  rcases h with rfl | rfl
  · exact ⟨4, rfl, by omega⟩
  · exact ⟨3, rfl, by omega⟩
theorem tmost4 : tmost 4 ≤ 40000 := by decide
theorem tmost_four : ∀ {d : Nat}, d ≤ 4 → tmost d ≤ 40000 := by
  intro d h
  have : d = 0 ∨ d = 1 ∨ d = 2 ∨ d = 3 ∨ d = 4 := by omega
  rcases this with rfl | rfl | rfl | rfl | rfl <;> decide
theorem keepGB {w : World} {b c : Nat} {v0 v1 u0 u1 u2 : Value} (X : GB2 w b v0 v1) (Y : BoxT w c u0 u1 u2) : w.cell? ⟨b, 0, none⟩ = some v0 ∧ w.cell? ⟨b, 1, none⟩ = some v1 ∧ w.cell? ⟨c, 0, none⟩ = some u0 ∧ w.cell? ⟨c, 1, none⟩ = some u1 ∧ w.cell? ⟨c, 2, none⟩ = some u2 :=
  ⟨X.cells.1, X.cells.2, Y.cells.1, Y.cells.2.1, Y.cells.2.2.1⟩
theorem keepGB3 {w wz : World} {b c : Nat} {v0 v1 u0 u1 u2 : Value} (X : GB2 wz b v0 v1) (Y : BoxT wz c u0 u1 u2) (hb : b ≠ w.heap.size) (hc : c ≠ w.heap.size) (x0 x1 x2 : Value) : (((wz.setCell ⟨w.heap.size, 0, none⟩ x0).setCell ⟨w.heap.size, 1, none⟩ x1).setCell ⟨w.heap.size, 2, none⟩ x2).cell? ⟨b, 0, none⟩ = some v0 ∧ (((wz.setCell ⟨w.heap.size, 0, none⟩ x0).setCell ⟨w.heap.size, 1, none⟩ x1).setCell ⟨w.heap.size, 2, none⟩ x2).cell? ⟨b, 1, none⟩ = some v1 ∧ (((wz.setCell ⟨w.heap.size, 0, none⟩ x0).setCell ⟨w.heap.size, 1, none⟩ x1).setCell ⟨w.heap.size, 2, none⟩ x2).cell? ⟨c, 0, none⟩ = some u0 ∧ (((wz.setCell ⟨w.heap.size, 0, none⟩ x0).setCell ⟨w.heap.size, 1, none⟩ x1).setCell ⟨w.heap.size, 2, none⟩ x2).cell? ⟨c, 1, none⟩ = some u1 ∧ (((wz.setCell ⟨w.heap.size, 0, none⟩ x0).setCell ⟨w.heap.size, 1, none⟩ x1).setCell ⟨w.heap.size, 2, none⟩ x2).cell? ⟨c, 2, none⟩ = some u2 :=
  keepGB ((Below.heap_setCell _ _ _ _ hb).trans ((Below.heap_setCell _ _ _ _ hb).trans ((Below.heap_setCell _ _ _ _ hb).trans X))) ((Below.heap_setCell _ _ _ _ hc).trans ((Below.heap_setCell _ _ _ _ hc).trans ((Below.heap_setCell _ _ _ _ hc).trans Y)))
end Go.Proofs.YtpkejcjjbkgomaaDoor
namespace Go.Proofs.YtpkejcjjbkgomaaDoor
open Go.ChangeShapes Go.WideShapes Go.ChangeAt Go.RowKit Go.Deep
set_option maxRecDepth 100000
theorem MadeTT.drew {w w' : World} {e : Ending} (h : MadeTT w e w') : MadeTT w e w'.drew := by
  obtain ⟨ta, tb, A, B, e, HA, HB, hA, hB, hb⟩ := h
  exact ⟨ta, tb, A, B, e, TrP.stay HA (fun _ _ _ => rfl), TrP.stay HB (fun _ _ _ => rfl), hA, hB, hb.drew⟩
theorem keepGB6 {w wz : World} {b c : Nat} {v0 v1 u0 u1 u2 : Value} (X : GB2 wz b v0 v1) (Y : BoxT wz c u0 u1 u2) (hb : b ≠ w.heap.size) (hc : c ≠ w.heap.size) (hb1 : b ≠ w.heap.size + 1) (hc1 : c ≠ w.heap.size + 1) (x0 x1 x2 t0 t1 t2 : Value) : ((((((wz.setCell ⟨w.heap.size, 0, none⟩ x0).setCell ⟨w.heap.size, 1, none⟩ x1).setCell ⟨w.heap.size, 2, none⟩ x2).setCell ⟨w.heap.size + 1, 0, none⟩ t0).setCell ⟨w.heap.size + 1, 1, none⟩ t1).setCell ⟨w.heap.size + 1, 2, none⟩ t2).cell? ⟨b, 0, none⟩ = some v0 ∧ ((((((wz.setCell ⟨w.heap.size, 0, none⟩ x0).setCell ⟨w.heap.size, 1, none⟩ x1).setCell ⟨w.heap.size, 2, none⟩ x2).setCell ⟨w.heap.size + 1, 0, none⟩ t0).setCell ⟨w.heap.size + 1, 1, none⟩ t1).setCell ⟨w.heap.size + 1, 2, none⟩ t2).cell? ⟨b, 1, none⟩ = some v1 ∧ ((((((wz.setCell ⟨w.heap.size, 0, none⟩ x0).setCell ⟨w.heap.size, 1, none⟩ x1).setCell ⟨w.heap.size, 2, none⟩ x2).setCell ⟨w.heap.size + 1, 0, none⟩ t0).setCell ⟨w.heap.size + 1, 1, none⟩ t1).setCell ⟨w.heap.size + 1, 2, none⟩ t2).cell? ⟨c, 0, none⟩ = some u0 ∧ ((((((wz.setCell ⟨w.heap.size, 0, none⟩ x0).setCell ⟨w.heap.size, 1, none⟩ x1).setCell ⟨w.heap.size, 2, none⟩ x2).setCell ⟨w.heap.size + 1, 0, none⟩ t0).setCell ⟨w.heap.size + 1, 1, none⟩ t1).setCell ⟨w.heap.size + 1, 2, none⟩ t2).cell? ⟨c, 1, none⟩ = some u1 ∧ ((((((wz.setCell ⟨w.heap.size, 0, none⟩ x0).setCell ⟨w.heap.size, 1, none⟩ x1).setCell ⟨w.heap.size, 2, none⟩ x2).setCell ⟨w.heap.size + 1, 0, none⟩ t0).setCell ⟨w.heap.size + 1, 1, none⟩ t1).setCell ⟨w.heap.size + 1, 2, none⟩ t2).cell? ⟨c, 2, none⟩ = some u2 :=
  keepGB ((Below.heap_setCell _ _ _ _ hb1).trans ((Below.heap_setCell _ _ _ _ hb1).trans ((Below.heap_setCell _ _ _ _ hb1).trans ((Below.heap_setCell _ _ _ _ hb).trans ((Below.heap_setCell _ _ _ _ hb).trans ((Below.heap_setCell _ _ _ _ hb).trans X)))))) ((Below.heap_setCell _ _ _ _ hc1).trans ((Below.heap_setCell _ _ _ _ hc1).trans ((Below.heap_setCell _ _ _ _ hc1).trans ((Below.heap_setCell _ _ _ _ hc).trans ((Below.heap_setCell _ _ _ _ hc).trans ((Below.heap_setCell _ _ _ _ hc).trans Y))))))
set_option maxHeartbeats 4000000 in
theorem drawTreeSame_any (a : Option Addr) (n cap : Nat) (w : World) (H : BytesAt w a n cap) :
    Calls Tryd.prog 32 #[.slice a n cap] w (MadeTT w) := by
  have hb2 := ((Below.refl w.heap.size w).alloc (Nat.le_refl _) (.cells #[.string ⟨#[]⟩, .int .i64 0, .slice none 0 0] 29)).alloc (by simp) (.cells #[.string ⟨#[]⟩, .int .i64 0, .slice none 0 0] 29)
  have hY2 : BoxT ((w.alloc (.cells #[.string ⟨#[]⟩, .int .i64 0, .slice none 0 0] 29)).alloc (.cells #[.string ⟨#[]⟩, .int .i64 0, .slice none 0 0] 29)) w.heap.size (.string ⟨#[]⟩) (.int .i64 0) (.slice none 0 0) := (blk_old _ _ (by simp)).trans (blk_new _ _ rfl)
  have hZ2 : BoxT ((w.alloc (.cells #[.string ⟨#[]⟩, .int .i64 0, .slice none 0 0] 29)).alloc (.cells #[.string ⟨#[]⟩, .int .i64 0, .slice none 0 0] 29)) (w.heap.size + 1) (.string ⟨#[]⟩) (.int .i64 0) (.slice none 0 0) := blk_new _ _ (by simp)
  go_enter Tryd.func32, Tryd.ntmps32
  go_wp2_with fail
  refine (l17Open_any a n cap _ ((H.alloc _).alloc _)).mono ?_
  rintro e w3 ⟨rfl, hrd3, hb3⟩
  simp only [World.size_alloc] at hrd3
  have hY3 := hY2.below hb3
  have hZ3 := hZ2.below hb3
  have hB3 := Below.on hb2 hb3 (Nat.le_refl _)
  have hz3 : w.heap.size + 2 < w3.heap.size := hrd3.lt
  clear hY2 hZ2 hb2 hb3
  go_wp2_with fail
  refine (l3Some_any (w.heap.size + 1 + 1) w3 hrd3).mono ?_
  rintro e w4 ⟨gv, tv, rfl, ⟨st, rs, T, ⟨b, off, cg, rfl, hcg, HU, hl, hst, hS, hbb⟩, HT, hsz, hwt⟩, hrd4, ho4⟩
  obtain ⟨s, r, ks, ka, kc, us, hlu, rfl, rfl, hss, hrw, hlm, hlc, hkid, hone, hrow⟩ := TrQ.kids HT
  have HTK := Lib.hid HT
  have hbR : b ≠ w.heap.size + 1 + 1 := by omega
  have hY4 := hY3.only ho4 (by omega)
  have hZ4 := hZ3.only ho4 (by omega)
  have hB4 : Below w.heap.size w w4 := hB3.trans (ho4.below _ (by omega) (by have := hB3.size; omega))
  have hz4 := ho4.size
  clear hY3 hZ3 hB3 ho4 hrd3 hwt
  have al := ((Below.refl w4.heap.size w4).alloc (Nat.le_refl _) (.cells #[.string st, .slice (some ⟨b, off, none⟩) rs.length cg] 64)).alloc (by simp) (.cells #[.string s, .int .i64 r, .slice ka ks.length kc] 29)
  have g5 : GB2 ((w4.alloc (.cells #[.string st, .slice (some ⟨b, off, none⟩) rs.length cg] 64)).alloc (.cells #[.string s, .int .i64 r, .slice ka ks.length kc] 29)) w4.heap.size (.string st) (.slice (some ⟨b, off, none⟩) rs.length cg) := (blk_old _ _ (by simp)).trans (blk_new _ _ rfl)
  have t5 : BoxT ((w4.alloc (.cells #[.string st, .slice (some ⟨b, off, none⟩) rs.length cg] 64)).alloc (.cells #[.string s, .int .i64 r, .slice ka ks.length kc] 29)) (w4.heap.size + 1) (.string s) (.int .i64 r) (.slice ka ks.length kc) := blk_new _ _ (by simp)
  have hY5 := hY4.below al
  have hZ5 := hZ4.below al
  have HU5 := HU.below al (Nat.le_refl _)
  have HT5 := HT.keep al
  have hrd5 := hrd4.below al
  have B5 := Below.on hB4 al (Nat.le_refl _)
  have OA : Only (w.heap.size + 1 + 1) w4 _ := Only.of_below al
  clear hY4 hZ4 hB4 HU HT hrd4 al
  have CP := Lib.hid (pick_any (w.heap.size + 1 + 1) 900000 2 ((w4.alloc (.cells #[.string st, .slice (some ⟨b, off, none⟩) rs.length cg] 64)).alloc (.cells #[.string s, .int .i64 r, .slice ka ks.length kc] 29)) hrd5 (by omega) (by omega) (by omega))
  go_wp2_with fail
  refine CP.out.mono ?_
  rintro e w6 ⟨v, rfl, ⟨hv0, hv1, _⟩, hrd6, ho6⟩
  have hv2 := hv1 (by omega)
  have g6 := g5.only ho6 (by omega)
  have t6 := t5.only ho6 (by omega)
  have hY6 := hY5.only ho6 (by omega)
  have hZ6 := hZ5.only ho6 (by omega)
  have HU6 := HU5.only ho6 hbR
  have HT6 : TrP w6 w3.heap.size (.agg #[.string s, .int .i64 r, .slice ka ks.length kc]) (.node s r ks) := TrP.stay HT5 (fun k hk hlt => ho6.block k hlt (by omega))
  have B6 : Below w.heap.size w w6 := B5.trans (ho6.below _ (by omega) (by have := B5.size; omega))
  have hz6 : w4.heap.size + 2 ≤ w6.heap.size := by have := ho6.size; simpa using this
  have O6 := OA.trans ho6
  clear CP g5 t5 hY5 hZ5 HU5 HT5 hrd5 B5 ho6 hv1 OA
  by_cases hv : v = 0
  · subst hv
    have hR6 := hrd6.lt
    obtain ⟨c0, c1, c2, c3, c4⟩ := keepGB g6 t6
    have CN := Lib.hid (num_any (w.heap.size + 1 + 1) 900001 w6.heap.size 2 2 [4, 3] (w6.alloc (.cells #[.int .i64 4, .int .i64 3] 3)).drew (hrd6.alloc _).drew (by omega) rfl (by omega) (by omega) (by omega) (num2 (w := (w6.alloc (.cells #[.int .i64 4, .int .i64 3] 3)).drew) (blk_new w6 _ rfl)))
    have key : ∀ wx : World, Only (w.heap.size + 1 + 1) (w6.alloc (.cells #[.int .i64 4, .int .i64 3] 3)).drew wx → GB2 wx w4.heap.size (.string st) (.slice (some ⟨b, off, none⟩) rs.length cg) ∧ BoxT wx (w4.heap.size + 1) (.string s) (.int .i64 r) (.slice ka ks.length kc) ∧ BoxT wx w.heap.size (.string ⟨#[]⟩) (.int .i64 0) (.slice none 0 0) ∧ BoxT wx (w.heap.size + 1) (.string ⟨#[]⟩) (.int .i64 0) (.slice none 0 0) ∧ RulesAt wx (some ⟨b, off, none⟩) rs ∧ TrP wx w3.heap.size (.agg #[.string s, .int .i64 r, .slice ka ks.length kc]) (.node s r ks) ∧ Below w.heap.size w wx ∧ w6.heap.size < wx.heap.size := fun wx ho =>
      have o6 : Only (w.heap.size + 1 + 1) w6 wx := (Only.of_below (((Below.refl w6.heap.size w6).alloc (Nat.le_refl _) (.cells #[.int .i64 4, .int .i64 3] 3)).drew)).trans ho
      ⟨g6.only o6 (by omega), t6.only o6 (by omega), hY6.only o6 (by omega), hZ6.only o6 (by omega), HU6.only o6 hbR, TrP.stay HT6 (fun k hk hlt => o6.block k hlt (by omega)), B6.trans (o6.below _ (by omega) (by have := B6.size; omega)), by have := ho.size; simp at this; omega⟩
    have KEY := Lib.hid key
    clear key g6 t6 hY6 hZ6 HU6 HT6 B6 hkid hrow hrd6
    go_wp2_with fail
    go_region_held3 (fun w' => w'.cell? ⟨w4.heap.size, 0, none⟩ = some (.string st) ∧ w'.cell? ⟨w4.heap.size, 1, none⟩ = some (.slice (some ⟨b, off, none⟩) rs.length cg) ∧ w'.cell? ⟨w4.heap.size + 1, 0, none⟩ = some (.string s) ∧ w'.cell? ⟨w4.heap.size + 1, 1, none⟩ = some (.int .i64 r) ∧ w'.cell? ⟨w4.heap.size + 1, 2, none⟩ = some (.slice ka ks.length kc))
      (first
        | go_keep
        | with_reducible exact k7
        | with_reducible exact k8
        | with_reducible exact k9
        | with_reducible exact k10
        | fail)
      (first
        | (go_at_call 68; (with_reducible refine CN.out.mono ?_); rintro e w7 ⟨dv, rfl, hdv, hrd7, ho7⟩; obtain ⟨d, rfl, hd4⟩ := deep2 hdv; have htm := tmost_four hd4; have K7 := Lib.hid (KEY.out _ ho7); have k7 := keepGB K7.out.1 K7.out.2.1; have HO7 := Lib.hid ho7; have hs7 := K7.out.2.2.2.2.2.2.2; clear ho7)
        | (go_at_call 67; (with_reducible refine (l3Any_any (w.heap.size + 1 + 1) rs hS (by omega) st b off cg hbR d (by omega) 900002 st w7 hrd7 (by omega) K7.out.2.2.2.2.1 hst).mono ?_); rintro e w8 ⟨u, T2, rfl, HT8, _, hsz8, _, _, ho8, hown⟩; obtain ⟨r', v', _, _, rfl, _, _, ⟨va, vn, vc, rfl⟩, _, _⟩ := hown; have K8 := Lib.hid (KEY.out _ (HO7.out.trans ho8)); have HT8h := Lib.hid HT8; have k8 := keepGB K8.out.1 K8.out.2.1; have k9 := keepGB3 (w := w) K8.out.1 K8.out.2.1 (by omega) (by omega) (.string s) (.int .i64 r) (.slice ka ks.length kc); have k10 := keepGB6 (w := w) K8.out.1 K8.out.2.1 (by omega) (by omega) (by omega) (by omega) (.string s) (.int .i64 r) (.slice ka ks.length kc) (.string st) (.int .i64 r') (.slice va vn vc); clear ho8 HT8; obtain ⟨y0, y1, y2, fy0, fy1, fy2⟩ := K8.out.2.2.1.cells; obtain ⟨z0, z1, z2, fz0, fz1, fz2⟩ := K8.out.2.2.2.1.cells)
        | fail)
    all_goals go_wp2_with fail
    all_goals
      obtain ⟨m1, e0, e1, e2, e3, e4, e5⟩ := two_end K8.out.2.2.1 K8.out.2.2.2.1 (TrP.mono K8.out.2.2.2.2.2.1 (by omega)) (TrP.mono HT8h.out (by omega)) hsz (by omega) K8.out.2.2.2.2.2.2.1
      have E0 := Lib.hid e0
      have E1 := Lib.hid e1
      have E2 := Lib.hid e2
      have E3 := Lib.hid e3
      have E4 := Lib.hid e4
      have E5 := Lib.hid e5
      have M1 := Lib.hid m1
      clear e0 e1 e2 e3 e4 e5 m1
      exact bodyPost_ret (v := .tuple #[.agg #[.string s, .int .i64 r, .slice ka ks.length kc], .agg #[.string st, .int .i64 r', .slice va vn vc]]) (by have e0 := E0.out; have e1 := E1.out; have e2 := E2.out; have e3 := E3.out; have e4 := E4.out; have e5 := E5.out; simp [results, Tryd.results32, go_sem, e0, e1, e2, e3, e4, e5]) rfl M1.out
  · have hvq : (v == 0) = false := by simpa using hv
    clear hv
    have al7 := (Below.refl w6.heap.size w6).alloc (Nat.le_refl _) (.cells #[.string s, .int .i64 r, .slice ka ks.length kc] 29)
    have x7 : BoxT (w6.alloc (.cells #[.string s, .int .i64 r, .slice ka ks.length kc] 29)) w6.heap.size (.string s) (.int .i64 r) (.slice ka ks.length kc) := blk_new _ _ rfl
    have t7 := t6.below al7
    have hY7 := hY6.below al7
    have hZ7 := hZ6.below al7
    have HT7 := HT6.keep al7
    have B7 := Below.on B6 al7 (Nat.le_refl _)
    have hrd7 := hrd6.below al7
    have O7 := O6.trans (Only.of_below al7)
    obtain ⟨t0, t1, t2, _, _, _⟩ := t7.cells
    obtain ⟨o0, o1, o2, _, _, _⟩ := t6.cells
    clear g6 hY6 hZ6 HU6 HT6 B6 hrd6 al7 O6
    by_cases h0 : ks.length = 0
    · have hd0 : decide ((0 : Int) < (ks.length : Int)) = false := by rw [decide_eq_false_iff_not]; omega
      have hd1 : ¬ 0 < ks.length := by omega
      have hd2 : ¬ (0 : Int) < (ks.length : Int) := by omega
      clear h0
      go_wp2_with fail
      clear o0 o1 o2 t0 t1 t2
      obtain ⟨m1, e0, e1, e2, e3, e4, e5⟩ := two_end hY7 hZ7 (TrP.mono HT7 (by omega)) (TrP.mono HT7 (by omega)) hsz (hsz) B7
      have E0 := Lib.hid e0
      have E1 := Lib.hid e1
      have E2 := Lib.hid e2
      have E3 := Lib.hid e3
      have E4 := Lib.hid e4
      have E5 := Lib.hid e5
      have M1 := Lib.hid (MadeTT.drew m1)
      clear e0 e1 e2 e3 e4 e5 m1
      obtain ⟨t0, t1, t2, _, _, _⟩ := t7.cells
      obtain ⟨x0, x1, x2, _, _, _⟩ := x7.cells
      obtain ⟨y0, y1, y2, fy0, fy1, fy2⟩ := hY7.cells
      obtain ⟨z0, z1, z2, fz0, fz1, fz2⟩ := hZ7.cells
      have n1 : w.heap.size ≠ w4.heap.size + 1 := by omega
      have n2 : w.heap.size + 1 ≠ w4.heap.size + 1 := by omega
      have n3 : w.heap.size ≠ w6.heap.size := by omega
      have n4 : w.heap.size + 1 ≠ w6.heap.size := by omega
      go_wp2_with fail
      go_region
      clear t0 t1 t2 x0 x1 x2 y0 y1 y2 z0 z1 z2 fy0 fy1 fy2 fz0 fz1 fz2
      go_wp2_with fail
      exact bodyPost_ret (v := .tuple #[.agg #[.string s, .int .i64 r, .slice ka ks.length kc], .agg #[.string s, .int .i64 r, .slice ka ks.length kc]]) (by have e0 := E0.out; have e1 := E1.out; have e2 := E2.out; have e3 := E3.out; have e4 := E4.out; have e5 := E5.out; simp [results, Tryd.results32, go_sem, e0, e1, e2, e3, e4, e5]) rfl M1.out
    · have hd0 : decide ((0 : Int) < (ks.length : Int)) = true := by rw [decide_eq_true_iff]; omega
      have hd1 : 0 < ks.length := by omega
      have hd2 : (0 : Int) < (ks.length : Int) := by omega
      clear h0
      have CQ := Lib.hid (pick_any (w.heap.size + 1 + 1) 900001 2 _ hrd7 (by omega) (by omega) (by omega))
      go_wp2_with fail
      refine CQ.out.mono ?_
      rintro e w8 ⟨q, rfl, ⟨hq0, hq1, _⟩, hrd8, ho8⟩
      have hq2 := hq1 (by omega)
      have x8 := x7.only ho8 (by omega)
      have t8 := t7.only ho8 (by omega)
      have hY8 := hY7.only ho8 (by omega)
      have hZ8 := hZ7.only ho8 (by omega)
      have HT8 : TrP w8 w3.heap.size (.agg #[.string s, .int .i64 r, .slice ka ks.length kc]) (.node s r ks) := TrP.stay HT7 (fun k hk hlt => ho8.block k hlt (by omega))
      have B8 : Below w.heap.size w w8 := B7.trans (ho8.below _ (by omega) (by have := B7.size; omega))
      have hz8 : w6.heap.size + 1 ≤ w8.heap.size := by have := ho8.size; simpa using this
      have O8 := O7.trans ho8
      clear CQ t0 t1 t2 o0 o1 o2 hq1 x7 t7 hY7 hZ7 HT7 B7 hrd7 ho8 O7
      by_cases hq : q = 0
      · subst hq
        rcases hrow with hnil | ⟨gk, ok, rfl, hgk, hcells⟩
        · rw [hnil] at hlu
          simp at hlu
          omega
        have hks : ks.length ≤ 488290 := by
          rw [Tr.sz] at hsz
          have := len_szs ks
          omega
        have hown : (w8.alloc (.cells #[] 29)).ownsRow w8.heap.size 29 3 (.slice (some ⟨w8.heap.size, 0, none⟩) 0 0) 0 [] := ⟨rfl, .inr ⟨w8.heap.size, 0, #[], rfl, Nat.le_refl _, blk_new _ _ rfl, Nat.le_refl _, by unfold maxLen; omega, rfl, rfl⟩⟩
        have hcells8 : ∀ j y, (flatK us)[j]? = some y → (w8.alloc (.cells #[] 29)).cell? (Addr.add ⟨gk, ok, none⟩ j) = some y := by
          intro j y hj
          rw [WideShapes.add_plain]
          have hc := hcells j y hj
          have hlt := World.block_lt_of_cell? _ _ hc
          rw [cell_same (w := w4) ((blk_old _ _ (Nat.lt_of_lt_of_le hlt O8.size)).trans (O8.block gk hlt (by omega)))]
          exact hc
        have same8 : ∀ k, w3.heap.size ≤ k → k < w4.heap.size → w8.heap[k]? = w4.heap[k]? := fun k h1 h2 => O8.block k h2 (by omega)
        obtain ⟨s0, r0, x0, ut, rfl⟩ : ∃ s0 r0 x0 ut, us = (s0, r0, x0) :: ut := by
          match us, hlu with
          | [], hlu => simp at hlu; omega
          | (s0, r0, x0) :: ut, _ => exact ⟨s0, r0, x0, ut, rfl⟩
        obtain ⟨i0, hi0, hzz⟩ := Option.map_eq_some_iff.1 infoTree3
        simp only [Prod.mk.injEq] at hzz
        obtain ⟨hz0, hz1, hz2⟩ := hzz
        obtain ⟨t0, t1, t2, _, _, _⟩ := (t8.below ((Below.refl w8.heap.size w8).alloc (Nat.le_refl _) (.cells #[] 29))).cells
        go_wp2_with (at_builtin; refine wpList_append_own_at _ rfl _ _ 27 rfl w8.heap.size 29 i0 _ 3 48 Tryd.underlying27 hi0 hz0 hz1 hz2 rfl (by decide) (.slice (some ⟨w8.heap.size, 0, none⟩) 0 0) 0 [] rfl hown ⟨gk, ok, none⟩ ks.length kc (flatK ((s0, r0, x0) :: ut)) rfl (by rw [flatK_len, hlu]) hcells8 (flatK_one _ hone) (by unfold maxLen; omega) (by omega) (by simp) ?_)
        intro v' w9 h1 h2 h3 h4
        obtain ⟨g2, cap2, rfl, hrow9, hg2⟩ : ∃ g2 cap2, v' = .slice (some ⟨g2, 0, none⟩) ks.length cap2 ∧ w9.ownsRow w8.heap.size 29 3 (.slice (some ⟨g2, 0, none⟩) ks.length cap2) ks.length (flatK ((s0, r0, x0) :: ut)) ∧ w8.heap.size ≤ g2 := by
          rcases h1.2 with ⟨_, h0⟩ | ⟨g, c2, cur, e, hB, _⟩
          · omega
          · exact ⟨g, c2, e, e ▸ h1, hB⟩
        have b9 : Below w8.heap.size w8 w9 := ⟨h2.os, h2.tape, h2.output, Nat.le_trans (by simp) h2.size, fun k hk => (h2.block k (by simp; omega) (by simp [Value.ownBlock]; omega)).trans (blk_old _ _ hk)⟩
        have x9 := x8.below b9
        have t9 := t8.below b9
        have hY9 := hY8.below b9
        have hZ9 := hZ8.below b9
        have HT9 := HT8.keep b9
        have hrd9 := hrd8.below b9
        have B9 := Below.on B8 b9 (Nat.le_refl _)
        have hs9 := b9.size
        have same9 : ∀ k, w3.heap.size ≤ k → k < w4.heap.size → w9.heap[k]? = w4.heap[k]? := fun k h1 h2 => (b9.block k (by omega)).trans (same8 k h1 h2)
        clear h1 h2 h3 h4 b9 x8 t8 hY8 hZ8 HT8 hrd8 B8 O8 same8 hcells8 hown t0 t1 t2 hcells
        obtain ⟨x0', x1', x2', fx0, fx1, fx2⟩ := x9.cells
        have x10 : BoxT (w9.setCell ⟨w6.heap.size, 2, none⟩ (.slice (some ⟨g2, 0, none⟩) ks.length cap2)) w6.heap.size (.string s) (.int .i64 r) (.slice (some ⟨g2, 0, none⟩) ks.length cap2) := x9.set2 _
        have n1 : w.heap.size ≠ w6.heap.size := by omega
        have n2 : w.heap.size + 1 ≠ w6.heap.size := by omega
        have n3 : w4.heap.size + 1 ≠ w6.heap.size := by omega
        have t10 : BoxT (w9.setCell ⟨w6.heap.size, 2, none⟩ (.slice (some ⟨g2, 0, none⟩) ks.length cap2)) (w4.heap.size + 1) (.string s) (.int .i64 r) (.slice (some ⟨gk, ok, none⟩) ks.length kc) := (Below.heap_setCell _ _ _ _ n3).trans t9
        have hY10 : BoxT (w9.setCell ⟨w6.heap.size, 2, none⟩ (.slice (some ⟨g2, 0, none⟩) ks.length cap2)) w.heap.size (.string ⟨#[]⟩) (.int .i64 0) (.slice none 0 0) := (Below.heap_setCell _ _ _ _ n1).trans hY9
        have hZ10 : BoxT (w9.setCell ⟨w6.heap.size, 2, none⟩ (.slice (some ⟨g2, 0, none⟩) ks.length cap2)) (w.heap.size + 1) (.string ⟨#[]⟩) (.int .i64 0) (.slice none 0 0) := (Below.heap_setCell _ _ _ _ n2).trans hZ9
        have row10 := ownsRow_stay (w' := w9.setCell ⟨w6.heap.size, 2, none⟩ (.slice (some ⟨g2, 0, none⟩) ks.length cap2)) hrow9 (fun k hk => Below.heap_setCell _ _ _ _ (by simp [Value.ownBlock] at hk; show k ≠ w6.heap.size; omega))
        have hrd10 := hrd9.other (p := ⟨w6.heap.size, 2, none⟩) (by show w.heap.size + 1 + 1 < w6.heap.size; omega) (.slice (some ⟨g2, 0, none⟩) ks.length cap2)
        have B10 := B9.setCell (p := ⟨w6.heap.size, 2, none⟩) (by show w.heap.size ≤ w6.heap.size; omega) (.slice (some ⟨g2, 0, none⟩) ks.length cap2)
        have same10 : ∀ k, w3.heap.size ≤ k → k < w4.heap.size → (w9.setCell ⟨w6.heap.size, 2, none⟩ (.slice (some ⟨g2, 0, none⟩) ks.length cap2)).heap[k]? = w4.heap[k]? := fun k h1 h2 => (Below.heap_setCell _ _ _ _ (by show k ≠ w6.heap.size; omega)).trans (same9 k h1 h2)
        have hs10 : w8.heap.size ≤ (w9.setCell ⟨w6.heap.size, 2, none⟩ (.slice (some ⟨g2, 0, none⟩) ks.length cap2)).heap.size := by simpa using hs9
        go_wp2_with fail
        clear x9 t9 hY9 hZ9 HT9 hrd9 B9 hs9 same9 hrow9 x0' x1' x2' fx0 fx1 fx2
        generalize w9.setCell ⟨w6.heap.size, 2, none⟩ (.slice (some ⟨g2, 0, none⟩) ks.length cap2) = w10 at *
        obtain ⟨_, _, x2, _, _, _⟩ := x10.cells
        have hg10 := (row10.lt g2 rfl).2
        have CN := Lib.hid (num_any (w.heap.size + 1 + 1) 900002 w10.heap.size 3 3 [-1, 0, 1] (w10.alloc (.cells #[.int .i64 (-1), .int .i64 0, .int .i64 1] 3)).drew (hrd10.alloc _).drew (by omega) rfl (by omega) (by omega) (by omega) (num3 (w := (w10.alloc (.cells #[.int .i64 (-1), .int .i64 0, .int .i64 1] 3)).drew) (blk_new w10 _ rfl)))
        have key : ∀ wx : World, Only (w.heap.size + 1 + 1) (w10.alloc (.cells #[.int .i64 (-1), .int .i64 0, .int .i64 1] 3)).drew wx → BoxT wx w6.heap.size (.string s) (.int .i64 r) (.slice (some ⟨g2, 0, none⟩) ks.length cap2) ∧ BoxT wx (w4.heap.size + 1) (.string s) (.int .i64 r) (.slice (some ⟨gk, ok, none⟩) ks.length kc) ∧ BoxT wx w.heap.size (.string ⟨#[]⟩) (.int .i64 0) (.slice none 0 0) ∧ BoxT wx (w.heap.size + 1) (.string ⟨#[]⟩) (.int .i64 0) (.slice none 0 0) ∧ wx.ownsRow w8.heap.size 29 3 (.slice (some ⟨g2, 0, none⟩) ks.length cap2) ks.length (flatK ((s0, r0, x0) :: ut)) ∧ (∀ k, w3.heap.size ≤ k → k < w4.heap.size → wx.heap[k]? = w4.heap[k]?) ∧ Below w.heap.size w wx := fun wx ho =>
          have o : Only (w.heap.size + 1 + 1) w10 wx := (Only.of_below (((Below.refl w10.heap.size w10).alloc (Nat.le_refl _) (.cells #[.int .i64 (-1), .int .i64 0, .int .i64 1] 3)).drew)).trans ho
          ⟨x10.only o (by omega), t10.only o (by omega), hY10.only o (by omega), hZ10.only o (by omega), ownsRow_stay row10 (fun k hk => o.block k (row10.lt k hk).2 (by have := (row10.lt k hk).1; omega)), fun k h1 h2 => (o.block k (by omega) (by omega)).trans (same10 k h1 h2), B10.trans (o.below _ (by omega) (by have := B10.size; omega))⟩
        have KEY := Lib.hid key
        clear key t10 hY10 hZ10 row10 hrd10 B10 same10
        go_region_held3 (fun w' => w'.cell? ⟨w6.heap.size, 2, none⟩ = some (.slice (some ⟨g2, 0, none⟩) ks.length cap2))
          (first
            | go_keep
            | with_reducible exact k11
            | with_reducible exact k12
            | fail)
          (first
            | (go_at_call 68; (with_reducible refine CN.out.mono ?_); rintro e w11 ⟨z, rfl, hz, _, ho11⟩; have K11 := Lib.hid (KEY.out _ ho11); have k11 := K11.out.1.cells.2.2.1; have k12 : (w11.setCell ⟨g2, 1, none⟩ (.int .i64 z)).cell? ⟨w6.heap.size, 2, none⟩ = some (.slice (some ⟨g2, 0, none⟩) ks.length cap2) := (BoxT.cells ((Below.heap_setCell _ ⟨g2, 1, none⟩ (.int .i64 z) _ (show w6.heap.size ≠ g2 by omega)).trans K11.out.1)).2.2.1; obtain ⟨st0, fst0⟩ := row_cell K11.out.2.2.2.2.1; have HZ := Lib.hid hz; clear hz ho11)
            | fail)
        all_goals go_wp2_with fail
        have hzw : (Lit.int .i64 z).wf = true := by
          have hz := HZ.out
          simp only [List.mem_cons, List.not_mem_nil, or_false] at hz
          rcases hz with rfl | rfl | rfl <;> decide
        have hne : ∀ k, k ≠ g2 → (w11.setCell ⟨g2, 1, none⟩ (.int .i64 z)).heap[k]? = w11.heap[k]? := fun k hk => Below.heap_setCell _ _ _ _ hk
        have row12 := row_rule z K11.out.2.2.2.2.1
        have x12 : BoxT (w11.setCell ⟨g2, 1, none⟩ (.int .i64 z)) w6.heap.size (.string s) (.int .i64 r) (.slice (some ⟨g2, 0, none⟩) ks.length cap2) := (hne _ (by omega)).trans K11.out.1
        have t12 : BoxT (w11.setCell ⟨g2, 1, none⟩ (.int .i64 z)) (w4.heap.size + 1) (.string s) (.int .i64 r) (.slice (some ⟨gk, ok, none⟩) ks.length kc) := (hne _ (by omega)).trans K11.out.2.1
        have hY12 : BoxT (w11.setCell ⟨g2, 1, none⟩ (.int .i64 z)) w.heap.size (.string ⟨#[]⟩) (.int .i64 0) (.slice none 0 0) := (hne _ (by omega)).trans K11.out.2.2.1
        have hZ12 : BoxT (w11.setCell ⟨g2, 1, none⟩ (.int .i64 z)) (w.heap.size + 1) (.string ⟨#[]⟩) (.int .i64 0) (.slice none 0 0) := (hne _ (by omega)).trans K11.out.2.2.2.1
        have same12 : ∀ k, w3.heap.size ≤ k → k < w4.heap.size → (w11.setCell ⟨g2, 1, none⟩ (.int .i64 z)).heap[k]? = w4.heap[k]? := fun k h1 h2 => (hne _ (by omega)).trans (K11.out.2.2.2.2.2.1 k h1 h2)
        have B12 := K11.out.2.2.2.2.2.2.setCell (p := ⟨g2, 1, none⟩) (by show w.heap.size ≤ g2; omega) (.int .i64 z)
        have HA12 : TrP (w11.setCell ⟨g2, 1, none⟩ (.int .i64 z)) w3.heap.size (.agg #[.string s, .int .i64 r, .slice (some ⟨gk, ok, none⟩) ks.length kc]) (.node s r ks) := TrP.stay HTK.out (fun k hk hlt => same12 k hk hlt)
        obtain ⟨ks', HB12, hsz2⟩ := kids_moved (m := w.heap.size + 2) hlu hss hrw hzw hkid same12 (fun k hk => by omega) (by omega) row12
        clear K11 k11 k12 st0 fst0 KEY x2 row12 same12 hne x10
        generalize (w11.setCell ⟨g2, 1, none⟩ (.int .i64 z)) = w12 at *
        obtain ⟨m1, e0, e1, e2, e3, e4, e5⟩ := two_end hY12 hZ12 (TrP.mono HA12 (by omega)) HB12 hsz (by omega) B12
        have E0 := Lib.hid e0
        have E1 := Lib.hid e1
        have E2 := Lib.hid e2
        have E3 := Lib.hid e3
        have E4 := Lib.hid e4
        have E5 := Lib.hid e5
        have M1 := Lib.hid (MadeTT.drew m1)
        clear e0 e1 e2 e3 e4 e5 m1
        obtain ⟨t0, t1, t2, _, _, _⟩ := t12.cells
        obtain ⟨x0, x1, x2, _, _, _⟩ := x12.cells
        obtain ⟨y0, y1, y2, fy0, fy1, fy2⟩ := hY12.cells
        obtain ⟨z0, z1, z2, fz0, fz1, fz2⟩ := hZ12.cells
        have n4 : w.heap.size ≠ w4.heap.size + 1 := by omega
        have n5 : w.heap.size + 1 ≠ w4.heap.size + 1 := by omega
        go_region
        clear t0 t1 t2 x0 x1 x2 y0 y1 y2 z0 z1 z2 fy0 fy1 fy2 fz0 fz1 fz2
        go_wp2_with fail
        exact bodyPost_ret (v := .tuple #[.agg #[.string s, .int .i64 r, .slice (some ⟨gk, ok, none⟩) ks.length kc], .agg #[.string s, .int .i64 r, .slice (some ⟨g2, 0, none⟩) ks.length cap2]]) (by have e0 := E0.out; have e1 := E1.out; have e2 := E2.out; have e3 := E3.out; have e4 := E4.out; have e5 := E5.out; simp [results, Tryd.results32, go_sem, e0, e1, e2, e3, e4, e5]) rfl M1.out
      · have hqq : (q == 0) = false := by simpa using hq
        clear hq
        obtain ⟨m1, e0, e1, e2, e3, e4, e5⟩ := two_end hY8 hZ8 (TrP.mono HT8 (by omega)) (TrP.mono HT8 (by omega)) hsz (hsz) B8
        have E0 := Lib.hid e0
        have E1 := Lib.hid e1
        have E2 := Lib.hid e2
        have E3 := Lib.hid e3
        have E4 := Lib.hid e4
        have E5 := Lib.hid e5
        have M1 := Lib.hid (MadeTT.drew m1)
        clear e0 e1 e2 e3 e4 e5 m1
        obtain ⟨t0, t1, t2, _, _, _⟩ := t8.cells
        obtain ⟨x0, x1, x2, _, _, _⟩ := x8.cells
        obtain ⟨y0, y1, y2, fy0, fy1, fy2⟩ := hY8.cells
        obtain ⟨z0, z1, z2, fz0, fz1, fz2⟩ := hZ8.cells
        have n1 : w.heap.size ≠ w4.heap.size + 1 := by omega
        have n2 : w.heap.size + 1 ≠ w4.heap.size + 1 := by omega
        have n3 : w.heap.size ≠ w6.heap.size := by omega
        have n4 : w.heap.size + 1 ≠ w6.heap.size := by omega
        go_wp2_with fail
        go_region
        clear t0 t1 t2 x0 x1 x2 y0 y1 y2 z0 z1 z2 fy0 fy1 fy2 fz0 fz1 fz2
        go_wp2_with fail
        exact bodyPost_ret (v := .tuple #[.agg #[.string s, .int .i64 r, .slice ka ks.length kc], .agg #[.string s, .int .i64 r, .slice ka ks.length kc]]) (by have e0 := E0.out; have e1 := E1.out; have e2 := E2.out; have e3 := E3.out; have e4 := E4.out; have e5 := E5.out; simp [results, Tryd.results32, go_sem, e0, e1, e2, e3, e4, e5]) rfl M1.out
end Go.Proofs.YtpkejcjjbkgomaaDoor
namespace Go.Proofs.YtpkejcjjbkgomaaDoor
open Go.ChangeShapes Go.WideShapes Go.ChangeAt Go.RowKit Go.Deep
set_option maxRecDepth 100000
theorem run_none {w : World} (g kc : Nat) (ty : TypeId) : (Builtin.append_ #[27, 27] ty #[.slice (some ⟨g, 0, none⟩) 0 0, .slice none 0 kc]).run Tryd.prog w = .ok (.slice (some ⟨g, 0, none⟩) 0 0) w := by
  obtain ⟨i0, hi0, hzz⟩ := Option.map_eq_some_iff.1 infoTree3
  simp [Builtin.append_, run_underlying Tryd.underlying27, sizeOf, typeInfo, hi0, Builtin.lenOf, Builtin.firstCells, storeCells]
theorem list_append_kids {ops : Array Oper} {rest : List Oper} {o : Oper} {a : Act} {w : World} {Q : Exit → Act → World → Prop} (hgd : o.guard = none) (s x : Operand)
    (ho : o.op = .call { callee := .builtin .append, args := #[s, x], argTypes := #[27, 27] })
    (B g : Nat) (hs : a.eval s = .slice (some ⟨g, 0, none⟩) 0 0) (hown : w.ownsRow B 29 3 (.slice (some ⟨g, 0, none⟩) 0 0) 0 [])
    (ka : Option Addr) (m kc : Nat) (us : List Kid) (hx : a.eval x = .slice ka m kc) (hm : us.length = m) (hone : ∀ u ∈ us, ∃ a m c, u.2.2 = .slice a m c)
    (hrow : us = [] ∨ ∃ g off, ka = some ⟨g, off, none⟩ ∧ ∀ j y, (flatK us)[j]? = some y → w.cell? ⟨g, off + j, none⟩ = some y) (hk : m ≤ 488290) (hB : B ≤ w.heap.size)
    (h : ∀ g2 cap2 w', w'.ownsRow B 29 3 (.slice (some ⟨g2, 0, none⟩) m cap2) m (flatK us) → w.grownBy w' (some g) → (g2 = g ∨ g2 = w.heap.size) → wpList Tryd.prog ops Q rest (a.put o.dst (.slice (some ⟨g2, 0, none⟩) m cap2)) w') :
    wpList Tryd.prog ops Q (o :: rest) a w := by
  obtain ⟨i0, hi0, hzz⟩ := Option.map_eq_some_iff.1 infoTree3
  simp only [Prod.mk.injEq] at hzz
  obtain ⟨hz0, hz1, hz2⟩ := hzz
  cases ka with
  | none =>
    rcases hrow with rfl | ⟨_, _, e, _⟩
    · subst hm
      refine wpList_plain hgd fun K hK => ?_
      have hr := run_none (w := w) g kc o.type
      unfold Oper.wp execOp
      simp only [ho, resolve, invoke, builtin, Sem.run_bind, Sem.run_pure, Result.andThen_ok, List.map_toArray, List.map_cons, List.map_nil, hs, hx, List.length_nil, hr]
      exact hK _ _ (h g 0 w hown ⟨rfl, rfl, rfl, Nat.le_refl _, fun _ _ _ => rfl⟩ (.inl rfl))
    · cases e
  | some ad =>
    have hc : ∀ j y, (flatK us)[j]? = some y → w.cell? (ad.add j) = some y := by
      intro j y hj
      rcases hrow with rfl | ⟨gk, ok, e, hc⟩
      · simp [flatK] at hj
      · obtain rfl := Option.some.inj e
        rw [WideShapes.add_plain]
        exact hc j y hj
    refine wpList_append_own_at w hgd s x 27 ho B 29 i0 _ 3 48 Tryd.underlying27 hi0 hz0 hz1 hz2 rfl (by decide) (.slice (some ⟨g, 0, none⟩) 0 0) 0 [] hs hown ad m kc (flatK us) hx (by rw [flatK_len, hm]) hc (flatK_one us hone) (by unfold maxLen; omega) (by omega) hB ?_
    intro v' w' h1 h2 h3 h4
    rw [Nat.zero_add, List.nil_append] at h1
    rcases h1.2 with ⟨e1, e2⟩ | ⟨g2, c2, cur, e, hB2, hrest⟩
    · have := (h3.1 e1).1
      simp at this
    · subst e
      exact h g2 c2 w' h1 h2 (by simpa [Value.ownBlock] using h4)
theorem list_append_zero {ops : Array Oper} {rest : List Oper} {o : Oper} {a : Act} {w : World} {Q : Exit → Act → World → Prop} (hgd : o.guard = none) (s x : Operand)
    (ho : o.op = .call { callee := .builtin .append, args := #[s, x], argTypes := #[27, 27] })
    (B g m cap nb : Nat) (us : List Kid) (hs : a.eval s = .slice (some ⟨g, 0, none⟩) m cap) (hx : a.eval x = .slice (some ⟨nb, 0, none⟩) 1 1) (hown : w.ownsRow B 29 3 (.slice (some ⟨g, 0, none⟩) m cap) m (flatK us))
    (hnb : w.heap[nb]? = some (.cells #[.string ⟨#[]⟩, .int .i64 0, .slice none 0 0] 29)) (hk : m ≤ 488290) (hB : B ≤ w.heap.size)
    (h : ∀ g2 cap2 w', w'.ownsRow B 29 3 (.slice (some ⟨g2, 0, none⟩) (m + 1) cap2) (m + 1) (flatK (us ++ [(⟨#[]⟩, 0, .slice none 0 0)])) → w.grownBy w' (some g) → (g2 = g ∨ g2 = w.heap.size) → wpList Tryd.prog ops Q rest (a.put o.dst (.slice (some ⟨g2, 0, none⟩) (m + 1) cap2)) w') :
    wpList Tryd.prog ops Q (o :: rest) a w := by
  obtain ⟨i0, hi0, hzz⟩ := Option.map_eq_some_iff.1 infoTree3
  simp only [Prod.mk.injEq] at hzz
  obtain ⟨hz0, hz1, hz2⟩ := hzz
  refine wpList_append_own_at w hgd s x 27 ho B 29 i0 _ 3 48 Tryd.underlying27 hi0 hz0 hz1 hz2 rfl (by decide) (.slice (some ⟨g, 0, none⟩) m cap) m (flatK us) hs hown ⟨nb, 0, none⟩ 1 1 [.string ⟨#[]⟩, .int .i64 0, .slice none 0 0] hx rfl (fun j y hj => by
      rw [WideShapes.add_plain]
      match j, hj with
      | 0, hj => rw [cell_of_block hnb]; simpa using hj
      | 1, hj => rw [cell_of_block hnb]; simpa using hj
      | 2, hj => rw [cell_of_block hnb]; simpa using hj) (fun y hy => by
      simp only [List.mem_cons, List.not_mem_nil, or_false] at hy
      rcases hy with rfl | rfl | rfl <;> rfl) (by unfold maxLen; omega) (by omega) hB ?_
  intro v' w' h1 h2 _ h4
  have h1' : w'.ownsRow B 29 3 v' (m + 1) (flatK (us ++ [(⟨#[]⟩, 0, .slice none 0 0)])) := by rw [flatK_snoc]; exact h1
  rcases h1'.2 with ⟨_, e2⟩ | ⟨g2, c2, cur, e, _⟩
  · omega
  · subst e
    exact h g2 c2 w' h1' h2 (by simpa [Value.ownBlock] using h4)
/-- one kid more, a zero tree -/
theorem kids_more {w w' : World} {A : Nat → Prop} {m B : Nat} {s : ByteArray} {r : Int} {v : Value} {us : List Kid} {ks : List Tr} (hl : us.length = ks.length) (hs : s.size ≤ maxLen) (hr : (Lit.int .i64 r).wf = true)
    (hk : ∀ j (h : j < us.length), TrQ w A (kidVal us[j]) (ks[j]'(hl ▸ h))) (same : ∀ k, A k → k < w.heap.size → w'.heap[k]? = w.heap[k]?) (hA : ∀ k, A k → m ≤ k) (hB : m ≤ B)
    (row : w'.ownsRow B 29 3 v (ks.length + 1) (flatK (us ++ [(⟨#[]⟩, 0, .slice none 0 0)]))) : TrP w' m (.agg #[.string s, .int .i64 r, v]) (.node s r (ks ++ [.node ⟨#[]⟩ 0 []])) := by
  have hlen : (us ++ [((⟨#[]⟩, 0, .slice none 0 0) : Kid)]).length = ks.length + 1 := by simp [hl]
  refine TrQ.make (B := B) (us := us ++ [(⟨#[]⟩, 0, .slice none 0 0)]) hs hr ⟨by rw [hlen]; exact row, by rw [hlen]; simp, fun j hj => ?_⟩ (fun k hk => Nat.le_trans hB hk)
  by_cases h : j < us.length
  · have h' : j < ks.length := hl ▸ h
    rw [List.getElem_append_left h, List.getElem_append_left h']
    exact ((hk j h).stay (fun k hk hlt => same k hk hlt)).mono (fun k hk _ => hA k hk)
  · have e : j = us.length := by simp at hj; omega
    subst e
    simp only [List.getElem_concat_length, hl]
    exact ⟨⟨#[]⟩, 0, [], none, 0, fun _ => False, rfl, rfl, Nat.zero_le _, by decide, Nat.zero_le _, Nat.le_refl _, fun i hi => absurd hi (Nat.not_lt_zero _), fun i hi => absurd hi (Nat.not_lt_zero _), fun k hk => hk.elim⟩
theorem TrQ.ruled {w : World} {A : Nat → Prop} {s : ByteArray} {r z : Int} {v : Value} {ks : List Tr} (h : TrQ w A (.agg #[.string s, .int .i64 r, v]) (.node s r ks)) (hz : (Lit.int .i64 z).wf = true) : TrQ w A (.agg #[.string s, .int .i64 z, v]) (.node s z ks) := by
  obtain ⟨s', r', ps, a, cap, M, e1, e2, h1, h2, h3, h4, h5, h6, h7⟩ := h
  simp only [Value.agg.injEq, Array.mk.injEq, List.cons.injEq, Value.string.injEq, Value.int.injEq, true_and, and_true] at e1
  obtain ⟨rfl, rfl, rfl⟩ := e1
  simp only [Tr.node.injEq, true_and] at e2
  exact ⟨s, z, ps, a, cap, M, rfl, by rw [e2], h1, hz, h3, h4, h5, h6, h7⟩
theorem wrap_more {r : Int} (h : (Lit.int .i64 r).wf = true) : (Lit.int .i64 (wrap64 (r + 1))).wf = true ∧ wrap64 (r + 1) ≠ r := by
  have hr : -9223372036854775808 ≤ r ∧ r ≤ 9223372036854775807 := by
    simp only [Lit.wf, Bool.and_eq_true, decide_eq_true_eq] at h
    exact h
  have e : wrap64 (r + 1) = if r = 9223372036854775807 then -9223372036854775808 else r + 1 := by
    unfold wrap64
    split <;> omega
  rw [e]
  split
  · exact ⟨by decide, by omega⟩
  · refine ⟨?_, by omega⟩
    simp only [Lit.wf, Bool.and_eq_true, decide_eq_true_eq]
    show -9223372036854775808 ≤ r + 1 ∧ r + 1 ≤ 9223372036854775807
    omega
end Go.Proofs.YtpkejcjjbkgomaaDoor
