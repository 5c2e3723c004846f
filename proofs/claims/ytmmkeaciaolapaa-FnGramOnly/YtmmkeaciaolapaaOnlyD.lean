/- The draw of a grammar and of places. -/
import Derived.Test.YtmmkeaciaolapaaOnlyC
namespace Go.Proofs.Ytmmkeaciaolapaa
open Go.ChangeShapes Go.WideShapes Go.ChangeAt Go.RowKit
set_option maxRecDepth 100000
theorem infoInt : (Try.prog.info? 3).map (fun i => (i.zero, i.size, i.bytes)) = some (some (.int .i64 0), 1, 8) := by kernel_rfl
def intCells (zs : List Int) : List Value := zs.map (Value.int .i64)
/-- numbers of the call's own -/
def OwnZ (w : World) (B : Nat) (v : Value) (zs : List Int) : Prop := (∃ g cap, v = .slice (some ⟨g, 0, none⟩) zs.length cap) ∧ w.ownsRow B 3 1 v zs.length (intCells zs)
theorem OwnZ.row {w : World} {B : Nat} {v : Value} {zs : List Int} (h : OwnZ w B v zs) : ∀ k, v.ownBlock = some k → B ≤ k := by
  intro k hk
  rcases h.2.2 with ⟨hv, _⟩ | ⟨g, _, _, hv, hg, _⟩
  · rw [hv] at hk; simp [Value.ownBlock] at hk
  · rw [hv] at hk; simp [Value.ownBlock] at hk; omega
theorem OwnZ.keep {w w' : World} {B : Nat} {v : Value} {zs : List Int} (h : OwnZ w B v zs) (hk : ∀ g, B ≤ g → g < w.heap.size → w'.heap[g]? = w.heap[g]?) : OwnZ w' B v zs := by
  refine ⟨h.1, h.2.1, ?_⟩
  rcases h.2.2 with h0 | ⟨g, cap, cur, hv, hg, hh, hl, hm, hs, ht⟩
  · exact .inl h0
  · exact .inr ⟨g, cap, cur, hv, hg, by rw [hk g hg (Array.getElem?_eq_some_iff.1 hh).1]; exact hh, hl, hm, hs, ht⟩
theorem OwnZ.at {w : World} {B : Nat} {v : Value} {zs : List Int} (h : OwnZ w B v zs) (hl : zs.length ≤ 1000) : ∃ g cap, v = .slice (some ⟨g, 0, none⟩) zs.length cap ∧ B ≤ g ∧ IntsAt w (some ⟨g, 0, none⟩) zs := by
  obtain ⟨⟨g, cap, rfl⟩, _, h2⟩ := h
  rcases h2 with ⟨h0, _⟩ | ⟨g', cap', cur, hv, hg, hh, hlc, hm, hs, ht⟩
  · cases h0
  · simp only [Value.slice.injEq, Option.some.injEq, Addr.mk.injEq] at hv
    obtain ⟨⟨rfl, _⟩, _, rfl⟩ := hv
    refine ⟨g, cap, rfl, hg, by unfold maxLen; omega, fun i hi => ⟨g, 0, rfl, (Array.getElem?_eq_some_iff.1 hh).1, ?_⟩⟩
    rw [cell_of_block hh (0 + i)]
    have e : cur.toList[i]? = some (.int .i64 zs[i]) := by
      have := congrArg (fun l => l[i]?) ht
      simp only [intCells, List.getElem?_map, List.getElem?_take] at this
      rw [if_pos (by omega)] at this
      rw [this]; simp [hi]
    simpa using e
theorem Rdk.to {w w' : World} {R k : Nat} (h : Rdk w R k) (hb : Below (R + 1) w w') : Rdk w' R k := by
  have hlt := h.lt
  obtain ⟨a, n, cap, p, h1, h2, h3, h4⟩ := h
  refine ⟨a, n, cap, p, by rw [hb.block R (Nat.lt_succ_self _)]; exact h1, h2, h3, fun i hi => ?_⟩
  obtain ⟨b, off, x, e, hbl, hc, hx⟩ := h4 i hi
  exact ⟨b, off, x, e, hbl, by rw [hb.cell (p := ⟨b, _, none⟩) (Nat.lt_succ_of_lt hbl)]; exact hc, hx⟩
def DrawRel (j : Nat) (v : Value) (w wr : World) : Prop := ∃ zs, OwnZ wr (w.heap.size + 2) v zs ∧ zs.length + j ≤ 4 ∧ Rdk wr (w.heap.size + 1) (1 + (4 - j)) ∧ BoxG wr w.heap.size (.string ⟨#[]⟩) (.slice none 0 0) ∧ Below w.heap.size w wr
def MadeGI (m : Nat) (w : World) (e : Ending) (w' : World) : Prop := ∃ v st rs g zs cap, e = .returned (.tuple #[v, .slice (some ⟨g, 0, none⟩) zs.length cap]) ∧ GramVal w' w.heap.size m v st rs ∧ IntsAt w' (some ⟨g, 0, none⟩) zs ∧ zs.length ≤ 4 ∧ Below w.heap.size w w'
set_option maxHeartbeats 2000000 in
theorem drawGramOnly_any (a : Option Addr) (n cap : Nat) (w : World) (H : BytesAt w a n cap) :
    Calls Try.prog 36 #[.slice a n cap] w (MadeGI 10 w) := by
  obtain ⟨i0, hi0, hz0, hz1, hz2⟩ := info_parts infoInt
  go_enter Try.func36, Try.ntmps36
  go_wp2_with fail
  have hZ : BoxG (w.alloc (.cells #[.string ⟨#[]⟩, .slice none 0 0] 25)) w.heap.size (.string ⟨#[]⟩) (.slice none 0 0) := blk_new _ _ rfl
  refine (l17Open_any a n cap _ (H.alloc _)).mono ?_
  rintro e w2 ⟨rfl, hrd2, hb2⟩
  have hZ2 := hZ.below hb2
  have hB2 : Below w.heap.size w w2 := ((Below.refl _ _).alloc (Nat.le_refl _) _).trans (hb2.mono (by simp))
  simp only [World.size_alloc] at hrd2
  have hlt2 := hrd2.lt
  clear hZ hb2
  go_wp2_with fail
  refine (pick_any (w.heap.size + 1) 0 5 _ (hrd2.alloc _) (by omega) (by omega) (by omega)).mono ?_
  rintro e w3 ⟨v3, rfl, ⟨hv0, hv1, _⟩, hrd3, ho3⟩
  have hv2 : v3 < 5 := hv1 (by omega)
  have hZ3 := (hZ2.old (.cells #[] 3)).only ho3 (by omega)
  have hB3 : Below w.heap.size w w3 := (hB2.alloc hB2.size _).trans (ho3.below _ (by omega) (by have := hB2.size; simp; omega))
  have hown3 : OwnZ w3 (w.heap.size + 2) (.slice (some ⟨w2.heap.size, 0, none⟩) 0 0) [] :=
    ⟨⟨_, _, rfl⟩, rfl, .inr ⟨w2.heap.size, 0, #[], rfl, by omega, by rw [ho3.block w2.heap.size (by simp) (by omega)]; exact blk_new _ _ rfl, Nat.le_refl _, Nat.zero_le _, rfl, rfl⟩⟩
  obtain ⟨j3, rfl⟩ : ∃ j : Nat, v3 = (j : Int) := ⟨v3.toNat, by omega⟩
  clear hZ2 hB2 hrd2 ho3 hv0 hv1
  go_wp2
  go_loopw [5, 6] (fun v i wr => ∃ j : Nat, i = .int .i64 j ∧ DrawRel j v w wr) (fun _ i _ => (intOf i).toNat)
  case atStart => exact ⟨j3, rfl, [], hown3, by simp; omega, hrd3.mono (by omega), hZ3, hB3⟩
  case round =>
    obtain ⟨j, rfl, zs, hown, hlz, hrd, hZr, hb⟩ := hrel
    by_cases hj : j = 0
    · subst hj
      obtain ⟨g, cp, rfl, hgB, hI⟩ := hown.at (by omega)
      have hltr := hrd.lt
      go_wp2_with fail
      refine (l1Gram_any (w.heap.size + 1) (1 + (4 - 0)) wr hrd (by omega)).mono ?_
      rintro e w5 ⟨v5, st5, rs5, rfl, ⟨b5, off5, cap5, rfl, hc5, hR5, hl5, hs5, hS5, hb5⟩, hrd5, ho5⟩
      have hlt5 := hrd5.lt
      go_wp2_with fail
      refine (l1Bent_any (w.heap.size + 1) (1 + (4 - 0) + 100) 6 b5 off5 cap5 st5 rs5 w5 hrd5 (by omega) hR5 hl5 (by omega) (by omega) hs5 hS5).mono ?_
      rintro e w6 ⟨v6, st6, rs6, rfl, ⟨b6, off6, cap6, rfl, hc6, hR6, hl6, hs6, hS6, hb6⟩, hrd6, ho6⟩
      have ho := ho5.trans ho6
      have hsz5 := ho5.size
      obtain ⟨z0, z1, zf0, zf1⟩ := (hZr.only ho (by omega)).cells
      have hB6 : Below w.heap.size w w6 := hb.trans (ho.below _ (by omega) hb.size)
      have hI6 : IntsAt w6 (some ⟨g, 0, none⟩) zs := ⟨hI.1, fun i hi => by
        obtain ⟨b', off', e, hl, hc⟩ := hI.2 i hi
        cases e
        exact ⟨g, 0, rfl, Nat.lt_of_lt_of_le hl ho.size, by rw [ho.cell (p := ⟨g, _, none⟩) hl (by show g ≠ _; omega)]; exact hc⟩⟩
      have hI7 : IntsAt ((w6.setCell ⟨w.heap.size, 0, none⟩ (.string st6)).setCell ⟨w.heap.size, 1, none⟩ (.slice (some ⟨b6, off6, none⟩) rs6.length cap6)) (some ⟨g, 0, none⟩) zs := ⟨hI6.1, fun i hi => by
        obtain ⟨b', off', e, hl, hc⟩ := hI6.2 i hi
        cases e
        exact ⟨g, 0, rfl, by simpa using hl, by
          rw [World.cell?_of_block (w := w6) ((Below.heap_setCell _ _ _ _ (by show g ≠ w.heap.size; omega)).trans (Below.heap_setCell _ _ _ _ (by show g ≠ w.heap.size; omega)))]
          exact hc⟩⟩
      clear hrd5 hrd6 hR5 hS5 hrd hZr
      go_wp2
      refine bodyPost_ret (v := .tuple #[.agg #[.string st6, .slice (some ⟨b6, off6, none⟩) rs6.length cap6], .slice (some ⟨g, 0, none⟩) zs.length cp]) (by simp [results, Try.results36, go_sem, z0, z1]) rfl ?_
      obtain ⟨v, st, rs, e, hv, hbz⟩ := wrap_end (w := w) (m := 10) (wz := w6) (st := st6) (rs := rs6) ⟨b6, off6, cap6, rfl, hc6, hR6, hl6, hs6, hS6, by omega⟩ hB6
      cases e
      exact ⟨_, st, rs, g, zs, cp, rfl, hv, hI7, by omega, hbz⟩
    · have hj0 : (0 : Int) < (j : Int) := by omega
      obtain ⟨g, cp, rfl⟩ := hown.1
      have hltr := hrd.lt
      obtain ⟨m, rfl⟩ : ∃ m, j = m + 1 := ⟨j - 1, by omega⟩
      clear hj
      go_wp2_with fail
      refine (num_any (w.heap.size + 1) (1 + (4 - (m + 1))) wr.heap.size 7 _ [0, 1, 2, 3, 1, -1, 9] _ (hrd.alloc _) (by omega) rfl (by omega) (by omega) (by omega) (lit_ints wr [0, 1, 2, 3, 1, -1, 9] _)).mono ?_
      rintro e w5 ⟨x, rfl, _, hrd5, ho5⟩
      have ho5' : Only (w.heap.size + 1) wr w5 := (Only.of_below ((Below.refl _ _).alloc (Nat.le_refl _) _)).trans ho5
      have hown5 := hown.keep (w' := w5.alloc (.cells #[.int .i64 x] 3)) (fun q hq hlt => (Below.heap_alloc w5 _ q (Nat.lt_of_lt_of_le hlt ho5'.size)).trans (ho5'.block q hlt (by omega)))
      have hZ5 := (hZr.only ho5' (by omega)).old (.cells #[.int .i64 x] 3)
      have hb5 : Below w.heap.size w (w5.alloc (.cells #[.int .i64 x] 3)) := (hb.trans (ho5'.below _ (by omega) hb.size)).alloc (hb.trans (ho5'.below _ (by omega) hb.size)).size _
      have hrd6 := hrd5.alloc (.cells #[.int .i64 x] 3)
      have hsz5 := ho5'.size
      clear hrd5 ho5 ho5' hown hrd hZr hb
      go_wp2_with (at_builtin; refine wpList_append_own _ rfl _ _ 36 rfl (w.heap.size + 2) 3 i0 (.int .i64 0) 1 8 Try.underlying36 hi0 hz0 hz1 hz2 rfl (by decide) (.slice (some ⟨g, 0, none⟩) zs.length cp) zs.length (intCells zs) rfl hown5.2 ⟨w5.heap.size, 0, none⟩ 1 1 [.int .i64 x] rfl rfl ?c1 ?c2 ?c3 ?c4 ?c5 ?_)
      case c1 =>
        intro q u hq
        match q, hq with
        | 0, hq => simp at hq; subst hq; simp [Addr.add]
      case c2 => intro u hu; simp at hu; subst hu; rfl
      case c3 => unfold maxLen; omega
      case c4 => omega
      case c5 => simp; omega
      intro v' w6 h1 h2 h3
      have hbR := (Below.refl (w.heap.size + 1 + 1) _).grown h2 (by simp; omega) hown5.row
      have hrd7 := hrd6.to hbR
      have hZ7 : BoxG w6 w.heap.size (.string ⟨#[]⟩) (.slice none 0 0) := (hbR.block w.heap.size (by omega)).trans hZ5
      have hb7 : Below w.heap.size w w6 := hb5.trans (hbR.mono (by omega))
      rcases h1.2 with ⟨h0, _⟩ | ⟨g', cp', cur, hv', _⟩
      · exact absurd h0 h3
      subst hv'
      have hR : DrawRel m (.slice (some ⟨g', 0, none⟩) (zs.length + 1) cp') w w6 := ⟨zs ++ [x], ⟨⟨g', cp', by simp⟩, by simpa [intCells] using h1⟩, by simp; omega, hrd7.mono (by omega), hZ7, hb7⟩
      clear h1 h2 h3 hbR hrd7 hZ7 hb7 hrd6 hZ5 hb5 hown5
      go_wp2
      go_roundw
      case rel => exact ⟨m, by go_num, hR⟩
      case measure => simp [intOf]
end Go.Proofs.Ytmmkeaciaolapaa
