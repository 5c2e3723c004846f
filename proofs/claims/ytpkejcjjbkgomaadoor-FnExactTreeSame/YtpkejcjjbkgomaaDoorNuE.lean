/- The contract of the program's TreeSame. -/
import Derived.Test.YtpkejcjjbkgomaaDoorNuB
import Derived.Test.YtpkejcjjbkgomaaDoorNsA
import Derived.Lib.LaidTab
namespace Go.Proofs.YtpkejcjjbkgomaaDoor
open Go.ChangeShapes Go.WideShapes Go.ChangeAt Go.RowKit Go.Deep
set_option maxRecDepth 100000
theorem tabIs_name {W : World} {n n' : String} {k : IntKind} {zs : List Int} (h : Lib.TabIs Tryd.prog W n k zs) (e : Tryd.prog.globalNamed n' = Tryd.prog.globalNamed n) : Lib.TabIs Tryd.prog W n' k zs := by
  unfold Lib.TabIs World.var? at *
  rw [e]
  exact h
/-- the table of powers stands third on the row's list -/
theorem pow_third {W : World} {n1 n2 n3 : String} {d1 d2 : DataW Unit} (h : laidMet Tryd.prog [(n1, d1), (n2, d2), (n3, Lib.tabData .u64 Lib.pow10Tab)] W) (hg : Tryd.prog.globalNamed n3 = some 0)
    (hty : (Tryd.prog.globals[0]?).map (·.type) = some 205) (hce : Tryd.prog.cellsOf 197 = 1) (hct : Tryd.prog.cellsOf 205 = 20) : PowB W.heap.size W := by
  obtain ⟨ps, ⟨g1, t1, cs1, f1, p1, q1, _, _, _, _, ⟨g2, t2, cs2, f2, p2, q2, _, _, _, _, ⟨g', t', cs, fuel, p, q, hg', ht', hvar, hd, _, _⟩, _⟩, _⟩, _⟩ := h
  obtain rfl := Option.some.inj (hg.symm.trans hg')
  obtain rfl := Option.some.inj (hty.symm.trans ht')
  have h3 : Lib.TabIs Tryd.prog W n3 .u64 Lib.pow10Tab := by
    unfold Lib.TabIs
    rw [hvar, ← Lib.cells_of_tab Tryd.underlying205 Tryd.underlying197 hce hct hd]
  intro name e
  exact Lib.tabBelow_of_tabIs (tabIs_name h3 (e.trans hg.symm))
/-- where two trees stand is one place just if they are one -/
theorem place_eq {L : List Tr} (hn : L.Nodup) {i j : Nat} {A B : Tr} (hi : L[i]? = some A) (hj : L[j]? = some B) : (((i : Nat) : Int) == ((j : Nat) : Int)) = sameT A B := by
  by_cases h : A = B
  · subst h
    rw [sameT_true rfl, place_one hn hi hj]
    simp
  · rw [sameT_false h]
    have : i ≠ j := by
      rintro rfl
      rw [hi] at hj
      exact h (Option.some.inj hj)
    simp
    omega
set_option maxHeartbeats 2000000 in
theorem treeSame_any (A B : Tr) (va vb : Value) (w : World) (B0 B1 : Nat) (HA : TrP w B0 va A) (HB : TrP w B1 vb B) (hA : A.sz ≤ 2000000) (hB : B.sz ≤ 2000000) (hAB : 2 * A.sz + 2 * B.sz ≤ 4000000) (hp : PowB w.heap.size w) :
    Calls Tryd.prog 15 #[va, vb] w fun e w' => e = .returned (.bool (sameT A B)) ∧ Below w.heap.size w w' := by
  obtain ⟨s, r, ks, a, cap, rfl, hTe, _⟩ := HA.tr.open
  clear hTe
  obtain ⟨s', r', ks', a', cap', rfl, hTe, _⟩ := HB.tr.open
  clear hTe
  have hb2 := ((Below.refl w.heap.size w).alloc (Nat.le_refl _) (.cells #[.string s, .int .i64 r, .slice a ks.length cap] 29)).alloc (by simp) (.cells #[.string s', .int .i64 r', .slice a' ks'.length cap'] 29)
  have hX : BoxT ((w.alloc (.cells #[.string s, .int .i64 r, .slice a ks.length cap] 29)).alloc (.cells #[.string s', .int .i64 r', .slice a' ks'.length cap'] 29)) w.heap.size (.string s) (.int .i64 r) (.slice a ks.length cap) := (blk_old _ _ (by simp)).trans (blk_new _ _ rfl)
  have hY : BoxT ((w.alloc (.cells #[.string s, .int .i64 r, .slice a ks.length cap] 29)).alloc (.cells #[.string s', .int .i64 r', .slice a' ks'.length cap'] 29)) (w.heap.size + 1) (.string s') (.int .i64 r') (.slice a' ks'.length cap') := blk_new _ _ (by simp)
  have HA2 := HA.keep hb2
  have HB2 := HB.keep hb2
  obtain ⟨o0, o1, o2, of0, of1, of2⟩ := hX.cells
  obtain ⟨p0, p1, p2, pf0, pf1, pf2⟩ := hY.cells
  have CE1 := Lib.hid (endless_any A _ _ B0 HA2 hA)
  go_enter Tryd.func15, Tryd.ntmps15
  go_wp2_with fail
  refine CE1.out.mono ?_
  rintro e w3 ⟨rfl, hb3⟩
  have c3 := hb2.trans (hb3.mono hb2.size)
  have X3 := hX.below hb3
  have Y3 := hY.below hb3
  have HA3 := HA.keep c3
  have HB3 := HB.keep c3
  clear o0 o1 o2 of0 of1 of2 p0 p1 p2 pf0 pf1 pf2 hb2 hb3 hX hY HA2 HB2 CE1
  obtain ⟨o0, o1, o2, of0, of1, of2⟩ := X3.cells
  obtain ⟨p0, p1, p2, pf0, pf1, pf2⟩ := Y3.cells
  have CE2 := Lib.hid (endless_any B _ _ B1 HB3 hB)
  go_wp2_with fail
  refine CE2.out.mono ?_
  rintro e w4 ⟨rfl, hb4⟩
  have c4 := c3.trans (hb4.mono c3.size)
  have X4 := X3.below hb4
  have Y4 := Y3.below hb4
  clear o0 o1 o2 of0 of1 of2 p0 p1 p2 pf0 pf1 pf2 c3 hb4 X3 Y3 HA3 HB3 CE2
  go_wp2_with fail
  refine (newNodeTable_any w4).mono ?_
  rintro e w5 ⟨rfl, ht5, hb5⟩
  have c5 := c4.trans (hb5.mono c4.size)
  have X5 : BoxT w5 w.heap.size (.string s) (.int .i64 r) (.slice a ks.length cap) := X4.below hb5
  have Y5 : BoxT w5 (w.heap.size + 1) (.string s') (.int .i64 r') (.slice a' ks'.length cap') := Y4.below hb5
  have lX : w.heap.size < w4.heap.size := (Array.getElem?_eq_some_iff.1 X4).1
  have lY : w.heap.size + 1 < w4.heap.size := (Array.getElem?_eq_some_iff.1 Y4).1
  have QA : TrQ w5 (fun k => k < w4.heap.size) (.agg #[.string s, .int .i64 r, .slice a ks.length cap]) A := TrQ.stay (TrQ.mono (HA.keep c4) (fun k _ hk => hk)) (fun k hk _ => hb5.block k hk)
  have QB : TrQ w5 (fun k => k < w4.heap.size) (.agg #[.string s', .int .i64 r', .slice a' ks'.length cap']) B := TrQ.stay (TrQ.mono (HB.keep c4) (fun k _ hk => hk)) (fun k hk _ => hb5.block k hk)
  have P5 : PowB w4.heap.size w5.drew := ((hp.on c4).up c4.size).on ((hb5).trans (Below.refl _ _).drew)
  have hs5 := hb5.size
  have C1 := indexOf_any A (.agg #[.string s, .int .i64 r, .slice a ks.length cap]) w5.drew [w4.heap.size, w4.heap.size + 1] (w4.heap.size + 1) w4.heap.size [] (TrQ.stay QA (fun _ _ _ => rfl)) hA (ht5.keep (Nat.le_refl _) (fun _ _ => rfl)) List.nodup_nil (fun k hk => by simp at hk; omega) P5 hs5 (by simp; omega)
  have C2 : ∀ (w6 : World) (S' : List Nat) (X : List Tr), TabM w6 S' (w4.heap.size + 1) X → X.Nodup → X.length ≤ 2 * A.sz → Apart [w4.heap.size, w4.heap.size + 1] S' w5.drew w6 → Calls Tryd.prog 48 #[.pointer (some ⟨w4.heap.size + 1, 0, none⟩), .agg #[.string s', .int .i64 r', .slice a' ks'.length cap']] w6 fun e w' => ∃ j Y, e = .returned (.int .i64 ((j : Nat) : Int)) ∧ (X ++ Y).Nodup ∧ (X ++ Y)[j]? = some B ∧ Below w4.heap.size w5.drew w' := by
    intro w6 S' X h1 h2 h3 h4
    have old : ∀ k, k < w4.heap.size → w6.heap[k]? = w5.heap[k]? := fun k hk => h4.block k (by show k < w5.heap.size; omega) (fun hm => by simp at hm; omega)
    have hs6 : w5.heap.size ≤ w6.heap.size := h4.size
    have b6 : Below w4.heap.size w5.drew w6 := ⟨h4.os, h4.tape, h4.output, h4.size, fun k hk => old k hk⟩
    refine (indexOf_any B (.agg #[.string s', .int .i64 r', .slice a' ks'.length cap']) w6 S' (w4.heap.size + 1) w4.heap.size X (TrQ.stay QB (fun k hk _ => old k hk)) hB h1 h2 (fun k hk => ?_) (P5.on b6) (by omega) (by omega)).mono ?_
    · rcases h4.own k hk with h | h
      · simp at h; omega
      · have : w5.heap.size ≤ k := h.1
        omega
    · rintro e w' ⟨j, Y, S2, rfl, _, n1, j1, a1, _⟩
      refine ⟨j, Y, rfl, n1, j1, ?_⟩
      refine b6.trans ⟨a1.os, a1.tape, a1.output, a1.size, fun k hk => a1.block k (by omega) (fun hm => ?_)⟩
      rcases h4.own k hm with h | h
      · simp at h; omega
      · have : w5.heap.size ≤ k := h.1
        omega
  have keep6B : ∀ (w6 : World), Below w4.heap.size w5.drew w6 → w6.cell? ⟨w.heap.size, 0, none⟩ = some (.string s) ∧ w6.cell? ⟨w.heap.size, 1, none⟩ = some (.int .i64 r) ∧ w6.cell? ⟨w.heap.size, 2, none⟩ = some (.slice a ks.length cap) ∧ w6.cell? ⟨w.heap.size + 1, 0, none⟩ = some (.string s') ∧ w6.cell? ⟨w.heap.size + 1, 1, none⟩ = some (.int .i64 r') ∧ w6.cell? ⟨w.heap.size + 1, 2, none⟩ = some (.slice a' ks'.length cap') := by
    intro w6 h4
    have old : ∀ k, k < w4.heap.size → w6.heap[k]? = w5.heap[k]? := fun k hk => h4.block k hk
    have X6 : BoxT w6 w.heap.size (.string s) (.int .i64 r) (.slice a ks.length cap) := (old _ lX).trans X5
    have Y6 : BoxT w6 (w.heap.size + 1) (.string s') (.int .i64 r') (.slice a' ks'.length cap') := (old _ lY).trans Y5
    obtain ⟨u0, u1, u2, _, _, _⟩ := X6.cells
    obtain ⟨v0, v1, v2, _, _, _⟩ := Y6.cells
    exact ⟨u0, u1, u2, v0, v1, v2⟩
  have apB : ∀ (w6 : World) (S' : List Nat), Apart [w4.heap.size, w4.heap.size + 1] S' w5.drew w6 → Below w4.heap.size w5.drew w6 := fun w6 S' h4 => ⟨h4.os, h4.tape, h4.output, h4.size, fun k hk => h4.block k (by show k < w5.heap.size; omega) (fun hm => by simp at hm; omega)⟩
  have BWh : Hid (∀ w' : World, Below w4.heap.size w5.drew w' → Below w.heap.size w w') := fun w' h => (c5.trans (Below.refl w.heap.size w5).drew).trans (h.mono (by omega))
  have APh := Lib.hid apB
  have C1h := Lib.hid (C1.mono (R' := fun e w' => ∃ i X S', e = .returned (.int .i64 ((i : Nat) : Int)) ∧ TabM w' S' (w4.heap.size + 1) X ∧ X.Nodup ∧ X[i]? = some A ∧ Apart [w4.heap.size, w4.heap.size + 1] S' w5.drew w' ∧ X.length ≤ 2 * A.sz) (fun e w' h => by simpa using h))
  have C2h := Lib.hid C2
  have K6h := Lib.hid keep6B
  obtain ⟨o0, o1, o2, of0, of1, of2⟩ := X5.cells
  obtain ⟨p0, p1, p2, pf0, pf1, pf2⟩ := Y5.cells
  clear C1 C2 keep6B apB QA QB P5 hs5 ht5 hb5 c4 c5 X4 Y4 X5 Y5 HA HB hp
  go_wp2_with fail
  go_region_held3 (fun w' => w'.cell? ⟨w.heap.size, 0, none⟩ = some (.string s) ∧ w'.cell? ⟨w.heap.size, 1, none⟩ = some (.int .i64 r) ∧ w'.cell? ⟨w.heap.size, 2, none⟩ = some (.slice a ks.length cap) ∧ w'.cell? ⟨w.heap.size + 1, 0, none⟩ = some (.string s') ∧ w'.cell? ⟨w.heap.size + 1, 1, none⟩ = some (.int .i64 r') ∧ w'.cell? ⟨w.heap.size + 1, 2, none⟩ = some (.slice a' ks'.length cap'))
    (first
      | go_keep
      | with_reducible exact hk6
      | with_reducible exact hk7
      | fail)
    (first
      | (go_at_call 48; (with_reducible refine C1h.out.mono ?_); rintro e w6 ⟨i, X, S', rfl, ht6, hn6, hi6, ha6, hl6⟩; have hk6 := K6h.out _ (APh.out _ _ ha6); have HH6 := Lib.hid (And.intro ht6 (And.intro hn6 (And.intro hl6 (And.intro ha6 hi6)))); clear ht6 hn6 hl6 ha6 hi6)
      | (go_at_call 48; (with_reducible refine (C2h.out w6 S' X HH6.out.1 HH6.out.2.1 HH6.out.2.2.1 HH6.out.2.2.2.1).mono ?_); rintro e w7 ⟨j, Y, rfl, hn7, hj7, hb7⟩; have HEQ := Lib.hid (place_eq hn7 (place_more Y HH6.out.2.2.2.2) hj7); have HB7 := Lib.hid (BWh.out _ hb7); have hk7 := K6h.out _ hb7; clear hn7 hj7 hb7)
      | fail)
  go_wp2_with fail
  go_ret
  exact ⟨by rw [← HEQ.out]; rfl, HB7.out⟩
end Go.Proofs.YtpkejcjjbkgomaaDoor
