/- What the draws of edits give: the contracts of DrawEditDo, DrawEditBack, DrawEditsDo, DrawEditsFar. -/
import Derived.Test.YtiejfbodcjckeaaEdI
import Derived.Test.YtiejfbodcjckeaaEdF
import Derived.Test.YtiejfbodcjckeaaFaA
namespace Go.Proofs.Ytiejfbodcjckeaa
open Go.ChangeShapes Go.WideShapes Go.ChangeAt Go.RowKit
set_option maxRecDepth 100000
/-- a text and an edit were drawn -/
def DrawnDo (w : World) (e : Ending) (w' : World) : Prop := ∃ s z a g, e = .returned (.tuple #[.string s, .agg #[.int .i64 z, .int .i64 a, .string g]]) ∧ s.size ≤ 100 ∧ EditWf (z, a, g) ∧ g.size ≤ 2 ∧ Below w.heap.size w w'
/-- a text and edits were drawn -/
def DrawnDos (w : World) (e : Ending) (w' : World) : Prop := ∃ s g cap xs, e = .returned (.tuple #[.string s, .slice (some ⟨g, 0, none⟩) xs.length cap]) ∧ s.size ≤ 100 ∧ EditsAt w' (some ⟨g, 0, none⟩) xs ∧ xs.length ≤ 13 ∧ Below w.heap.size w w'
/-- two texts were drawn -/
def DrawnFar (w : World) (e : Ending) (w' : World) : Prop := ∃ s t, e = .returned (.tuple #[.string s, .string t]) ∧ s.size ≤ 100 ∧ t.size ≤ 100 ∧ Below w.heap.size w w'
set_option maxHeartbeats 1000000 in
theorem drawEditDo_any (a : Option Addr) (n cap : Nat) (w : World) (H : BytesAt w a n cap) :
    Calls Try.prog 34 #[.slice a n cap] w (DrawnDo w) := by
  have H1 := H.alloc (.cells #[.int .i64 0, .int .i64 0, .string ⟨#[]⟩] 27)
  have X1 := EdAt.new w 0 0 ⟨#[]⟩ 27
  have B1 := (Below.refl w.heap.size w).alloc (Nat.le_refl _) (.cells #[.int .i64 0, .int .i64 0, .string ⟨#[]⟩] 27)
  go_enter Try.func34, Try.ntmps34
  go_wp2_with fail
  refine (l17Open_any a n cap _ H1).mono ?_
  rintro e w2 ⟨rfl, r2, hb2⟩
  have X2 := X1.keep hb2 (Nat.le_refl _)
  have B2 := below_on B1 hb2 (Nat.le_refl _)
  have hRs : (w.alloc (.cells #[.int .i64 0, .int .i64 0, .string ⟨#[]⟩] 27)).heap.size = w.heap.size + 1 := by simp
  rw [hRs] at r2
  simp only [hRs]
  clear X1 B1 hb2 H1 hRs
  have hXR : w.heap.size ≠ w.heap.size + 1 := by omega
  go_wp2_with fail
  refine (num_any (w.heap.size + 1) 0 w2.heap.size 6 _ [3, 5, 0, 1, 8, 20] _ (r2.alloc _) (by omega) rfl (by omega) (by omega) (by have := r2.lt; omega) (lit_ints w2 [3, 5, 0, 1, 8, 20] _)).mono ?_
  rintro e w3 ⟨z, rfl, hz, r3, o3⟩
  have hz1 : ∃ m : Nat, z = (m : Int) ∧ m ≤ 20 := by
    simp only [List.mem_cons, List.not_mem_nil, or_false] at hz
    exact ⟨z.toNat, by omega, by omega⟩
  obtain ⟨m, rfl, hm⟩ := hz1
  have X3 := (X2.alloc _).only o3 hXR
  have B3 := (B2.alloc B2.size _).trans (o3.below w.heap.size (by omega) (by have := B2.size; simp; omega))
  clear hz X2 B2 r2 o3
  go_wp2_with fail
  refine (l4Text_any (w.heap.size + 1) 1 m _ r3 (by omega) (by omega)).mono ?_
  rintro e w4 ⟨s, rfl, hs, r4, o4⟩
  have X4 := X3.only o4 hXR
  have B4 := B3.trans (o4.below w.heap.size (by omega) B3.size)
  clear X3 B3 r3 o4
  go_wp2_with fail
  refine (pick_any (w.heap.size + 1) (1 + m) 20 _ r4 (by omega) (by omega) (by omega)).mono ?_
  rintro e w5 ⟨v, rfl, hv, r5, o5⟩
  have X5 := X4.only o5 hXR
  have B5 := B4.trans (o5.below w.heap.size (by omega) B4.size)
  clear X4 B4 r4 o5 hv
  by_cases hv0 : v = 0
  · subst hv0
    go_wp2_with fail
    refine (of_any (w.heap.size + 1) (1 + m + 1) w5.heap.size 3 _ [⟨#[101]⟩, ⟨#[65]⟩, ⟨#[97]⟩] _ (r5.alloc _) (by omega) rfl (by omega) (by omega) (by have := r5.lt; omega) (lit_cells w5 [⟨#[101]⟩, ⟨#[65]⟩, ⟨#[97]⟩] _)).mono ?_
    rintro e w6 ⟨t, rfl, ht, r6, o6⟩
    have ht1 : t.size ≤ 1 := by
      simp only [List.mem_cons, List.not_mem_nil, or_false] at ht
      rcases ht with rfl | rfl | rfl <;> decide
    have X6 := (X5.alloc _).only o6 hXR
    have B6 := (B5.alloc B5.size _).trans (o6.below w.heap.size (by omega) (by have := B5.size; simp; omega))
    have E1 := run_join2 s t (by omega)
    have hst : (join2 s t).size ≤ 100 := by rw [join2_size]; omega
    clear ht X5 B5 r5 o6
    go_wp2_with fail
    refine (l8Any_any (w.heap.size + 1) _ (join2 s t) _ r6 (by omega) (by omega)).mono ?_
    rintro e w7 ⟨zk, za, zg, rfl, hew, hzg, r7, o7⟩
    have X7 := X6.only o7 hXR
    have B7 := B6.trans (o7.below w.heap.size (by omega) B6.size)
    clear X6 B6 r6 o7 E1
    generalize join2 s t = s' at *
    obtain ⟨d0, d1, d2, y0, y1, y2⟩ := X7.cells
    go_wp2
    obtain ⟨p0, p1, p2⟩ := X7.cells3.put (.int .i64 zk) (.int .i64 za) (.string zg)
    exact bodyPost_ret (v := .tuple #[.string s', .agg #[.int .i64 zk, .int .i64 za, .string zg]]) (by simp [results, Try.results34, go_sem, p0, p1, p2]) rfl ⟨s', zk, za, zg, rfl, hst, hew, hzg, below_put (below_put (below_put B7 (Nat.le_refl _)) (Nat.le_refl _)) (Nat.le_refl _)⟩
  · have e0 : (v == 0) = false := by simpa using hv0
    clear hv0
    go_wp2_with fail
    refine (l8Any_any (w.heap.size + 1) _ s _ r5 (by omega) (by omega)).mono ?_
    rintro e w7 ⟨zk, za, zg, rfl, hew, hzg, r7, o7⟩
    have X7 := X5.only o7 hXR
    have B7 := B5.trans (o7.below w.heap.size (by omega) B5.size)
    clear X5 B5 r5 o7
    obtain ⟨d0, d1, d2, y0, y1, y2⟩ := X7.cells
    go_wp2
    obtain ⟨p0, p1, p2⟩ := X7.cells3.put (.int .i64 zk) (.int .i64 za) (.string zg)
    exact bodyPost_ret (v := .tuple #[.string s, .agg #[.int .i64 zk, .int .i64 za, .string zg]]) (by simp [results, Try.results34, go_sem, p0, p1, p2]) rfl ⟨s, zk, za, zg, rfl, by omega, hew, hzg, below_put (below_put (below_put B7 (Nat.le_refl _)) (Nat.le_refl _)) (Nat.le_refl _)⟩
set_option maxHeartbeats 1000000 in
theorem drawEditBack_any (a : Option Addr) (n cap : Nat) (w : World) (H : BytesAt w a n cap) :
    Calls Try.prog 25 #[.slice a n cap] w (DrawnDo w) := by
  have H1 := H.alloc (.cells #[.int .i64 0, .int .i64 0, .string ⟨#[]⟩] 27)
  have X1 := EdAt.new w 0 0 ⟨#[]⟩ 27
  have B1 := (Below.refl w.heap.size w).alloc (Nat.le_refl _) (.cells #[.int .i64 0, .int .i64 0, .string ⟨#[]⟩] 27)
  go_enter Try.func25, Try.ntmps25
  go_wp2_with fail
  refine (drawEditDo_any a n cap _ H1).mono ?_
  rintro e w2 ⟨s, zk, za, zg, rfl, hs, hew, hzg, hb2⟩
  have X2 := X1.keep hb2 (Nat.le_refl _)
  have B2 := below_on B1 hb2 (Nat.le_refl _)
  clear X1 B1 hb2 H1
  obtain ⟨d0, d1, d2, y0, y1, y2⟩ := X2.cells
  go_wp2
  obtain ⟨p0, p1, p2⟩ := X2.cells3.put (.int .i64 zk) (.int .i64 za) (.string zg)
  exact bodyPost_ret (v := .tuple #[.string s, .agg #[.int .i64 zk, .int .i64 za, .string zg]]) (by simp [results, Try.results25, go_sem, p0, p1, p2]) rfl ⟨s, zk, za, zg, rfl, hs, hew, hzg, below_put (below_put (below_put B2 (Nat.le_refl _)) (Nat.le_refl _)) (Nat.le_refl _)⟩
theorem seven {v : Int} (h : 0 ≤ v ∧ (0 < (7 : Int) → v < 7) ∧ ((7 : Int) = 0 → v = 0)) : ∃ m : Nat, v = (m : Int) ∧ m ≤ 6 := ⟨v.toNat, by omega, by omega⟩
set_option maxHeartbeats 1000000 in
theorem drawEditsDo_any (a : Option Addr) (n cap : Nat) (w : World) (H : BytesAt w a n cap) :
    Calls Try.prog 26 #[.slice a n cap] w (DrawnDos w) := by
  go_enter Try.func26, Try.ntmps26
  go_wp2_with fail
  refine (l17Open_any a n cap _ H).mono ?_
  rintro e w2 ⟨rfl, r2, B2⟩
  go_wp2_with fail
  refine (pick_any w.heap.size 0 7 _ r2 (by omega) (by omega) (by omega)).mono ?_
  rintro e w3 ⟨z, rfl, hz, r3, o3⟩
  obtain ⟨m, rfl, hm⟩ := seven hz
  have B3 := B2.trans (o3.below w.heap.size (Nat.le_refl _) B2.size)
  clear hz B2 r2 o3
  go_wp2_with fail
  refine (l4Text_any w.heap.size 1 m _ r3 (by omega) (by omega)).mono ?_
  rintro e w4 ⟨s, rfl, hs, r4, o4⟩
  have B4 := B3.trans (o4.below w.heap.size (Nat.le_refl _) B3.size)
  clear B3 r3 o4
  go_wp2_with fail
  refine (l8Edits_any w.heap.size (1 + m) s _ r4 (by omega) (by omega)).mono ?_
  rintro e w5 ⟨g, cp, xs, rfl, hat, hl, hg, r5, o5⟩
  have B5 := B4.trans (o5.below w.heap.size (Nat.le_refl _) B4.size)
  clear B4 r4 o5
  go_wp2
  exact bodyPost_ret (v := .tuple #[.string s, .slice (some ⟨g, 0, none⟩) xs.length cp]) (by simp [results, Try.results26, go_sem]) rfl ⟨s, g, cp, xs, rfl, by omega, hat, hl, B5⟩
theorem manyE_size (s : ByteArray) (xs : List EditT) : ∀ t, manyE s xs = some t → t.size ≤ 20 := by
  intro t h
  unfold manyE at h
  split at h
  · rename_i hc
    have hs := longB_size hc.1
    clear hc
    induction xs generalizing s with
    | nil => simp only [runE, Option.some.injEq] at h; subst h; exact hs
    | cons x xs ih =>
      rw [runE] at h
      split at h
      · exact ih _ h (doS_size _ _ _ _)
      · cases h
  · cases h
set_option maxHeartbeats 1000000 in
theorem drawEditsFar_any (a : Option Addr) (n cap : Nat) (w : World) (H : BytesAt w a n cap) :
    Calls Try.prog 27 #[.slice a n cap] w (DrawnFar w) := by
  go_enter Try.func27, Try.ntmps27
  go_wp2_with fail
  refine (l17Open_any a n cap _ H).mono ?_
  rintro e w2 ⟨rfl, r2, B2⟩
  go_wp2_with fail
  refine (pick_any w.heap.size 0 7 _ r2 (by omega) (by omega) (by omega)).mono ?_
  rintro e w3 ⟨z, rfl, hz, r3, o3⟩
  obtain ⟨m, rfl, hm⟩ := seven hz
  have B3 := B2.trans (o3.below w.heap.size (Nat.le_refl _) B2.size)
  clear hz B2 r2 o3
  go_wp2_with fail
  refine (l4Text_any w.heap.size 1 m _ r3 (by omega) (by omega)).mono ?_
  rintro e w4 ⟨s, rfl, hs, r4, o4⟩
  have B4 := B3.trans (o4.below w.heap.size (Nat.le_refl _) B3.size)
  clear B3 r3 o4
  go_wp2_with fail
  refine (pick_any w.heap.size (1 + m) 3 _ r4 (by omega) (by omega) (by omega)).mono ?_
  rintro e w5 ⟨v, rfl, hv, r5, o5⟩
  have B5 := B4.trans (o5.below w.heap.size (Nat.le_refl _) B4.size)
  clear B4 r4 o5 hv
  by_cases hv0 : v = 0
  · subst hv0
    go_wp2_with fail
    refine (pick_any w.heap.size _ 7 _ r5 (by omega) (by omega) (by omega)).mono ?_
    rintro e w6 ⟨z, rfl, hz, r6, o6⟩
    obtain ⟨m2, rfl, hm2⟩ := seven hz
    have B6 := B5.trans (o6.below w.heap.size (Nat.le_refl _) B5.size)
    clear hz B5 r5 o6
    go_wp2_with fail
    refine (l4Text_any w.heap.size _ m2 _ r6 (by omega) (by omega)).mono ?_
    rintro e w7 ⟨t, rfl, ht, r7, o7⟩
    have B7 := B6.trans (o7.below w.heap.size (Nat.le_refl _) B6.size)
    clear B6 r6 o7
    go_wp2
    exact bodyPost_ret (v := .tuple #[.string s, .string t]) (by simp [results, Try.results27, go_sem]) rfl ⟨s, t, rfl, by omega, by omega, B7⟩
  · have e0 : (v == 0) = false := by simpa using hv0
    clear hv0
    go_wp2_with fail
    refine (l8Edits_any w.heap.size _ s _ r5 (by omega) (by omega)).mono ?_
    rintro e w6 ⟨g, cp, xs, rfl, hat, hl, hg, r6, o6⟩
    have B6 := B5.trans (o6.below w.heap.size (Nat.le_refl _) B5.size)
    clear B5 r5 o6
    go_wp2_with fail
    refine (sEditsDo_any s _ _ xs _ (by unfold maxLen; omega) hat).mono ?_
    rintro e w7 ⟨rfl, hb7⟩
    have B7 := below_on B6 hb7 (Nat.le_refl _)
    have hsz := manyE_size s xs
    clear B6 hb7 hat
    generalize manyE s xs = q at *
    cases q with
    | none =>
      go_wp2
      exact bodyPost_ret (v := .tuple #[.string s, .string s]) (by simp [results, Try.results27, go_sem]) rfl ⟨s, s, rfl, by omega, by omega, B7⟩
    | some t =>
      have ht := hsz t rfl
      clear hsz
      go_wp2
      exact bodyPost_ret (v := .tuple #[.string s, .string t]) (by simp [results, Try.results27, go_sem]) rfl ⟨s, t, rfl, by omega, by omega, B7⟩
end Go.Proofs.Ytiejfbodcjckeaa
