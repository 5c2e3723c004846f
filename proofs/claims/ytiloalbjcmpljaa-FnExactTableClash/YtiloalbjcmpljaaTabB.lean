/- szTable, toTable, eqTable of the exact laws; TableGo and TableEnd of the model and of the program. -/
import Derived.Test.YtiloalbjcmpljaaTabA
import Derived.Test.YtiloalbjcmpljaaOne
namespace Go.Proofs.Ytiloalbjcmpljaa
open Go.ChangeShapes Go.WideShapes Go.ChangeAt Go.RowKit Go.Joins Go.Deep
set_option maxRecDepth 100000
theorem szTable_any (m : Int) (a : Option Addr) (cap : Nat) (xs : List TriT) (c : Option Addr) (cup : Nat) (ys : List TriT) (left : Int) (w : World) (HX : TrisAt w a xs) (HY : TrisAt w c ys) (h0 : 0 ≤ left) (h1 : left ≤ 1048576) :
    Calls Try.prog 9 #[tabV m a xs.length cap c ys.length cup, .int .i64 left] w fun e w' => e = .returned (.int .i64 (szTableM xs ys left)) ∧ Below w.heap.size w w' := by
  have hb1 := (Below.refl w.heap.size w).alloc (Nat.le_refl _) (.cells #[.int .i64 m, .slice a xs.length cap, .slice c ys.length cup] 28)
  have X1 := BoxT.new w (.int .i64 m) (.slice a xs.length cap) (.slice c ys.length cup) 28
  have hle := szTrisM_le xs left h0
  go_enter Try.func9, Try.ntmps9
  go_wp2_with fail
  refine (szMoveS_any _ _ xs left _ (HX.below hb1 (Nat.le_refl _)) h0 h1).mono ?_
  rintro e w2 ⟨rfl, hb2⟩
  have X2 := X1.below hb2
  have c2 := Below.on hb1 hb2 (Nat.le_refl _)
  have HS : Hid (szTableM xs ys left = if szTrisM xs left < 0 then -1 else if szTrisM ys (szTrisM xs left) < 0 then -1 else szTrisM ys (szTrisM xs left)) := rfl
  clear X1 hb1 hb2
  generalize szTrisM xs left = l1 at *
  by_cases hneg : l1 < 0
  · go_wp2
    go_ret
    exact ⟨ret_int (by rw [HS.out, if_pos hneg]), c2⟩
  have hnn : decide (l1 < 0) = false := by simpa using hneg
  obtain ⟨x0, x1, x2⟩ := X2.2
  go_wp2_with fail
  refine (szEndS_any _ _ ys l1 _ (HY.below c2 (Nat.le_refl _)) (by omega) (by omega)).mono ?_
  rintro e w3 ⟨rfl, hb3⟩
  have c3 := Below.on c2 hb3 (Nat.le_refl _)
  rw [if_neg (by omega)] at HS
  clear X2 hb3 c2 hnn x0 x1 x2
  generalize szTrisM ys l1 = l2 at *
  by_cases hneg2 : l2 < 0
  · go_wp2
    go_ret
    exact ⟨ret_int (by rw [HS.out, if_pos hneg2]), c3⟩
  have hnn : decide (l2 < 0) = false := by simpa using hneg2
  go_wp2
  go_ret
  exact ⟨ret_int (by rw [HS.out, if_neg (by omega)]), c3⟩
/-- a table of its own memory -/
def FreshTable (m : Int) (xs ys : List TriT) (w : World) (e : Ending) (w' : World) : Prop := ∃ b c, e = .returned (tabV m (some ⟨b, 0, none⟩) xs.length xs.length (some ⟨c, 0, none⟩) ys.length ys.length) ∧ w.heap.size ≤ b ∧ b < c ∧ w'.rowIs b 60 (xs.length * 3) (triCells xs) ∧ w'.rowIs c 63 (ys.length * 3) (triCells ys) ∧ Below w.heap.size w w'
set_option maxHeartbeats 1000000 in
theorem toTable_any (m : Int) (a : Option Addr) (cap : Nat) (xs : List TriT) (c : Option Addr) (cup : Nat) (ys : List TriT) (w : World) (HX : TrisAt w a xs) (HY : TrisAt w c ys) (h0 : xs.length ≤ 1048576) (h1 : ys.length ≤ 1048576) :
    Calls Try.prog 12 #[tabV m a xs.length cap c ys.length cup] w (FreshTable m xs ys w) := by
  have hbw := (((Below.refl w.heap.size w).alloc (Nat.le_refl _) (.cells #[.int .i64 m, .slice a xs.length cap, .slice c ys.length cup] 28)).alloc (by simp) (.cells #[.int .i64 0, .slice none 0 0, .slice none 0 0] 39)).alloc (by simp; omega) (.cells #[.int .i64 m, .slice none 0 0, .slice none 0 0] 39)
  go_enter Try.func12, Try.ntmps12
  go_wp2_with fail
  refine (toMoveS_any _ _ xs _ (HX.below hbw (Nat.le_refl _)) h0).mono ?_
  rintro e w1 ⟨b, rfl, hb1, hrow, hb⟩
  have s0 : w1.heap[w.heap.size]? = some (.cells #[.int .i64 m, .slice a xs.length cap, .slice c ys.length cup] 28) := by
    rw [hb.block _ (by simp; omega), blk_old _ _ (by simp; omega), blk_old _ _ (by simp), blk_new _ _ rfl]
  have s1 : w1.heap[w.heap.size + 1]? = some (.cells #[.int .i64 0, .slice none 0 0, .slice none 0 0] 39) := by
    rw [hb.block _ (by simp), blk_old _ _ (by simp), blk_new _ _ (by simp)]
  have s2 : w1.heap[w.heap.size + 1 + 1]? = some (.cells #[.int .i64 m, .slice none 0 0, .slice none 0 0] 39) := by
    rw [hb.block _ (by simp), blk_new _ _ (by simp)]
  have c1 := Below.on hbw hb (Nat.le_refl _)
  have hz : w.heap.size + 3 ≤ b := by simpa using hb1
  clear hb hbw hb1
  have b1 := cell_of_block s2 1
  have f1 := frozen_of_block s2 1
  have a2 := cell_of_block s0 2
  simp at b1 a2
  go_wp2_with fail
  have c1' : Below w.heap.size w (w1.setCell ⟨w.heap.size + 1 + 1, 1, none⟩ (.slice (some ⟨b, 0, none⟩) xs.length xs.length)) := c1.setCell (by show w.heap.size ≤ w.heap.size + 1 + 1; omega) _
  refine (toEndS_any _ _ ys _ (HY.below c1' (Nat.le_refl _)) h1).mono ?_
  rintro e w2 ⟨b', rfl, hb2, hrow2, hb⟩
  have hlt := hrow.lt
  have t1 : w2.heap[w.heap.size + 1]? = some (.cells #[.int .i64 0, .slice none 0 0, .slice none 0 0] 39) := by
    rw [hb.block _ (by simp; omega), Below.heap_setCell _ _ _ _ (by show w.heap.size + 1 ≠ w.heap.size + 1 + 1; omega), s1]
  have t2 : w2.heap[w.heap.size + 1 + 1]? = some (.cells #[.int .i64 m, .slice (some ⟨b, 0, none⟩) xs.length xs.length, .slice none 0 0] 39) := by
    rw [hb.block _ (by simp; omega)]; simp [World.setCell, Array.getElem?_modify, s2]
  have hrow' : w2.rowIs b 60 (xs.length * 3) (triCells xs) := (hrow.setOther (by show b ≠ w.heap.size + 1 + 1; omega) _).of_block (hb.block _ (by simp; omega))
  have c2 := Below.on c1' hb (Nat.le_refl _)
  have hz2 : w1.heap.size ≤ b' := by simpa using hb2
  clear hb c1 c1' s0 s1 s2 b1 f1 a2 hb2 hrow
  have a0 := cell_of_block t1 0
  have a1 := cell_of_block t1 1
  have a2 := cell_of_block t1 2
  have b0 := cell_of_block t2 0
  have b1 := cell_of_block t2 1
  have b2 := cell_of_block t2 2
  have fa0 := frozen_of_block t1 0
  have fa1 := frozen_of_block t1 1
  have fa2 := frozen_of_block t1 2
  have fb2 := frozen_of_block t2 2
  simp at a0 a1 a2 b0 b1 b2
  clear t1 t2
  go_wp2
  refine bodyPost_ret (v := tabV m (some ⟨b, 0, none⟩) xs.length xs.length (some ⟨b', 0, none⟩) ys.length ys.length) (by simp [results, Try.results12, go_sem, a0, a1, a2]) rfl ⟨b, b', rfl, by omega, by omega, ?_, ?_, ?_⟩
  · exact (((hrow'.setOther (by show b ≠ w.heap.size + 1 + 1; omega) _).setOther (by show b ≠ w.heap.size + 1; omega) _).setOther (by show b ≠ w.heap.size + 1; omega) _).setOther (by show b ≠ w.heap.size + 1; omega) _
  · exact (((hrow2.setOther (by show b' ≠ w.heap.size + 1 + 1; omega) _).setOther (by show b' ≠ w.heap.size + 1; omega) _).setOther (by show b' ≠ w.heap.size + 1; omega) _).setOther (by show b' ≠ w.heap.size + 1; omega) _
  · exact (((c2.setCell (by show w.heap.size ≤ w.heap.size + 1 + 1; omega) _).setCell (by show w.heap.size ≤ w.heap.size + 1; omega) _).setCell (by show w.heap.size ≤ w.heap.size + 1; omega) _).setCell (by show w.heap.size ≤ w.heap.size + 1; omega) _
theorem eqTable_any (m : Int) (a : Option Addr) (cap : Nat) (xs : List TriT) (c : Option Addr) (cup : Nat) (ys : List TriT) (a' : Option Addr) (cap' : Nat) (c' : Option Addr) (cup' : Nat) (w : World) (HX : TrisAt w a xs) (HY : TrisAt w c ys) (HX' : TrisAt w a' xs) (HY' : TrisAt w c' ys) :
    Calls Try.prog 15 #[tabV m a xs.length cap c ys.length cup, tabV m a' xs.length cap' c' ys.length cup'] w fun e w' => e = .returned (.bool true) ∧ Below w.heap.size w w' := by
  have hb1 := ((Below.refl w.heap.size w).alloc (Nat.le_refl _) (.cells #[.int .i64 m, .slice a xs.length cap, .slice c ys.length cup] 39)).alloc (by simp) (.cells #[.int .i64 m, .slice a' xs.length cap', .slice c' ys.length cup'] 39)
  have X1 := (BoxT.new w (.int .i64 m) (.slice a xs.length cap) (.slice c ys.length cup) 39).old (.cells #[.int .i64 m, .slice a' xs.length cap', .slice c' ys.length cup'] 39)
  have Y1 := BoxT.new (w.alloc (.cells #[.int .i64 m, .slice a xs.length cap, .slice c ys.length cup] 39)) (.int .i64 m) (.slice a' xs.length cap') (.slice c' ys.length cup') 39
  simp only [World.size_alloc] at Y1
  go_enter Try.func15, Try.ntmps15
  go_wp2_with fail
  refine (eqMoveS_any _ _ _ _ xs _ (HX.below hb1 (Nat.le_refl _)) (HX'.below hb1 (Nat.le_refl _))).mono ?_
  rintro e w2 ⟨rfl, hb2⟩
  have X2 := X1.below hb2
  have Y2 := Y1.below hb2
  have c2 := Below.on hb1 hb2 (Nat.le_refl _)
  clear X1 Y1 hb1 hb2
  obtain ⟨x0, x1, x2⟩ := X2.2
  obtain ⟨y0, y1, y2⟩ := Y2.2
  go_wp2_with fail
  refine (eqEndS_any _ _ _ _ ys _ (HY.below c2 (Nat.le_refl _)) (HY'.below c2 (Nat.le_refl _))).mono ?_
  rintro e w3 ⟨rfl, hb3⟩
  go_wp2
  go_ret
  exact ⟨rfl, Below.on c2 hb3 (Nat.le_refl _)⟩
def hitT (x : TriT) (n : Int) (s : ByteArray) : Bool := (x.1 == n) && (x.2.1.toList == s.toList)
def goT : List TriT → Int → ByteArray → Int × Bool
  | [], _, _ => (0, false)
  | x :: xs, n, s => if hitT x n s = true then (x.2.2, true) else goT xs n s
theorem goT_hit {xs : List TriT} {n : Int} {s : ByteArray} {k : Nat} (h : k < xs.length) (e : goT (xs.drop k) n s = goT xs n s) (hh : hitT xs[k] n s = true) : goT xs n s = (xs[k].2.2, true) := by
  rw [← e, List.drop_eq_getElem_cons h]; unfold goT; rw [if_pos hh]
theorem goT_miss {xs : List TriT} {n : Int} {s : ByteArray} {k : Nat} (h : k < xs.length) (e : goT (xs.drop k) n s = goT xs n s) (hh : hitT xs[k] n s = false) : goT (xs.drop (k + 1)) n s = goT xs n s := by
  rw [← e, List.drop_eq_getElem_cons h]; conv => rhs; unfold goT
  rw [if_neg (by rw [hh]; simp)]
theorem goT_end {xs : List TriT} {n : Int} {s : ByteArray} {k : Nat} (h : ¬ k < xs.length) (e : goT (xs.drop k) n s = goT xs n s) : goT xs n s = (0, false) := by
  rw [← e, List.drop_eq_nil_of_le (by omega)]; rfl
theorem ret_goT {x y : Int} {p q : Bool} (h : (x, p) = (y, q)) : Ending.returned (.tuple #[.int .i64 x, .bool p]) = Ending.returned (.tuple #[.int .i64 y, .bool q]) := by
  simp only [Prod.mk.injEq] at h; rw [h.1, h.2]
/-- what IndexFunc says of a row: the place of the first that hits, or -1 -/
def FirstAt (xs : List TriT) (n : Int) (s : ByteArray) (r : Int) : Prop := (r = -1 ∧ goT xs n s = (0, false)) ∨ ∃ k, ∃ h : k < xs.length, r = (k : Int) ∧ goT xs n s = (xs[k].2.2, true)

set_option maxHeartbeats 1000000 in
theorem sTableGo_any (m : Int) (a : Option Addr) (cap : Nat) (xs : List TriT) (c : Option Addr) (cup : Nat) (ys : List TriT) (n : Int) (s : ByteArray) (w : World) (H : TrisAt w a xs) :
    Calls Try.prog 16 #[tabV m a xs.length cap c ys.length cup, .int .i64 n, .string s] w fun e w' => e = .returned (.tuple #[.int .i64 (goT xs n s).1, .bool (goT xs n s).2]) ∧ Below w.heap.size w w' := by
  have hn := H.1
  unfold maxLen at hn
  have hb1 := (Below.refl w.heap.size w).alloc (Nat.le_refl _) (.cells #[.int .i64 m, .slice a xs.length cap, .slice c ys.length cup] 39)
  have X1 := BoxT.new w (.int .i64 m) (.slice a xs.length cap) (.slice c ys.length cup) 39
  go_enter Try.func16, Try.ntmps16
  go_wp2_with fail
  go_loopw [8] (fun i wr => ∃ k : Nat, k ≤ xs.length ∧ i = .int .i64 k ∧ Hid (goT (xs.drop k) n s = goT xs n s) ∧ Below w.heap.size w wr ∧ BoxT wr w.heap.size (.int .i64 m) (.slice a xs.length cap) (.slice c ys.length cup)) (fun i _ => xs.length - (intOf i).toNat)
  case atStart => exact ⟨0, Nat.zero_le _, rfl, rfl, hb1, X1⟩
  case round =>
    clear hb1 X1
    obtain ⟨k, hk, rfl, HG, hb, X⟩ := hrel
    obtain ⟨x0, x1, x2⟩ := X.2
    by_cases hlt : k < xs.length
    · obtain ⟨z, b, off, e, hbb, c0, c1, c2⟩ := (H.below hb (Nat.le_refl _)).2 k hlt
      subst e
      cases h1 : (xs[k].1 == n) with
      | false =>
        have HM := Lib.hid (goT_miss hlt HG.out (by unfold hitT; rw [h1]; rfl))
        go_wp2_with fail
        go_roundw
        case rel => exact ⟨k + 1, by omega, by go_num, HM, hb, X⟩
        case measure => simp [intOf]; omega
      | true =>
        cases h2 : (xs[k].2.1.toList == s.toList) with
        | false =>
          have HM := Lib.hid (goT_miss hlt HG.out (by unfold hitT; rw [h1, h2]; rfl))
          go_wp2_with fail
          go_roundw
          case rel => exact ⟨k + 1, by omega, by go_num, HM, hb, X⟩
          case measure => simp [intOf]; omega
        | true =>
          have HM := Lib.hid (goT_hit hlt HG.out (by unfold hitT; rw [h1, h2]; rfl))
          go_wp2_with fail
          go_ret2
          exact ⟨ret_goT HM.out.symm, hb⟩
    · go_wp2_with fail
      go_ret2
      exact ⟨ret_goT (goT_end hlt HG.out).symm, hb⟩
theorem hitGo_any (r d n : Int) (t s : ByteArray) (p q : Nat) (w : World) (hp : w.cell? ⟨p, 0, none⟩ = some (.int .i64 n)) (hq : w.cell? ⟨q, 0, none⟩ = some (.string s)) (hpl : p < w.heap.size) (hql : q < w.heap.size) :
    Calls Try.prog 46 #[.agg #[.int .i64 r, .string t, .int .i64 d], .pointer (some ⟨p, 0, none⟩), .pointer (some ⟨q, 0, none⟩)] w fun e w' => e = .returned (.bool (hitT (r, t, d) n s)) ∧ Below w.heap.size w w' := by
  have hb1 := (Below.refl w.heap.size w).alloc (Nat.le_refl _) (.cells #[.int .i64 r, .string t, .int .i64 d] 60)
  have hp' := (hb1.cell (p := ⟨p, 0, none⟩) hpl).trans hp
  have hq' := (hb1.cell (p := ⟨q, 0, none⟩) hql).trans hq
  cases h1 : (r == n) with
  | false =>
    go_enter Try.func46, Try.ntmps46
    go_wp2_with fail
    go_ret
    exact ⟨ret_bool (by unfold hitT; rw [h1]; rfl), hb1⟩
  | true =>
    go_enter Try.func46, Try.ntmps46
    go_wp2_with fail
    go_ret
    exact ⟨ret_bool (by unfold hitT; rw [h1]; rfl), hb1⟩
set_option maxHeartbeats 1000000 in
theorem indexGo_any (a : Option Addr) (cap : Nat) (xs : List TriT) (n : Int) (s : ByteArray) (p q : Nat) (w : World) (H : TrisAt w a xs) (hp : w.cell? ⟨p, 0, none⟩ = some (.int .i64 n)) (hq : w.cell? ⟨q, 0, none⟩ = some (.string s)) (hpl : p < w.heap.size) (hql : q < w.heap.size) :
    Calls Try.prog 45 #[.slice a xs.length cap, .func (.func 46) #[] #[.pointer (some ⟨p, 0, none⟩), .pointer (some ⟨q, 0, none⟩)]] w fun e w' => (∃ r, e = .returned (.int .i64 r) ∧ FirstAt xs n s r) ∧ Below w.heap.size w w' := by
  have hn := H.1
  unfold maxLen at hn
  have eg : ∀ args w, (callFunc 46 args).run Try.prog w = .ok (.enter 46 args) w := enters_of Try.func46 (by kernel_rfl) rfl
  go_enter Try.func45, Try.ntmps45
  go_wp2_with fail
  go_loopw [8] (fun i wr => ∃ k : Nat, k ≤ xs.length ∧ i = .int .i64 k ∧ Hid (goT (xs.drop k) n s = goT xs n s) ∧ Below w.heap.size w wr) (fun i _ => xs.length - (intOf i).toNat)
  case atStart => exact ⟨0, Nat.zero_le _, rfl, rfl, Below.refl _ _⟩
  case round =>
    obtain ⟨k, hk, rfl, HG, hb⟩ := hrel
    by_cases hlt : k < xs.length
    · obtain ⟨z, b, off, e, hbb, c0, c1, c2⟩ := (H.below hb (Nat.le_refl _)).2 k hlt
      subst e
      have hkl : (k : Int) < (xs.length : Int) := by omega
      have hsz := hb.size
      go_wp2_with fail
      refine (hitGo_any _ _ n _ s p q _ ((hb.cell (p := ⟨p, 0, none⟩) hpl).trans hp) ((hb.cell (p := ⟨q, 0, none⟩) hql).trans hq) (by omega) (by omega)).mono ?_
      rintro e w2 ⟨rfl, hb2⟩
      have hc := Below.on hb hb2 (Nat.le_refl _)
      cases hh : hitT (xs[k].1, xs[k].2.1, xs[k].2.2) n s with
      | false =>
        have HM := Lib.hid (goT_miss hlt HG.out hh)
        go_wp2_with fail
        go_roundw
        case rel => exact ⟨k + 1, by omega, by go_num, HM, hc⟩
        case measure => simp [intOf]; omega
      | true =>
        have HM := Lib.hid (goT_hit hlt HG.out hh)
        go_wp2_with fail
        go_ret
        exact ⟨⟨_, rfl, .inr ⟨k, hlt, rfl, HM.out⟩⟩, hc⟩
    · go_wp2_with fail
      go_ret
      exact ⟨⟨_, rfl, .inl ⟨rfl, goT_end hlt HG.out⟩⟩, hb⟩
set_option maxHeartbeats 1000000 in
theorem tableGo_any (m : Int) (a : Option Addr) (cap : Nat) (xs : List TriT) (c : Option Addr) (cup : Nat) (ys : List TriT) (n : Int) (s : ByteArray) (w : World) (H : TrisAt w a xs) :
    Calls Try.prog 17 #[tabV m a xs.length cap c ys.length cup, .int .i64 n, .string s] w fun e w' => e = .returned (.tuple #[.int .i64 (goT xs n s).1, .bool (goT xs n s).2]) ∧ Below w.heap.size w w' := by
  have hmf := makeFunc_run
  have hb1 := (((Below.refl w.heap.size w).alloc (Nat.le_refl _) (.cells #[.int .i64 m, .slice a xs.length cap, .slice c ys.length cup] 39)).alloc (by simp) (.cells #[.int .i64 n] 3)).alloc (by simp; omega) (.cells #[.string s] 9)
  have X1 := ((BoxT.new w (.int .i64 m) (.slice a xs.length cap) (.slice c ys.length cup) 39).old (.cells #[.int .i64 n] 3)).old (.cells #[.string s] 9)
  have P1 : (((w.alloc (.cells #[.int .i64 m, .slice a xs.length cap, .slice c ys.length cup] 39)).alloc (.cells #[.int .i64 n] 3)).alloc (.cells #[.string s] 9)).heap[w.heap.size + 1]? = some (.cells #[.int .i64 n] 3) := by rw [blk_old _ _ (by simp), blk_new _ _ (by simp)]
  have Q1 : (((w.alloc (.cells #[.int .i64 m, .slice a xs.length cap, .slice c ys.length cup] 39)).alloc (.cells #[.int .i64 n] 3)).alloc (.cells #[.string s] 9)).heap[w.heap.size + 1 + 1]? = some (.cells #[.string s] 9) := blk_new _ _ (by simp)
  have hp1 := cell_of_block P1 0
  have hq1 := cell_of_block Q1 0
  have hs1 : (((w.alloc (.cells #[.int .i64 m, .slice a xs.length cap, .slice c ys.length cup] 39)).alloc (.cells #[.int .i64 n] 3)).alloc (.cells #[.string s] 9)).heap.size = w.heap.size + 3 := by simp
  go_enter Try.func17, Try.ntmps17
  go_wp2_with fail
  refine (indexGo_any _ _ xs n s (w.heap.size + 1) (w.heap.size + 1 + 1) _ (H.below hb1 (Nat.le_refl _)) hp1 hq1 (by omega) (by omega)).mono ?_
  rintro e w2 ⟨⟨r, rfl, hr⟩, hb2⟩
  have X2 := X1.below hb2
  have c2 := Below.on hb1 hb2 (Nat.le_refl _)
  clear X1 hb1 hb2 hmf P1 Q1 hp1 hq1 hs1
  obtain ⟨x0, x1, x2⟩ := X2.2
  rcases hr with ⟨rfl, hr⟩ | ⟨k, hk, rfl, hr⟩
  · have HR := Lib.hid hr
    clear hr
    go_wp2_with fail
    go_ret2
    exact ⟨ret_goT HR.out.symm, c2⟩
  · have HR := Lib.hid hr
    clear hr
    obtain ⟨z, b, off, e, hbb, d0, d1, d2⟩ := (H.below c2 (Nat.le_refl _)).2 k hk
    subst e
    have hn := H.1
    unfold maxLen at hn
    go_wp2_with fail
    go_ret2
    exact ⟨ret_goT HR.out.symm, c2⟩

set_option maxHeartbeats 1000000 in
theorem sTableEnd_any (m : Int) (a : Option Addr) (cap : Nat) (xs : List TriT) (c : Option Addr) (cup : Nat) (ys : List TriT) (n : Int) (s : ByteArray) (w : World) (H : TrisAt w c ys) :
    Calls Try.prog 18 #[tabV m a xs.length cap c ys.length cup, .int .i64 n, .string s] w fun e w' => e = .returned (.tuple #[.int .i64 (goT ys n s).1, .bool (goT ys n s).2]) ∧ Below w.heap.size w w' := by
  have hn := H.1
  unfold maxLen at hn
  have hb1 := (Below.refl w.heap.size w).alloc (Nat.le_refl _) (.cells #[.int .i64 m, .slice a xs.length cap, .slice c ys.length cup] 39)
  have X1 := BoxT.new w (.int .i64 m) (.slice a xs.length cap) (.slice c ys.length cup) 39
  go_enter Try.func18, Try.ntmps18
  go_wp2_with fail
  go_loopw [8] (fun i wr => ∃ k : Nat, k ≤ ys.length ∧ i = .int .i64 k ∧ Hid (goT (ys.drop k) n s = goT ys n s) ∧ Below w.heap.size w wr ∧ BoxT wr w.heap.size (.int .i64 m) (.slice a xs.length cap) (.slice c ys.length cup)) (fun i _ => ys.length - (intOf i).toNat)
  case atStart => exact ⟨0, Nat.zero_le _, rfl, rfl, hb1, X1⟩
  case round =>
    clear hb1 X1
    obtain ⟨k, hk, rfl, HG, hb, X⟩ := hrel
    obtain ⟨x0, x1, x2⟩ := X.2
    by_cases hlt : k < ys.length
    · obtain ⟨z, b, off, e, hbb, c0, c1, c2⟩ := (H.below hb (Nat.le_refl _)).2 k hlt
      subst e
      cases h1 : (ys[k].1 == n) with
      | false =>
        have HM := Lib.hid (goT_miss hlt HG.out (by unfold hitT; rw [h1]; rfl))
        go_wp2_with fail
        go_roundw
        case rel => exact ⟨k + 1, by omega, by go_num, HM, hb, X⟩
        case measure => simp [intOf]; omega
      | true =>
        cases h2 : (ys[k].2.1.toList == s.toList) with
        | false =>
          have HM := Lib.hid (goT_miss hlt HG.out (by unfold hitT; rw [h1, h2]; rfl))
          go_wp2_with fail
          go_roundw
          case rel => exact ⟨k + 1, by omega, by go_num, HM, hb, X⟩
          case measure => simp [intOf]; omega
        | true =>
          have HM := Lib.hid (goT_hit hlt HG.out (by unfold hitT; rw [h1, h2]; rfl))
          go_wp2_with fail
          go_ret2
          exact ⟨ret_goT HM.out.symm, hb⟩
    · go_wp2_with fail
      go_ret2
      exact ⟨ret_goT (goT_end hlt HG.out).symm, hb⟩
theorem hitEnd_any (r d n : Int) (t s : ByteArray) (p q : Nat) (w : World) (hp : w.cell? ⟨p, 0, none⟩ = some (.int .i64 n)) (hq : w.cell? ⟨q, 0, none⟩ = some (.string s)) (hpl : p < w.heap.size) (hql : q < w.heap.size) :
    Calls Try.prog 48 #[.agg #[.int .i64 r, .string t, .int .i64 d], .pointer (some ⟨p, 0, none⟩), .pointer (some ⟨q, 0, none⟩)] w fun e w' => e = .returned (.bool (hitT (r, t, d) n s)) ∧ Below w.heap.size w w' := by
  have hb1 := (Below.refl w.heap.size w).alloc (Nat.le_refl _) (.cells #[.int .i64 r, .string t, .int .i64 d] 63)
  have hp' := (hb1.cell (p := ⟨p, 0, none⟩) hpl).trans hp
  have hq' := (hb1.cell (p := ⟨q, 0, none⟩) hql).trans hq
  cases h1 : (r == n) with
  | false =>
    go_enter Try.func48, Try.ntmps48
    go_wp2_with fail
    go_ret
    exact ⟨ret_bool (by unfold hitT; rw [h1]; rfl), hb1⟩
  | true =>
    go_enter Try.func48, Try.ntmps48
    go_wp2_with fail
    go_ret
    exact ⟨ret_bool (by unfold hitT; rw [h1]; rfl), hb1⟩
set_option maxHeartbeats 1000000 in
theorem indexEnd_any (a : Option Addr) (cap : Nat) (xs : List TriT) (n : Int) (s : ByteArray) (p q : Nat) (w : World) (H : TrisAt w a xs) (hp : w.cell? ⟨p, 0, none⟩ = some (.int .i64 n)) (hq : w.cell? ⟨q, 0, none⟩ = some (.string s)) (hpl : p < w.heap.size) (hql : q < w.heap.size) :
    Calls Try.prog 47 #[.slice a xs.length cap, .func (.func 48) #[] #[.pointer (some ⟨p, 0, none⟩), .pointer (some ⟨q, 0, none⟩)]] w fun e w' => (∃ r, e = .returned (.int .i64 r) ∧ FirstAt xs n s r) ∧ Below w.heap.size w w' := by
  have hn := H.1
  unfold maxLen at hn
  have eg : ∀ args w, (callFunc 48 args).run Try.prog w = .ok (.enter 48 args) w := enters_of Try.func48 (by kernel_rfl) rfl
  go_enter Try.func47, Try.ntmps47
  go_wp2_with fail
  go_loopw [8] (fun i wr => ∃ k : Nat, k ≤ xs.length ∧ i = .int .i64 k ∧ Hid (goT (xs.drop k) n s = goT xs n s) ∧ Below w.heap.size w wr) (fun i _ => xs.length - (intOf i).toNat)
  case atStart => exact ⟨0, Nat.zero_le _, rfl, rfl, Below.refl _ _⟩
  case round =>
    obtain ⟨k, hk, rfl, HG, hb⟩ := hrel
    by_cases hlt : k < xs.length
    · obtain ⟨z, b, off, e, hbb, c0, c1, c2⟩ := (H.below hb (Nat.le_refl _)).2 k hlt
      subst e
      have hkl : (k : Int) < (xs.length : Int) := by omega
      have hsz := hb.size
      go_wp2_with fail
      refine (hitEnd_any _ _ n _ s p q _ ((hb.cell (p := ⟨p, 0, none⟩) hpl).trans hp) ((hb.cell (p := ⟨q, 0, none⟩) hql).trans hq) (by omega) (by omega)).mono ?_
      rintro e w2 ⟨rfl, hb2⟩
      have hc := Below.on hb hb2 (Nat.le_refl _)
      cases hh : hitT (xs[k].1, xs[k].2.1, xs[k].2.2) n s with
      | false =>
        have HM := Lib.hid (goT_miss hlt HG.out hh)
        go_wp2_with fail
        go_roundw
        case rel => exact ⟨k + 1, by omega, by go_num, HM, hc⟩
        case measure => simp [intOf]; omega
      | true =>
        have HM := Lib.hid (goT_hit hlt HG.out hh)
        go_wp2_with fail
        go_ret
        exact ⟨⟨_, rfl, .inr ⟨k, hlt, rfl, HM.out⟩⟩, hc⟩
    · go_wp2_with fail
      go_ret
      exact ⟨⟨_, rfl, .inl ⟨rfl, goT_end hlt HG.out⟩⟩, hb⟩
set_option maxHeartbeats 1000000 in
theorem tableEnd_any (m : Int) (a : Option Addr) (cap : Nat) (xs : List TriT) (c : Option Addr) (cup : Nat) (ys : List TriT) (n : Int) (s : ByteArray) (w : World) (H : TrisAt w c ys) :
    Calls Try.prog 19 #[tabV m a xs.length cap c ys.length cup, .int .i64 n, .string s] w fun e w' => e = .returned (.tuple #[.int .i64 (goT ys n s).1, .bool (goT ys n s).2]) ∧ Below w.heap.size w w' := by
  have hmf := makeFunc_run
  have hb1 := (((Below.refl w.heap.size w).alloc (Nat.le_refl _) (.cells #[.int .i64 m, .slice a xs.length cap, .slice c ys.length cup] 39)).alloc (by simp) (.cells #[.int .i64 n] 3)).alloc (by simp; omega) (.cells #[.string s] 9)
  have X1 := ((BoxT.new w (.int .i64 m) (.slice a xs.length cap) (.slice c ys.length cup) 39).old (.cells #[.int .i64 n] 3)).old (.cells #[.string s] 9)
  have P1 : (((w.alloc (.cells #[.int .i64 m, .slice a xs.length cap, .slice c ys.length cup] 39)).alloc (.cells #[.int .i64 n] 3)).alloc (.cells #[.string s] 9)).heap[w.heap.size + 1]? = some (.cells #[.int .i64 n] 3) := by rw [blk_old _ _ (by simp), blk_new _ _ (by simp)]
  have Q1 : (((w.alloc (.cells #[.int .i64 m, .slice a xs.length cap, .slice c ys.length cup] 39)).alloc (.cells #[.int .i64 n] 3)).alloc (.cells #[.string s] 9)).heap[w.heap.size + 1 + 1]? = some (.cells #[.string s] 9) := blk_new _ _ (by simp)
  have hp1 := cell_of_block P1 0
  have hq1 := cell_of_block Q1 0
  have hs1 : (((w.alloc (.cells #[.int .i64 m, .slice a xs.length cap, .slice c ys.length cup] 39)).alloc (.cells #[.int .i64 n] 3)).alloc (.cells #[.string s] 9)).heap.size = w.heap.size + 3 := by simp
  go_enter Try.func19, Try.ntmps19
  go_wp2_with fail
  refine (indexEnd_any _ _ ys n s (w.heap.size + 1) (w.heap.size + 1 + 1) _ (H.below hb1 (Nat.le_refl _)) hp1 hq1 (by omega) (by omega)).mono ?_
  rintro e w2 ⟨⟨r, rfl, hr⟩, hb2⟩
  have X2 := X1.below hb2
  have c2 := Below.on hb1 hb2 (Nat.le_refl _)
  clear X1 hb1 hb2 hmf P1 Q1 hp1 hq1 hs1
  obtain ⟨x0, x1, x2⟩ := X2.2
  rcases hr with ⟨rfl, hr⟩ | ⟨k, hk, rfl, hr⟩
  · have HR := Lib.hid hr
    clear hr
    go_wp2_with fail
    go_ret2
    exact ⟨ret_goT HR.out.symm, c2⟩
  · have HR := Lib.hid hr
    clear hr
    obtain ⟨z, b, off, e, hbb, d0, d1, d2⟩ := (H.below c2 (Nat.le_refl _)).2 k hk
    subst e
    have hn := H.1
    unfold maxLen at hn
    go_wp2_with fail
    go_ret2
    exact ⟨ret_goT HR.out.symm, c2⟩
end Go.Proofs.Ytiloalbjcmpljaa
