/- What an edit makes of a text and what undoes it, as the program says it: the contract of changed. -/
import Derived.Test.YtiejfbodcjckeaaEdB
namespace Go.Proofs.Ytiejfbodcjckeaa
open Go.ChangeShapes Go.WideShapes Go.ChangeAt Go.RowKit
set_option maxRecDepth 100000
theorem longB_size {s : ByteArray} (h : longB s = true) : s.size ≤ 20 := by
  unfold longB at h
  simp at h
  omega
theorem small_size {g : ByteArray} (h : isSmallS g = true) : g.size = 1 := by
  unfold isSmallS at h
  simp at h
  exact h.1
theorem fitI_facts {s : ByteArray} {a : Int} {g : ByteArray} (h : fitI s a g = true) : 0 ≤ a ∧ a ≤ (s.size : Int) ∧ g.size = 1 := by
  unfold fitI at h
  simp only [Bool.and_eq_true, decide_eq_true_eq] at h
  exact ⟨h.1, h.2.1, small_size h.2.2⟩
theorem fitO_facts {s : ByteArray} {a : Int} {g : ByteArray} (h : fitO s a g = true) : 0 ≤ a ∧ a < (s.size : Int) ∧ g.size = 0 := by
  unfold fitO at h
  simp only [Bool.and_eq_true, decide_eq_true_eq] at h
  refine ⟨h.1, h.2.1, ?_⟩
  have := h.2.2
  rw [List.isEmpty_iff, ByteArray.toList_eq] at this
  rw [ByteArray.size, ← Array.length_toList, this]; rfl
theorem fitT_facts {s : ByteArray} {a : Int} {g : ByteArray} (h : fitT s a g = true) : 0 ≤ a ∧ a < (s.size : Int) ∧ g.size = 1 := by
  unfold fitT at h
  simp only [Bool.and_eq_true, decide_eq_true_eq] at h
  exact ⟨h.1, h.2.1, small_size h.2.2.1⟩
def toI (s : ByteArray) (a : Int) (g : ByteArray) : ByteArray := join2 (join2 (s.extract 0 a.toNat) g) (s.extract a.toNat s.size)
def toO (s : ByteArray) (a : Int) : ByteArray := join2 (s.extract 0 a.toNat) (s.extract (a.toNat + 1) s.size)
def toT (s : ByteArray) (a : Int) (g : ByteArray) : ByteArray := join2 (join2 (s.extract 0 a.toNat) g) (s.extract (a.toNat + 1) s.size)
def cutE (s : ByteArray) (a : Int) : ByteArray := s.extract a.toNat (a.toNat + 1)
theorem toI_size (s : ByteArray) (a : Int) (g : ByteArray) (h0 : 0 ≤ a) (h1 : a ≤ (s.size : Int)) : (toI s a g).size = s.size + g.size := by
  unfold toI; rw [join2_size, join2_size]; simp; omega
theorem toO_size (s : ByteArray) (a : Int) (h0 : 0 ≤ a) (h1 : a < (s.size : Int)) : (toO s a).size + 1 = s.size := by
  unfold toO; rw [join2_size]; simp; omega
theorem toT_size (s : ByteArray) (a : Int) (g : ByteArray) (h0 : 0 ≤ a) (h1 : a < (s.size : Int)) (hg : g.size = 1) : (toT s a g).size = s.size := by
  unfold toT; rw [join2_size, join2_size]; simp; omega
def fitE (s : ByteArray) (k a : Int) (g : ByteArray) : Bool := if k = 1 then fitI s a g else if k = 2 then fitO s a g else if k = 3 then fitT s a g else false
def toE (s : ByteArray) (k a : Int) (g : ByteArray) : ByteArray := if k = 1 then toI s a g else if k = 2 then toO s a else toT s a g
def doB (s : ByteArray) (k a : Int) (g : ByteArray) : Bool := longB s && (fitE s k a g && longB (toE s k a g))
def doS (s : ByteArray) (k a : Int) (g : ByteArray) : ByteArray := if doB s k a g = true then toE s k a g else ⟨#[]⟩
def backK (s : ByteArray) (k a : Int) (g : ByteArray) : Int := if doB s k a g = true then (if k = 1 then 2 else if k = 2 then 1 else 3) else 0
def backA (s : ByteArray) (k a : Int) (g : ByteArray) : Int := if doB s k a g = true then a else 0
def backG (s : ByteArray) (k a : Int) (g : ByteArray) : ByteArray := if doB s k a g = true then (if k = 1 then ⟨#[]⟩ else cutE s a) else ⟨#[]⟩
def ChangedSays (s : ByteArray) (k a : Int) (g : ByteArray) (w : World) (e : Ending) (w' : World) : Prop :=
  e = .returned (.tuple #[.string (doS s k a g), .agg #[.int .i64 (backK s k a g), .int .i64 (backA s k a g), .string (backG s k a g)], .bool (doB s k a g)]) ∧ Below w.heap.size w w'
theorem changed_not {s : ByteArray} {k a : Int} {g : ByteArray} {w w' : World} (h : doB s k a g = false) (hb : Below w.heap.size w w') : ChangedSays s k a g w (.returned (.tuple #[.string ⟨#[]⟩, .agg #[.int .i64 0, .int .i64 0, .string ⟨#[]⟩], .bool false])) w' := by
  refine ⟨?_, hb⟩
  unfold doS backK backA backG
  rw [h]; rfl
theorem changeI_any (a : Int) (g : ByteArray) (w : World) : Calls Try.prog 41 #[.agg #[.int .i64 1, .int .i64 a, .string g]] w fun e w' => e = .returned (.tuple #[.iface 79 (.agg #[.int .i64 1, .int .i64 a, .string g]), .bool true]) ∧ Below w.heap.size w w' := by
  go_enter Try.func41, Try.ntmps41
  go_wp2
  exact bodyPost_ret (v := .tuple #[.iface 79 (.agg #[.int .i64 1, .int .i64 a, .string g]), .bool true]) (by simp [results, Try.results41, go_sem]) rfl ⟨rfl, (Below.refl _ _).alloc (Nat.le_refl _) _⟩
theorem changeO_any (a : Int) (g : ByteArray) (w : World) : Calls Try.prog 41 #[.agg #[.int .i64 2, .int .i64 a, .string g]] w fun e w' => e = .returned (.tuple #[.iface 80 (.agg #[.int .i64 2, .int .i64 a, .string g]), .bool true]) ∧ Below w.heap.size w w' := by
  go_enter Try.func41, Try.ntmps41
  go_wp2
  exact bodyPost_ret (v := .tuple #[.iface 80 (.agg #[.int .i64 2, .int .i64 a, .string g]), .bool true]) (by simp [results, Try.results41, go_sem]) rfl ⟨rfl, (Below.refl _ _).alloc (Nat.le_refl _) _⟩
theorem changeT_any (a : Int) (g : ByteArray) (w : World) : Calls Try.prog 41 #[.agg #[.int .i64 3, .int .i64 a, .string g]] w fun e w' => e = .returned (.tuple #[.iface 81 (.agg #[.int .i64 3, .int .i64 a, .string g]), .bool true]) ∧ Below w.heap.size w w' := by
  go_enter Try.func41, Try.ntmps41
  go_wp2
  exact bodyPost_ret (v := .tuple #[.iface 81 (.agg #[.int .i64 3, .int .i64 a, .string g]), .bool true]) (by simp [results, Try.results41, go_sem]) rfl ⟨rfl, (Below.refl _ _).alloc (Nat.le_refl _) _⟩
theorem changeN_any (k a : Int) (g : ByteArray) (w : World) (h1 : ¬ k = 1) (h2 : ¬ k = 2) (h3 : ¬ k = 3) : Calls Try.prog 41 #[.agg #[.int .i64 k, .int .i64 a, .string g]] w fun e w' => e = .returned (.tuple #[.nilIface, .bool false]) ∧ Below w.heap.size w w' := by
  go_enter Try.func41, Try.ntmps41
  go_wp2
  exact bodyPost_ret (v := .tuple #[.nilIface, .bool false]) (by simp [results, Try.results41, go_sem]) rfl ⟨rfl, (Below.refl _ _).alloc (Nat.le_refl _) _⟩
theorem below_on {w w1 w2 : World} {B B' : Nat} (a : Below B w w1) (b : Below B' w1 w2) (h : B ≤ w.heap.size) (hs : w1.heap.size ≤ B' := by exact Nat.le_refl _) : Below B w w2 := a.trans (b.mono (by have := a.size; omega))
def zeroE (i : Nat) : Value := if i = 2 then .string ⟨#[]⟩ else .int .i64 0
theorem zeroE_row (w : World) (x : Obj) (T : TypeId) : ((w.alloc x).alloc (.cells #[.int .i64 0, .int .i64 0, .string ⟨#[]⟩] T)).rowIs (w.heap.size + 1) T 3 zeroE := by
  have h := World.rowIs_alloc (w.alloc x) #[.int .i64 0, .int .i64 0, .string ⟨#[]⟩] T zeroE (fun i hi => by
    have : i = 0 ∨ i = 1 ∨ i = 2 := by simp at hi; omega
    rcases this with e | e | e <;> subst e <;> rfl)
  simpa using h
/-- the three cells of an edit, and that they may be written -/
def Cells3 (w : World) (b : Nat) : Prop := ∃ T f, w.rowIs b T 3 f
theorem Cells3.keep {w w' : World} {b B : Nat} (h : Cells3 w b) (hb : Below B w w') (hB : w.heap.size ≤ B) : Cells3 w' b := by
  obtain ⟨T, f, h⟩ := h
  exact ⟨T, f, h.of_block (hb.block _ (Nat.lt_of_lt_of_le h.lt hB))⟩
theorem Cells3.open {w : World} {b : Nat} (h : Cells3 w b) : (∃ v0, w.cell? ⟨b, 0, none⟩ = some v0) ∧ (∃ v1, w.cell? ⟨b, 1, none⟩ = some v1) ∧ (∃ v2, w.cell? ⟨b, 2, none⟩ = some v2) ∧ w.frozen? ⟨b, 0, none⟩ = false ∧ w.frozen? ⟨b, 1, none⟩ = false ∧ w.frozen? ⟨b, 2, none⟩ = false := by
  obtain ⟨T, f, h⟩ := h
  exact ⟨⟨_, h.cell (i := 0) (by omega)⟩, ⟨_, h.cell (i := 1) (by omega)⟩, ⟨_, h.cell (i := 2) (by omega)⟩, h.frozen 0, h.frozen 1, h.frozen 2⟩
theorem Cells3.put {w : World} {b : Nat} (h : Cells3 w b) (v0 v1 v2 : Value) : (((w.setCell ⟨b, 0, none⟩ v0).setCell ⟨b, 1, none⟩ v1).setCell ⟨b, 2, none⟩ v2).cell? ⟨b, 0, none⟩ = some v0 ∧ (((w.setCell ⟨b, 0, none⟩ v0).setCell ⟨b, 1, none⟩ v1).setCell ⟨b, 2, none⟩ v2).cell? ⟨b, 1, none⟩ = some v1 ∧ (((w.setCell ⟨b, 0, none⟩ v0).setCell ⟨b, 1, none⟩ v1).setCell ⟨b, 2, none⟩ v2).cell? ⟨b, 2, none⟩ = some v2 := by
  obtain ⟨T, f, h⟩ := h
  have r := ((h.set 0 v0).set 1 v1).set 2 v2
  exact ⟨r.cell (i := 0) (by omega), r.cell (i := 1) (by omega), r.cell (i := 2) (by omega)⟩
theorem onI_to (a : Int) (g s : ByteArray) (w : World) (hs : s.size ≤ 1000) (hg : g.size ≤ 1000) (h0 : 0 ≤ a) (h1 : a ≤ (s.size : Int)) : Calls Try.prog 69 #[.agg #[.int .i64 1, .int .i64 a, .string g], .string s] w fun e w' => e = .returned (.string (toI s a g)) ∧ Below w.heap.size w w' := onI_any 1 a g s w hs hg h0 h1
theorem changed_yesI {s : ByteArray} {a : Int} {g : ByteArray} {w w' : World} (h : doB s 1 a g = true) (hb : Below w.heap.size w w') : ChangedSays s 1 a g w (.returned (.tuple #[.string (toI s a g), .agg #[.int .i64 2, .int .i64 a, .string ⟨#[]⟩], .bool true])) w' := by
  refine ⟨?_, hb⟩
  unfold doS backK backA backG
  rw [h]; rfl
set_option maxHeartbeats 1000000 in
theorem changedI_any (a : Int) (g s : ByteArray) (w : World) (hs : s.size ≤ maxLen) :
    Calls Try.prog 31 #[.string s, .agg #[.int .i64 1, .int .i64 a, .string g]] w (ChangedSays s 1 a g w) := by
  have HD : Hid (doB s 1 a g = (longB s && (fitI s a g && longB (toI s a g)))) := rfl
  have B1 := two_below w (.cells #[.int .i64 1, .int .i64 a, .string g] 27) (.cells #[.int .i64 0, .int .i64 0, .string ⟨#[]⟩] 27)
  have R1 : Cells3 _ _ := ⟨_, _, zeroE_row w (.cells #[.int .i64 1, .int .i64 a, .string g] 27) 27⟩
  go_enter Try.func31, Try.ntmps31
  go_wp2_with fail
  refine (changeI_any a g _).mono ?_
  rintro e w2 ⟨rfl, hb2⟩
  have B2 := below_on B1 hb2 (Nat.le_refl _)
  have R2 := R1.keep hb2 (Nat.le_refl _)
  clear hb2 B1 R1
  cases hl : longB s with
  | false =>
    rw [hl] at HD
    have HL := Lib.hid hl
    clear hl
    go_wp2_with fail
    refine (longOk_any s _ hs).mono ?_
    rintro e w3 ⟨rfl, rfl⟩
    rw [HL.out]
    obtain ⟨⟨v0, c0⟩, ⟨v1, c1⟩, ⟨v2, c2⟩, z0, z1, z2⟩ := R2.open
    go_wp2
    obtain ⟨y0, y1, y2⟩ := R2.put (.int .i64 0) (.int .i64 0) (.string ⟨#[]⟩)
    exact bodyPost_ret (v := .tuple #[.string ⟨#[]⟩, .agg #[.int .i64 0, .int .i64 0, .string ⟨#[]⟩], .bool false]) (by simp [results, Try.results31, go_sem, y0, y1, y2]) rfl (changed_not (by rw [HD.out]; rfl) (((B2.setCell (Nat.le_succ _) _).setCell (Nat.le_succ _) _).setCell (Nat.le_succ _) _))
  | true =>
    rw [hl] at HD
    have hsz := longB_size hl
    have HL := Lib.hid hl
    clear hl
    go_wp2_with fail
    refine (longOk_any s _ hs).mono ?_
    rintro e w3 ⟨rfl, rfl⟩
    rw [HL.out]
    go_wp2_with fail
    refine (fitI_any 1 a g s _).mono ?_
    rintro e w3 ⟨rfl, hb3⟩
    have B3 := below_on B2 hb3 (Nat.le_refl _)
    have R3 := R2.keep hb3 (Nat.le_refl _)
    clear hb3 B2 R2
    cases hf : fitI s a g with
    | false =>
      rw [hf] at HD
      clear hf
      obtain ⟨⟨v0, c0⟩, ⟨v1, c1⟩, ⟨v2, c2⟩, z0, z1, z2⟩ := R3.open
      go_wp2
      obtain ⟨y0, y1, y2⟩ := R3.put (.int .i64 0) (.int .i64 0) (.string ⟨#[]⟩)
      exact bodyPost_ret (v := .tuple #[.string ⟨#[]⟩, .agg #[.int .i64 0, .int .i64 0, .string ⟨#[]⟩], .bool false]) (by simp [results, Try.results31, go_sem, y0, y1, y2]) rfl (changed_not (by rw [HD.out]; rfl) (((B3.setCell (Nat.le_succ _) _).setCell (Nat.le_succ _) _).setCell (Nat.le_succ _) _))
    | true =>
      rw [hf] at HD
      obtain ⟨f0, f1, f2⟩ := fitI_facts hf
      have q := toI_size s a g f0 f1
      have q' : (toI s a g).size ≤ 1000 := by omega
      have hg' : g.size ≤ 1000 := by omega
      clear hf q f2
      go_wp2_with fail
      refine (onI_to a g s _ (by omega) (by omega) f0 f1).mono ?_
      rintro e w4 ⟨rfl, hb4⟩
      have B4 := below_on B3 hb4 (Nat.le_refl _)
      have R4 := R3.keep hb4 (Nat.le_refl _)
      clear hb4 B3 R3
      cases hx : longB (toI s a g) with
      | false =>
        rw [hx] at HD
        have HX := Lib.hid hx
        clear hx
        go_wp2_with fail
        refine (longOk_any (toI s a g) _ (by unfold maxLen; omega)).mono ?_
        rintro e w5 ⟨rfl, rfl⟩
        rw [HX.out]
        obtain ⟨⟨v0, c0⟩, ⟨v1, c1⟩, ⟨v2, c2⟩, z0, z1, z2⟩ := R4.open
        go_wp2
        obtain ⟨y0, y1, y2⟩ := R4.put (.int .i64 0) (.int .i64 0) (.string ⟨#[]⟩)
        exact bodyPost_ret (v := .tuple #[.string ⟨#[]⟩, .agg #[.int .i64 0, .int .i64 0, .string ⟨#[]⟩], .bool false]) (by simp [results, Try.results31, go_sem, y0, y1, y2]) rfl (changed_not (by rw [HD.out]; rfl) (((B4.setCell (Nat.le_succ _) _).setCell (Nat.le_succ _) _).setCell (Nat.le_succ _) _))
      | true =>
        rw [hx] at HD
        have HX := Lib.hid hx
        clear hx
        go_wp2_with fail
        refine (longOk_any (toI s a g) _ (by unfold maxLen; omega)).mono ?_
        rintro e w5 ⟨rfl, rfl⟩
        rw [HX.out]
        go_wp2_with fail
        refine (undoI_any 1 a g s _).mono ?_
        rintro e w5 ⟨rfl, hb5⟩
        have B5 := below_on B4 hb5 (Nat.le_refl _)
        have R5 := R4.keep hb5 (Nat.le_refl _)
        clear hb5 B4 R4
        obtain ⟨⟨v0, c0⟩, ⟨v1, c1⟩, ⟨v2, c2⟩, z0, z1, z2⟩ := R5.open
        go_wp2
        obtain ⟨y0, y1, y2⟩ := R5.put (.int .i64 2) (.int .i64 a) (.string ⟨#[]⟩)
        exact bodyPost_ret (v := .tuple #[.string (toI s a g), .agg #[.int .i64 2, .int .i64 a, .string ⟨#[]⟩], .bool true]) (by simp [results, Try.results31, go_sem, y0, y1, y2]) rfl (changed_yesI (by rw [HD.out]; rfl) (((B5.setCell (Nat.le_succ _) _).setCell (Nat.le_succ _) _).setCell (Nat.le_succ _) _))
theorem onO_to (a : Int) (g s : ByteArray) (w : World) (hs : s.size ≤ 1000) (h0 : 0 ≤ a) (h1 : a < (s.size : Int)) : Calls Try.prog 74 #[.agg #[.int .i64 2, .int .i64 a, .string g], .string s] w fun e w' => e = .returned (.string (toO s a)) ∧ Below w.heap.size w w' := onO_any 2 a g s w hs h0 h1
theorem changed_yesO {s : ByteArray} {a : Int} {g : ByteArray} {w w' : World} (h : doB s 2 a g = true) (hb : Below w.heap.size w w') : ChangedSays s 2 a g w (.returned (.tuple #[.string (toO s a), .agg #[.int .i64 1, .int .i64 a, .string (s.extract a.toNat (a.toNat + 1))], .bool true])) w' := by
  refine ⟨?_, hb⟩
  unfold doS backK backA backG
  rw [h]; rfl
set_option maxHeartbeats 1000000 in
theorem changedO_any (a : Int) (g s : ByteArray) (w : World) (hs : s.size ≤ maxLen) :
    Calls Try.prog 31 #[.string s, .agg #[.int .i64 2, .int .i64 a, .string g]] w (ChangedSays s 2 a g w) := by
  have HD : Hid (doB s 2 a g = (longB s && (fitO s a g && longB (toO s a)))) := rfl
  have B1 := two_below w (.cells #[.int .i64 2, .int .i64 a, .string g] 27) (.cells #[.int .i64 0, .int .i64 0, .string ⟨#[]⟩] 27)
  have R1 : Cells3 _ _ := ⟨_, _, zeroE_row w (.cells #[.int .i64 2, .int .i64 a, .string g] 27) 27⟩
  go_enter Try.func31, Try.ntmps31
  go_wp2_with fail
  refine (changeO_any a g _).mono ?_
  rintro e w2 ⟨rfl, hb2⟩
  have B2 := below_on B1 hb2 (Nat.le_refl _)
  have R2 := R1.keep hb2 (Nat.le_refl _)
  clear hb2 B1 R1
  cases hl : longB s with
  | false =>
    rw [hl] at HD
    have HL := Lib.hid hl
    clear hl
    go_wp2_with fail
    refine (longOk_any s _ hs).mono ?_
    rintro e w3 ⟨rfl, rfl⟩
    rw [HL.out]
    obtain ⟨⟨v0, c0⟩, ⟨v1, c1⟩, ⟨v2, c2⟩, z0, z1, z2⟩ := R2.open
    go_wp2
    obtain ⟨y0, y1, y2⟩ := R2.put (.int .i64 0) (.int .i64 0) (.string ⟨#[]⟩)
    exact bodyPost_ret (v := .tuple #[.string ⟨#[]⟩, .agg #[.int .i64 0, .int .i64 0, .string ⟨#[]⟩], .bool false]) (by simp [results, Try.results31, go_sem, y0, y1, y2]) rfl (changed_not (by rw [HD.out]; rfl) (((B2.setCell (Nat.le_succ _) _).setCell (Nat.le_succ _) _).setCell (Nat.le_succ _) _))
  | true =>
    rw [hl] at HD
    have hsz := longB_size hl
    have HL := Lib.hid hl
    clear hl
    go_wp2_with fail
    refine (longOk_any s _ hs).mono ?_
    rintro e w3 ⟨rfl, rfl⟩
    rw [HL.out]
    go_wp2_with fail
    refine (fitO_any 2 a g s _).mono ?_
    rintro e w3 ⟨rfl, hb3⟩
    have B3 := below_on B2 hb3 (Nat.le_refl _)
    have R3 := R2.keep hb3 (Nat.le_refl _)
    clear hb3 B2 R2
    cases hf : fitO s a g with
    | false =>
      rw [hf] at HD
      clear hf
      obtain ⟨⟨v0, c0⟩, ⟨v1, c1⟩, ⟨v2, c2⟩, z0, z1, z2⟩ := R3.open
      go_wp2
      obtain ⟨y0, y1, y2⟩ := R3.put (.int .i64 0) (.int .i64 0) (.string ⟨#[]⟩)
      exact bodyPost_ret (v := .tuple #[.string ⟨#[]⟩, .agg #[.int .i64 0, .int .i64 0, .string ⟨#[]⟩], .bool false]) (by simp [results, Try.results31, go_sem, y0, y1, y2]) rfl (changed_not (by rw [HD.out]; rfl) (((B3.setCell (Nat.le_succ _) _).setCell (Nat.le_succ _) _).setCell (Nat.le_succ _) _))
    | true =>
      rw [hf] at HD
      obtain ⟨f0, f1, f2⟩ := fitO_facts hf
      have q := toO_size s a f0 f1
      have q' : (toO s a).size ≤ 1000 := by omega
      clear hf q f2
      go_wp2_with fail
      refine (onO_to a g s _ (by omega) f0 f1).mono ?_
      rintro e w4 ⟨rfl, hb4⟩
      have B4 := below_on B3 hb4 (Nat.le_refl _)
      have R4 := R3.keep hb4 (Nat.le_refl _)
      clear hb4 B3 R3
      cases hx : longB (toO s a) with
      | false =>
        rw [hx] at HD
        have HX := Lib.hid hx
        clear hx
        go_wp2_with fail
        refine (longOk_any (toO s a) _ (by unfold maxLen; omega)).mono ?_
        rintro e w5 ⟨rfl, rfl⟩
        rw [HX.out]
        obtain ⟨⟨v0, c0⟩, ⟨v1, c1⟩, ⟨v2, c2⟩, z0, z1, z2⟩ := R4.open
        go_wp2
        obtain ⟨y0, y1, y2⟩ := R4.put (.int .i64 0) (.int .i64 0) (.string ⟨#[]⟩)
        exact bodyPost_ret (v := .tuple #[.string ⟨#[]⟩, .agg #[.int .i64 0, .int .i64 0, .string ⟨#[]⟩], .bool false]) (by simp [results, Try.results31, go_sem, y0, y1, y2]) rfl (changed_not (by rw [HD.out]; rfl) (((B4.setCell (Nat.le_succ _) _).setCell (Nat.le_succ _) _).setCell (Nat.le_succ _) _))
      | true =>
        rw [hx] at HD
        have HX := Lib.hid hx
        clear hx
        go_wp2_with fail
        refine (longOk_any (toO s a) _ (by unfold maxLen; omega)).mono ?_
        rintro e w5 ⟨rfl, rfl⟩
        rw [HX.out]
        go_wp2_with fail
        refine (undoO_any 2 a g s _ (by omega) f0 f1).mono ?_
        rintro e w5 ⟨rfl, hb5⟩
        have B5 := below_on B4 hb5 (Nat.le_refl _)
        have R5 := R4.keep hb5 (Nat.le_refl _)
        clear hb5 B4 R4
        obtain ⟨⟨v0, c0⟩, ⟨v1, c1⟩, ⟨v2, c2⟩, z0, z1, z2⟩ := R5.open
        go_wp2
        obtain ⟨y0, y1, y2⟩ := R5.put (.int .i64 1) (.int .i64 a) (.string (s.extract a.toNat (a.toNat + 1)))
        exact bodyPost_ret (v := .tuple #[.string (toO s a), .agg #[.int .i64 1, .int .i64 a, .string (s.extract a.toNat (a.toNat + 1))], .bool true]) (by simp [results, Try.results31, go_sem, y0, y1, y2]) rfl (changed_yesO (by rw [HD.out]; rfl) (((B5.setCell (Nat.le_succ _) _).setCell (Nat.le_succ _) _).setCell (Nat.le_succ _) _))
theorem onT_to (a : Int) (g s : ByteArray) (w : World) (hs : s.size ≤ 1000) (hg : g.size ≤ 1000) (h0 : 0 ≤ a) (h1 : a < (s.size : Int)) : Calls Try.prog 77 #[.agg #[.int .i64 3, .int .i64 a, .string g], .string s] w fun e w' => e = .returned (.string (toT s a g)) ∧ Below w.heap.size w w' := onT_any 3 a g s w hs hg h0 h1
theorem changed_yesT {s : ByteArray} {a : Int} {g : ByteArray} {w w' : World} (h : doB s 3 a g = true) (hb : Below w.heap.size w w') : ChangedSays s 3 a g w (.returned (.tuple #[.string (toT s a g), .agg #[.int .i64 3, .int .i64 a, .string (s.extract a.toNat (a.toNat + 1))], .bool true])) w' := by
  refine ⟨?_, hb⟩
  unfold doS backK backA backG
  rw [h]; rfl
set_option maxHeartbeats 1000000 in
theorem changedT_any (a : Int) (g s : ByteArray) (w : World) (hs : s.size ≤ maxLen) :
    Calls Try.prog 31 #[.string s, .agg #[.int .i64 3, .int .i64 a, .string g]] w (ChangedSays s 3 a g w) := by
  have HD : Hid (doB s 3 a g = (longB s && (fitT s a g && longB (toT s a g)))) := rfl
  have B1 := two_below w (.cells #[.int .i64 3, .int .i64 a, .string g] 27) (.cells #[.int .i64 0, .int .i64 0, .string ⟨#[]⟩] 27)
  have R1 : Cells3 _ _ := ⟨_, _, zeroE_row w (.cells #[.int .i64 3, .int .i64 a, .string g] 27) 27⟩
  go_enter Try.func31, Try.ntmps31
  go_wp2_with fail
  refine (changeT_any a g _).mono ?_
  rintro e w2 ⟨rfl, hb2⟩
  have B2 := below_on B1 hb2 (Nat.le_refl _)
  have R2 := R1.keep hb2 (Nat.le_refl _)
  clear hb2 B1 R1
  cases hl : longB s with
  | false =>
    rw [hl] at HD
    have HL := Lib.hid hl
    clear hl
    go_wp2_with fail
    refine (longOk_any s _ hs).mono ?_
    rintro e w3 ⟨rfl, rfl⟩
    rw [HL.out]
    obtain ⟨⟨v0, c0⟩, ⟨v1, c1⟩, ⟨v2, c2⟩, z0, z1, z2⟩ := R2.open
    go_wp2
    obtain ⟨y0, y1, y2⟩ := R2.put (.int .i64 0) (.int .i64 0) (.string ⟨#[]⟩)
    exact bodyPost_ret (v := .tuple #[.string ⟨#[]⟩, .agg #[.int .i64 0, .int .i64 0, .string ⟨#[]⟩], .bool false]) (by simp [results, Try.results31, go_sem, y0, y1, y2]) rfl (changed_not (by rw [HD.out]; rfl) (((B2.setCell (Nat.le_succ _) _).setCell (Nat.le_succ _) _).setCell (Nat.le_succ _) _))
  | true =>
    rw [hl] at HD
    have hsz := longB_size hl
    have HL := Lib.hid hl
    clear hl
    go_wp2_with fail
    refine (longOk_any s _ hs).mono ?_
    rintro e w3 ⟨rfl, rfl⟩
    rw [HL.out]
    go_wp2_with fail
    refine (fitT_any 3 a g s _ hs).mono ?_
    rintro e w3 ⟨rfl, hb3⟩
    have B3 := below_on B2 hb3 (Nat.le_refl _)
    have R3 := R2.keep hb3 (Nat.le_refl _)
    clear hb3 B2 R2
    cases hf : fitT s a g with
    | false =>
      rw [hf] at HD
      clear hf
      obtain ⟨⟨v0, c0⟩, ⟨v1, c1⟩, ⟨v2, c2⟩, z0, z1, z2⟩ := R3.open
      go_wp2
      obtain ⟨y0, y1, y2⟩ := R3.put (.int .i64 0) (.int .i64 0) (.string ⟨#[]⟩)
      exact bodyPost_ret (v := .tuple #[.string ⟨#[]⟩, .agg #[.int .i64 0, .int .i64 0, .string ⟨#[]⟩], .bool false]) (by simp [results, Try.results31, go_sem, y0, y1, y2]) rfl (changed_not (by rw [HD.out]; rfl) (((B3.setCell (Nat.le_succ _) _).setCell (Nat.le_succ _) _).setCell (Nat.le_succ _) _))
    | true =>
      rw [hf] at HD
      obtain ⟨f0, f1, f2⟩ := fitT_facts hf
      have q := toT_size s a g f0 f1 f2
      have q' : (toT s a g).size ≤ 1000 := by omega
      have hg' : g.size ≤ 1000 := by omega
      clear hf q f2
      go_wp2_with fail
      refine (onT_to a g s _ (by omega) (by omega) f0 f1).mono ?_
      rintro e w4 ⟨rfl, hb4⟩
      have B4 := below_on B3 hb4 (Nat.le_refl _)
      have R4 := R3.keep hb4 (Nat.le_refl _)
      clear hb4 B3 R3
      cases hx : longB (toT s a g) with
      | false =>
        rw [hx] at HD
        have HX := Lib.hid hx
        clear hx
        go_wp2_with fail
        refine (longOk_any (toT s a g) _ (by unfold maxLen; omega)).mono ?_
        rintro e w5 ⟨rfl, rfl⟩
        rw [HX.out]
        obtain ⟨⟨v0, c0⟩, ⟨v1, c1⟩, ⟨v2, c2⟩, z0, z1, z2⟩ := R4.open
        go_wp2
        obtain ⟨y0, y1, y2⟩ := R4.put (.int .i64 0) (.int .i64 0) (.string ⟨#[]⟩)
        exact bodyPost_ret (v := .tuple #[.string ⟨#[]⟩, .agg #[.int .i64 0, .int .i64 0, .string ⟨#[]⟩], .bool false]) (by simp [results, Try.results31, go_sem, y0, y1, y2]) rfl (changed_not (by rw [HD.out]; rfl) (((B4.setCell (Nat.le_succ _) _).setCell (Nat.le_succ _) _).setCell (Nat.le_succ _) _))
      | true =>
        rw [hx] at HD
        have HX := Lib.hid hx
        clear hx
        go_wp2_with fail
        refine (longOk_any (toT s a g) _ (by unfold maxLen; omega)).mono ?_
        rintro e w5 ⟨rfl, rfl⟩
        rw [HX.out]
        go_wp2_with fail
        refine (undoT_any 3 a g s _ (by omega) f0 f1).mono ?_
        rintro e w5 ⟨rfl, hb5⟩
        have B5 := below_on B4 hb5 (Nat.le_refl _)
        have R5 := R4.keep hb5 (Nat.le_refl _)
        clear hb5 B4 R4
        obtain ⟨⟨v0, c0⟩, ⟨v1, c1⟩, ⟨v2, c2⟩, z0, z1, z2⟩ := R5.open
        go_wp2
        obtain ⟨y0, y1, y2⟩ := R5.put (.int .i64 3) (.int .i64 a) (.string (s.extract a.toNat (a.toNat + 1)))
        exact bodyPost_ret (v := .tuple #[.string (toT s a g), .agg #[.int .i64 3, .int .i64 a, .string (s.extract a.toNat (a.toNat + 1))], .bool true]) (by simp [results, Try.results31, go_sem, y0, y1, y2]) rfl (changed_yesT (by rw [HD.out]; rfl) (((B5.setCell (Nat.le_succ _) _).setCell (Nat.le_succ _) _).setCell (Nat.le_succ _) _))
set_option maxHeartbeats 1000000 in
theorem changedN_any (k a : Int) (g s : ByteArray) (w : World) (h1 : ¬ k = 1) (h2 : ¬ k = 2) (h3 : ¬ k = 3) :
    Calls Try.prog 31 #[.string s, .agg #[.int .i64 k, .int .i64 a, .string g]] w (ChangedSays s k a g w) := by
  have HD : Hid (doB s k a g = false) := by show _ = _; unfold doB fitE; simp [h1, h2, h3]
  have B1 := two_below w (.cells #[.int .i64 k, .int .i64 a, .string g] 27) (.cells #[.int .i64 0, .int .i64 0, .string ⟨#[]⟩] 27)
  have R1 : Cells3 _ _ := ⟨_, _, zeroE_row w (.cells #[.int .i64 k, .int .i64 a, .string g] 27) 27⟩
  go_enter Try.func31, Try.ntmps31
  go_wp2_with fail
  refine (changeN_any k a g _ h1 h2 h3).mono ?_
  rintro e w2 ⟨rfl, hb2⟩
  have B2 := below_on B1 hb2 (Nat.le_refl _)
  have R2 := R1.keep hb2 (Nat.le_refl _)
  clear hb2 B1 R1 h1 h2 h3
  obtain ⟨⟨v0, c0⟩, ⟨v1, c1⟩, ⟨v2, c2⟩, z0, z1, z2⟩ := R2.open
  go_wp2
  obtain ⟨y0, y1, y2⟩ := R2.put (.int .i64 0) (.int .i64 0) (.string ⟨#[]⟩)
  exact bodyPost_ret (v := .tuple #[.string ⟨#[]⟩, .agg #[.int .i64 0, .int .i64 0, .string ⟨#[]⟩], .bool false]) (by simp [results, Try.results31, go_sem, y0, y1, y2]) rfl (changed_not HD.out (((B2.setCell (Nat.le_succ _) _).setCell (Nat.le_succ _) _).setCell (Nat.le_succ _) _))
theorem changed_any (k a : Int) (g s : ByteArray) (w : World) (hs : s.size ≤ maxLen) :
    Calls Try.prog 31 #[.string s, .agg #[.int .i64 k, .int .i64 a, .string g]] w (ChangedSays s k a g w) := by
  by_cases h1 : k = 1
  · subst h1; exact changedI_any a g s w hs
  by_cases h2 : k = 2
  · subst h2; exact changedO_any a g s w hs
  by_cases h3 : k = 3
  · subst h3; exact changedT_any a g s w hs
  exact changedN_any k a g s w h1 h2 h3
end Go.Proofs.Ytiejfbodcjckeaa
