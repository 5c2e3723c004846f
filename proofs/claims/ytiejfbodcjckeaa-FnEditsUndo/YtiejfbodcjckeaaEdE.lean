/- The contracts of the model's EditDo and EditBack; the walks of FnExactEditDo and FnExactEditBack. -/
import Derived.Test.YtiejfbodcjckeaaEdD
import Derived.Test.YtiejfbodcjckeaaEdArg
import Derived.Test.YtiejfbodcjckeaaBox
namespace Go.Proofs.Ytiejfbodcjckeaa
open Go.ChangeShapes Go.WideShapes Go.ChangeAt Go.RowKit
set_option maxRecDepth 100000
/-- an edit in a box -/
def BoxE (w : World) (b : Nat) (k a : Int) (g : ByteArray) : Prop := b < w.heap.size ∧ w.cell? ⟨b, 0, none⟩ = some (.int .i64 k) ∧ w.cell? ⟨b, 1, none⟩ = some (.int .i64 a) ∧ w.cell? ⟨b, 2, none⟩ = some (.string g)
theorem BoxE.keep {w w' : World} {b B : Nat} {k a : Int} {g : ByteArray} (h : BoxE w b k a g) (hb : Below B w w') (hB : w.heap.size ≤ B) : BoxE w' b k a g := by
  obtain ⟨h0, h1, h2, h3⟩ := h
  exact ⟨Nat.lt_of_lt_of_le h0 hb.size, (hb.cell (p := ⟨b, _, none⟩) (by show b < B; omega)).trans h1, (hb.cell (p := ⟨b, _, none⟩) (by show b < B; omega)).trans h2, (hb.cell (p := ⟨b, _, none⟩) (by show b < B; omega)).trans h3⟩
theorem BoxE.new (w : World) (k a : Int) (g : ByteArray) (T : TypeId) : BoxE (w.alloc (.cells #[.int .i64 k, .int .i64 a, .string g] T)) w.heap.size k a g := ⟨by simp, by simp, by simp, by simp⟩
theorem do_not {s : ByteArray} {k a : Int} {g : ByteArray} {w w' : World} (h : doB s k a g = false) (hb : Below w.heap.size w w') : DoSays s k a g w (.returned (.tuple #[.string ⟨#[]⟩, .bool false])) w' := by
  refine ⟨?_, hb⟩
  unfold doS
  rw [h]; rfl
theorem do_yes {s : ByteArray} {k a : Int} {g : ByteArray} {w w' : World} (h : doB s k a g = true) (hb : Below w.heap.size w w') : DoSays s k a g w (.returned (.tuple #[.string (toE s k a g), .bool true])) w' := by
  refine ⟨?_, hb⟩
  unfold doS
  rw [h]; rfl
theorem back_not {s : ByteArray} {k a : Int} {g : ByteArray} {w w' : World} (h : doB s k a g = false) (hb : Below w.heap.size w w') : BackSays s k a g w (.returned (.tuple #[.agg #[.int .i64 0, .int .i64 0, .string ⟨#[]⟩], .bool false])) w' := by
  refine ⟨?_, hb⟩
  unfold backK backA backG
  rw [h]; rfl
theorem toE_size {s : ByteArray} {k a : Int} {g : ByteArray} (h : fitE s k a g = true) : (toE s k a g).size ≤ s.size + 1 := by
  rcases fitE_facts h with ⟨rfl, h0, h1, h2⟩ | ⟨rfl, h0, h1, h2⟩ | ⟨rfl, h0, h1, h2⟩
  · have := toI_size s a g h0 h1
    show (toI s a g).size ≤ _; omega
  · have := toO_size s a h0 h1
    show (toO s a).size ≤ _; omega
  · have := toT_size s a g h0 h1 h2
    show (toT s a g).size ≤ _; omega
theorem doS_size (s : ByteArray) (k a : Int) (g : ByteArray) : (doS s k a g).size ≤ 20 := by
  unfold doS
  split
  · rename_i h
    unfold doB at h
    simp only [Bool.and_eq_true] at h
    exact longB_size h.2.2
  · exact Nat.zero_le _
set_option maxHeartbeats 1000000 in
theorem sEditDo_any (k a : Int) (g s : ByteArray) (w : World) (hs : s.size ≤ maxLen) :
    Calls Try.prog 12 #[.string s, .agg #[.int .i64 k, .int .i64 a, .string g]] w (DoSays s k a g w) := by
  have B1 := (Below.refl w.heap.size w).alloc (Nat.le_refl _) (.cells #[.int .i64 k, .int .i64 a, .string g] 27)
  have X1 := BoxE.new w k a g 27
  have HD : Hid (doB s k a g = (longB s && (fitE s k a g && longB (toE s k a g)))) := rfl
  go_enter Try.func12, Try.ntmps12
  go_wp2_with fail
  refine (l8Long_any s _ hs).mono ?_
  rintro e w2 ⟨rfl, rfl⟩
  cases hl : longB s with
  | false =>
    rw [hl] at HD
    clear hl X1
    go_wp2
    exact bodyPost_ret (v := .tuple #[.string ⟨#[]⟩, .bool false]) (by simp [results, Try.results12, go_sem]) rfl (do_not (by rw [HD.out]; rfl) B1)
  | true =>
    rw [hl] at HD
    have hsz := longB_size hl
    clear hl
    obtain ⟨x, x0, x1, x2⟩ := X1
    go_wp2_with fail
    refine (l8Edit_any k a g s _ hs).mono ?_
    rintro e w2 ⟨rfl, hb2⟩
    have X2 := BoxE.keep ⟨x, x0, x1, x2⟩ hb2 (Nat.le_refl _)
    have B2 := below_on B1 hb2 (Nat.le_refl _)
    clear x x0 x1 x2 hb2 B1
    cases hf : fitE s k a g with
    | false =>
      rw [hf] at HD
      clear hf X2
      go_wp2
      exact bodyPost_ret (v := .tuple #[.string ⟨#[]⟩, .bool false]) (by simp [results, Try.results12, go_sem]) rfl (do_not (by rw [HD.out]; rfl) B2)
    | true =>
      rw [hf] at HD
      have q := toE_size hf
      have HF := Lib.hid hf
      clear hf
      obtain ⟨x, x0, x1, x2⟩ := X2
      go_wp2_with fail
      refine (l8Do_any k a g s _ (by omega) HF.out).mono ?_
      rintro e w3 ⟨rfl, hb3⟩
      have X3 := BoxE.keep ⟨x, x0, x1, x2⟩ hb3 (Nat.le_refl _)
      have B3 := below_on B2 hb3 (Nat.le_refl _)
      clear x x0 x1 x2 hb3 B2
      go_wp2_with fail
      refine (l8Long_any (toE s k a g) _ (by unfold maxLen; omega)).mono ?_
      rintro e w4 ⟨rfl, rfl⟩
      cases hx : longB (toE s k a g) with
      | false =>
        rw [hx] at HD
        clear hx X3
        go_wp2
        exact bodyPost_ret (v := .tuple #[.string ⟨#[]⟩, .bool false]) (by simp [results, Try.results12, go_sem]) rfl (do_not (by rw [HD.out]; rfl) B3)
      | true =>
        rw [hx] at HD
        clear hx
        obtain ⟨x, x0, x1, x2⟩ := X3
        go_wp2_with fail
        refine (l8Do_any k a g s _ (by omega) HF.out).mono ?_
        rintro e w4 ⟨rfl, hb4⟩
        have B4 := below_on B3 hb4 (Nat.le_refl _)
        clear x x0 x1 x2 hb4 B3
        go_wp2
        exact bodyPost_ret (v := .tuple #[.string (toE s k a g), .bool true]) (by simp [results, Try.results12, go_sem]) rfl (do_yes (by rw [HD.out]; rfl) B4)
theorem doB_fit {s : ByteArray} {k a : Int} {g : ByteArray} (h : doB s k a g = true) : fitE s k a g = true := by
  unfold doB at h
  simp only [Bool.and_eq_true] at h
  exact h.2.1
theorem doB_long {s : ByteArray} {k a : Int} {g : ByteArray} (h : doB s k a g = true) : s.size ≤ 20 := by
  unfold doB at h
  simp only [Bool.and_eq_true] at h
  exact longB_size h.1
theorem back_yes1 {s : ByteArray} {a : Int} {g : ByteArray} {w w' : World} (h : doB s 1 a g = true) (hb : Below w.heap.size w w') : BackSays s 1 a g w (.returned (.tuple #[.agg #[.int .i64 2, .int .i64 a, .string ⟨#[]⟩], .bool true])) w' := by
  refine ⟨?_, hb⟩
  unfold backK backA backG
  rw [h]; rfl
theorem back_yes2 {s : ByteArray} {a : Int} {g : ByteArray} {w w' : World} (h : doB s 2 a g = true) (hb : Below w.heap.size w w') : BackSays s 2 a g w (.returned (.tuple #[.agg #[.int .i64 1, .int .i64 a, .string (s.extract a.toNat (a.toNat + 1))], .bool true])) w' := by
  refine ⟨?_, hb⟩
  unfold backK backA backG
  rw [h]; rfl
theorem back_yes3 {s : ByteArray} {a : Int} {g : ByteArray} {w w' : World} (h : doB s 3 a g = true) (hb : Below w.heap.size w w') : BackSays s 3 a g w (.returned (.tuple #[.agg #[.int .i64 3, .int .i64 a, .string (s.extract a.toNat (a.toNat + 1))], .bool true])) w' := by
  refine ⟨?_, hb⟩
  unfold backK backA backG
  rw [h]; rfl
set_option maxHeartbeats 1000000 in
theorem sEditBack_any (k a : Int) (g s : ByteArray) (w : World) (hs : s.size ≤ maxLen) :
    Calls Try.prog 15 #[.string s, .agg #[.int .i64 k, .int .i64 a, .string g]] w (BackSays s k a g w) := by
  have B1 := two_below w (.cells #[.int .i64 k, .int .i64 a, .string g] 27) (.cells #[.int .i64 0, .int .i64 0, .string ⟨#[]⟩] 27)
  have R1 : Cells3 _ _ := ⟨_, _, zeroE_row w (.cells #[.int .i64 k, .int .i64 a, .string g] 27) 27⟩
  have X1 := (BoxE.new w k a g 27).keep ((Below.refl _ _).alloc (Nat.le_refl _) (.cells #[.int .i64 0, .int .i64 0, .string ⟨#[]⟩] 27)) (Nat.le_refl _)
  go_enter Try.func15, Try.ntmps15
  obtain ⟨x, x0, x1, x2⟩ := X1
  go_wp2_with fail
  refine (sEditDo_any k a g s _ hs).mono ?_
  rintro e w2 ⟨rfl, hb2⟩
  have X2 := BoxE.keep ⟨x, x0, x1, x2⟩ hb2 (Nat.le_refl _)
  have B2 := below_on B1 hb2 (Nat.le_refl _)
  have R2 := R1.keep hb2 (Nat.le_refl _)
  have hsz := B2.size
  clear x x0 x1 x2 hb2 B1 R1
  generalize doS s k a g = t at *
  obtain ⟨_, x0, x1, x2⟩ := X2
  obtain ⟨⟨v0, c0⟩, ⟨v1, c1⟩, ⟨v2, c2⟩, z0, z1, z2⟩ := R2.open
  cases hd : doB s k a g with
  | false =>
    have HD := Lib.hid hd
    clear hd
    go_wp2
    obtain ⟨y0, y1, y2⟩ := R2.put (.int .i64 0) (.int .i64 0) (.string ⟨#[]⟩)
    exact bodyPost_ret (v := .tuple #[.agg #[.int .i64 0, .int .i64 0, .string ⟨#[]⟩], .bool false]) (by simp [results, Try.results15, go_sem, y0, y1, y2]) rfl (back_not HD.out (((B2.setCell (Nat.le_succ _) _).setCell (Nat.le_succ _) _).setCell (Nat.le_succ _) _))
  | true =>
    have hc := fitE_facts (doB_fit hd)
    have hsz2 := doB_long hd
    have HD := Lib.hid hd
    clear hd
    rcases hc with ⟨hk, h0, h1, hc⟩ | ⟨hk, h0, h1, hc⟩ | ⟨hk, h0, h1, hc⟩
    · subst hk
      clear hc
      go_wp2
      obtain ⟨y0, y1, y2⟩ := R2.put (.int .i64 2) (.int .i64 a) (.string ⟨#[]⟩)
      exact bodyPost_ret (v := .tuple #[.agg #[.int .i64 2, .int .i64 a, .string ⟨#[]⟩], .bool true]) (by simp [results, Try.results15, go_sem, y0, y1, y2]) rfl (back_yes1 HD.out (((B2.setCell (Nat.le_succ _) _).setCell (Nat.le_succ _) _).setCell (Nat.le_succ _) _))
    · subst hk
      clear hc
      have k1 : IntKind.i64.wrap (a + 1) = a + 1 := IntWalk.i64_in _ (by omega)
      have k2 : (0 : Int) ≤ a + 1 := by omega
      have k3 : (a + 1).toNat = a.toNat + 1 := by omega
      go_wp2_with fail
      go_region
      go_wp2
      obtain ⟨y0, y1, y2⟩ := R2.put (.int .i64 1) (.int .i64 a) (.string (s.extract a.toNat (a.toNat + 1)))
      exact bodyPost_ret (v := .tuple #[.agg #[.int .i64 1, .int .i64 a, .string (s.extract a.toNat (a.toNat + 1))], .bool true]) (by simp [results, Try.results15, go_sem, y0, y1, y2]) rfl (back_yes2 HD.out (((B2.setCell (Nat.le_succ _) _).setCell (Nat.le_succ _) _).setCell (Nat.le_succ _) _).drew)
    · subst hk
      clear hc
      have k1 : IntKind.i64.wrap (a + 1) = a + 1 := IntWalk.i64_in _ (by omega)
      have k2 : (0 : Int) ≤ a + 1 := by omega
      have k3 : (a + 1).toNat = a.toNat + 1 := by omega
      go_wp2_with fail
      go_region
      go_wp2
      obtain ⟨y0, y1, y2⟩ := R2.put (.int .i64 3) (.int .i64 a) (.string (s.extract a.toNat (a.toNat + 1)))
      exact bodyPost_ret (v := .tuple #[.agg #[.int .i64 3, .int .i64 a, .string (s.extract a.toNat (a.toNat + 1))], .bool true]) (by simp [results, Try.results15, go_sem, y0, y1, y2]) rfl (back_yes3 HD.out (((B2.setCell (Nat.le_succ _) _).setCell (Nat.le_succ _) _).setCell (Nat.le_succ _) _).drew)
end Go.Proofs.Ytiejfbodcjckeaa
