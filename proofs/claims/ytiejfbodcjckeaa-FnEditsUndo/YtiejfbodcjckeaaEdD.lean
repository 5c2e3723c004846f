/- The contracts of EditDo and EditBack, the program's and the model's. -/
import Derived.Test.YtiejfbodcjckeaaEdC
namespace Go.Proofs.Ytiejfbodcjckeaa
open Go.ChangeShapes Go.WideShapes Go.ChangeAt Go.RowKit
set_option maxRecDepth 100000
def DoSays (s : ByteArray) (k a : Int) (g : ByteArray) (w : World) (e : Ending) (w' : World) : Prop :=
  e = .returned (.tuple #[.string (doS s k a g), .bool (doB s k a g)]) ∧ Below w.heap.size w w'
def BackSays (s : ByteArray) (k a : Int) (g : ByteArray) (w : World) (e : Ending) (w' : World) : Prop :=
  e = .returned (.tuple #[.agg #[.int .i64 (backK s k a g), .int .i64 (backA s k a g), .string (backG s k a g)], .bool (doB s k a g)]) ∧ Below w.heap.size w w'
set_option maxHeartbeats 1000000 in
theorem editDo_any (k a : Int) (g s : ByteArray) (w : World) (hs : s.size ≤ maxLen) :
    Calls Try.prog 14 #[.string s, .agg #[.int .i64 k, .int .i64 a, .string g]] w (DoSays s k a g w) := by
  have B1 := (Below.refl w.heap.size w).alloc (Nat.le_refl _) (.cells #[.int .i64 k, .int .i64 a, .string g] 27)
  go_enter Try.func14, Try.ntmps14
  go_wp2_with fail
  refine (changed_any k a g s _ hs).mono ?_
  rintro e w2 ⟨rfl, hb2⟩
  have B2 := below_on B1 hb2 (Nat.le_refl _)
  have hsz := B2.size
  clear hb2 B1
  go_wp2
  exact bodyPost_ret (v := .tuple #[.string (doS s k a g), .bool (doB s k a g)]) (by simp [results, Try.results14, go_sem]) rfl ⟨rfl, B2.alloc hsz _⟩
theorem Cells3.putA {w : World} {b : Nat} (h : Cells3 w b) (o : Obj) (v0 v1 v2 : Value) : ((((w.setCell ⟨b, 0, none⟩ v0).setCell ⟨b, 1, none⟩ v1).setCell ⟨b, 2, none⟩ v2).alloc o).cell? ⟨b, 0, none⟩ = some v0 ∧ ((((w.setCell ⟨b, 0, none⟩ v0).setCell ⟨b, 1, none⟩ v1).setCell ⟨b, 2, none⟩ v2).alloc o).cell? ⟨b, 1, none⟩ = some v1 ∧ ((((w.setCell ⟨b, 0, none⟩ v0).setCell ⟨b, 1, none⟩ v1).setCell ⟨b, 2, none⟩ v2).alloc o).cell? ⟨b, 2, none⟩ = some v2 := by
  obtain ⟨T, f, h⟩ := h
  have r := (((h.set 0 v0).set 1 v1).set 2 v2).alloc o
  exact ⟨r.cell (i := 0) (by omega), r.cell (i := 1) (by omega), r.cell (i := 2) (by omega)⟩
set_option maxHeartbeats 1000000 in
theorem editBack_any (k a : Int) (g s : ByteArray) (w : World) (hs : s.size ≤ maxLen) :
    Calls Try.prog 16 #[.string s, .agg #[.int .i64 k, .int .i64 a, .string g]] w (BackSays s k a g w) := by
  have B1 := two_below w (.cells #[.int .i64 k, .int .i64 a, .string g] 27) (.cells #[.int .i64 0, .int .i64 0, .string ⟨#[]⟩] 27)
  have R1 : Cells3 _ _ := ⟨_, _, zeroE_row w (.cells #[.int .i64 k, .int .i64 a, .string g] 27) 27⟩
  go_enter Try.func16, Try.ntmps16
  go_wp2_with fail
  refine (changed_any k a g s _ hs).mono ?_
  rintro e w2 ⟨rfl, hb2⟩
  have B2 := below_on B1 hb2 (Nat.le_refl _)
  have R2 := R1.keep hb2 (Nat.le_refl _)
  have hsz := B2.size
  clear hb2 B1 R1
  have hlt : w.heap.size + 1 < w2.heap.size := by obtain ⟨T, f, h⟩ := R2; exact h.lt
  obtain ⟨⟨v0, c0⟩, ⟨v1, c1⟩, ⟨v2, c2⟩, z0, z1, z2⟩ := R2.open
  go_wp2
  obtain ⟨y0, y1, y2⟩ := R2.putA (.cells #[.int .i64 (backK s k a g), .int .i64 (backA s k a g), .string (backG s k a g)] 27) (.int .i64 (backK s k a g)) (.int .i64 (backA s k a g)) (.string (backG s k a g))
  exact bodyPost_ret (v := .tuple #[.agg #[.int .i64 (backK s k a g), .int .i64 (backA s k a g), .string (backG s k a g)], .bool (doB s k a g)]) (by simp [results, Try.results16, go_sem, y0, y1, y2]) rfl ⟨rfl, (((B2.setCell (Nat.le_succ _) _).setCell (Nat.le_succ _) _).setCell (Nat.le_succ _) _).alloc (by simp; exact hsz) _⟩
theorem ne_comm (a b : ByteArray) : (a.toList != b.toList) = (b.toList != a.toList) := by
  generalize a.toList = x
  generalize b.toList = y
  exact bne_comm
set_option maxHeartbeats 1000000 in
theorem l8Edit_any (k a : Int) (g s : ByteArray) (w : World) (hs : s.size ≤ maxLen) :
    Calls Try.prog 29 #[.string s, .agg #[.int .i64 k, .int .i64 a, .string g]] w fun e w' => e = .returned (.bool (fitE s k a g)) ∧ Below w.heap.size w w' := by
  unfold maxLen at hs
  by_cases h1 : k = 1
  · subst h1
    have HE : Hid (fitE s 1 a g = fitI s a g) := rfl
    by_cases h0 : 0 ≤ a
    · by_cases h1 : a ≤ (s.size : Int)
      · have HD : Hid (fitI s a g = isSmallS g) := by show _ = _; unfold fitI; simp [h0, h1]
        go_enter Try.func29, Try.ntmps29
        go_wp2_with (go_at_call 40; refine (sSignSmall_any _ _).mono ?_; rintro e w' ⟨rfl, rfl⟩)
        go_ret
        exact ⟨ret_bool (by rw [HE.out, HD.out]), (Below.refl _ _).alloc (Nat.le_refl _) _⟩
      · have HD : Hid (fitI s a g = false) := by show _ = _; unfold fitI; simp [h0, h1]
        go_enter Try.func29, Try.ntmps29
        go_wp2
        go_ret
        exact ⟨ret_bool (by rw [HE.out, HD.out]), (Below.refl _ _).alloc (Nat.le_refl _) _⟩
    · have HD : Hid (fitI s a g = false) := by show _ = _; unfold fitI; simp [h0]
      go_enter Try.func29, Try.ntmps29
      go_wp2
      go_ret
      exact ⟨ret_bool (by rw [HE.out, HD.out]), (Below.refl _ _).alloc (Nat.le_refl _) _⟩
  by_cases h2 : k = 2
  · subst h2
    have HE : Hid (fitE s 2 a g = fitO s a g) := rfl
    clear h1
    by_cases h0 : 0 ≤ a
    · by_cases h1 : a < (s.size : Int)
      · cases hg : g.toList.isEmpty with
        | true =>
          have HD : Hid (fitO s a g = true) := by show _ = _; unfold fitO; simp [h0, h1, hg]
          have hg2 : g.toList = [] := by simpa using hg
          go_enter Try.func29, Try.ntmps29
          go_wp2
          go_ret
          exact ⟨ret_bool (by rw [HE.out, HD.out]), (Below.refl _ _).alloc (Nat.le_refl _) _⟩
        | false =>
          have HD : Hid (fitO s a g = false) := by show _ = _; unfold fitO; simp [h0, h1, hg]
          have hg2 : ¬ g.toList = [] := by simpa using hg
          go_enter Try.func29, Try.ntmps29
          go_wp2
          go_ret
          exact ⟨ret_bool (by rw [HE.out, HD.out]), (Below.refl _ _).alloc (Nat.le_refl _) _⟩
      · have HD : Hid (fitO s a g = false) := by show _ = _; unfold fitO; simp [h0, h1]
        go_enter Try.func29, Try.ntmps29
        go_wp2
        go_ret
        exact ⟨ret_bool (by rw [HE.out, HD.out]), (Below.refl _ _).alloc (Nat.le_refl _) _⟩
    · have HD : Hid (fitO s a g = false) := by show _ = _; unfold fitO; simp [h0]
      go_enter Try.func29, Try.ntmps29
      go_wp2
      go_ret
      exact ⟨ret_bool (by rw [HE.out, HD.out]), (Below.refl _ _).alloc (Nat.le_refl _) _⟩
  by_cases h3 : k = 3
  · subst h3
    have HE : Hid (fitE s 3 a g = fitT s a g) := rfl
    clear h1 h2
    by_cases h0 : 0 ≤ a
    · have d0 : decide (0 ≤ a) = true := by simpa using h0
      by_cases h1 : a < (s.size : Int)
      · have d1 : decide (a < (s.size : Int)) = true := by simpa using h1
        have k1 : IntKind.i64.wrap (a + 1) = a + 1 := IntWalk.i64_in _ (by omega)
        have k2 : (0 : Int) ≤ a + 1 := by omega
        have k3 : (a + 1).toNat = a.toNat + 1 := by omega
        cases hg : isSmallS g with
        | true =>
          have HD : Hid (fitT s a g = (g.toList != (s.extract a.toNat (a.toNat + 1)).toList)) := by show _ = _; unfold fitT; simp [h0, h1, hg]
          have hq : ∀ w1, Calls Try.prog 40 #[.string g] w1 fun e w' => e = .returned (.bool true) ∧ w' = w1 := fun w1 => (sSignSmall_any g w1).mono fun e w' h => ⟨by rw [h.1, hg], h.2.symm⟩
          go_enter Try.func29, Try.ntmps29
          go_wp2_with fail
          go_quiet ((go_at_call 40; exact Calls.quiet_of_same (hq _)))
          go_wp2
          go_ret
          exact ⟨ret_bool (by rw [HE.out, HD.out, ne_comm]; rfl), below_box _ _ _⟩
        | false =>
          have HD : Hid (fitT s a g = false) := by show _ = _; unfold fitT; simp [h0, h1, hg]
          have hq : ∀ w1, Calls Try.prog 40 #[.string g] w1 fun e w' => e = .returned (.bool false) ∧ w' = w1 := fun w1 => (sSignSmall_any g w1).mono fun e w' h => ⟨by rw [h.1, hg], h.2.symm⟩
          go_enter Try.func29, Try.ntmps29
          go_wp2_with fail
          go_quiet ((go_at_call 40; exact Calls.quiet_of_same (hq _)))
          go_wp2
          go_ret
          exact ⟨ret_bool (by rw [HE.out, HD.out]), below_box _ _ _⟩
      · have d1 : decide (a < (s.size : Int)) = false := by simpa using h1
        have HD : Hid (fitT s a g = false) := by show _ = _; unfold fitT; simp [h0, h1]
        go_enter Try.func29, Try.ntmps29
        go_wp2_with fail
        go_quiet (fail)
        go_wp2
        go_ret
        exact ⟨ret_bool (by rw [HE.out, HD.out]), below_box _ _ _⟩
    · have d0 : decide (0 ≤ a) = false := by simpa using h0
      have HD : Hid (fitT s a g = false) := by show _ = _; unfold fitT; simp [h0]
      go_enter Try.func29, Try.ntmps29
      go_wp2_with fail
      go_quiet (fail)
      go_wp2
      go_ret
      exact ⟨ret_bool (by rw [HE.out, HD.out]), below_box _ _ _⟩
  · have HD : Hid (fitE s k a g = false) := by show _ = _; unfold fitE; simp [h1, h2, h3]
    go_enter Try.func29, Try.ntmps29
    go_wp2
    go_ret
    exact ⟨ret_bool (by rw [HD.out]), (Below.refl _ _).alloc (Nat.le_refl _) _⟩
theorem fitE_facts {s : ByteArray} {k a : Int} {g : ByteArray} (h : fitE s k a g = true) : (k = 1 ∧ 0 ≤ a ∧ a ≤ (s.size : Int) ∧ g.size = 1) ∨ (k = 2 ∧ 0 ≤ a ∧ a < (s.size : Int) ∧ g.size = 0) ∨ (k = 3 ∧ 0 ≤ a ∧ a < (s.size : Int) ∧ g.size = 1) := by
  unfold fitE at h
  split at h
  · exact .inl ⟨by assumption, fitI_facts h⟩
  · split at h
    · exact .inr (.inl ⟨by assumption, fitO_facts h⟩)
    · split at h
      · exact .inr (.inr ⟨by assumption, fitT_facts h⟩)
      · cases h
theorem toT_empty (s : ByteArray) (a : Int) (g : ByteArray) (hg : g.size = 0) : toT s a g = toO s a := by
  obtain rfl : g = ⟨#[]⟩ := by
    rcases g with ⟨⟨l⟩⟩
    have : l = [] := List.length_eq_zero_iff.1 hg
    rw [this]
  unfold toT toO
  rw [show join2 (s.extract 0 a.toNat) ⟨#[]⟩ = s.extract 0 a.toNat from bytesOf_ext (by simp [join2])]
set_option maxHeartbeats 1000000 in
theorem l8Do_any (k a : Int) (g s : ByteArray) (w : World) (hs : s.size ≤ 1000) (hf : fitE s k a g = true) :
    Calls Try.prog 30 #[.string s, .agg #[.int .i64 k, .int .i64 a, .string g]] w fun e w' => e = .returned (.string (toE s k a g)) ∧ Below w.heap.size w w' := by
  have hc := fitE_facts hf
  clear hf
  by_cases hk : k = 1
  · subst hk
    obtain ⟨h0, h1, hg⟩ : 0 ≤ a ∧ a ≤ (s.size : Int) ∧ g.size ≤ 1 := by omega
    clear hc
    have z1 := cut_size s 0 a.toNat
    have z2 := cut_size s a.toNat s.size
    have E1 := run_join2 (s.extract 0 a.toNat) g (by omega)
    have E2 := run_join2 (join2 (s.extract 0 a.toNat) g) (s.extract a.toNat s.size) (by rw [join2_size]; omega)
    clear z1 z2
    go_enter Try.func30, Try.ntmps30
    go_wp2_with fail
    go_quiet (fail)
    go_wp2
    go_ret
    exact ⟨rfl, below_box _ _ _⟩
  · have HE : Hid (toE s k a g = toT s a g) := by
      show _ = _
      unfold toE
      rw [if_neg hk]
      split
      · rw [toT_empty s a g (by omega)]
      · rfl
    obtain ⟨h0, h1, hg⟩ : 0 ≤ a ∧ a < (s.size : Int) ∧ g.size ≤ 1 := by omega
    clear hc
    have z1 := cut_size s 0 a.toNat
    have z2 := cut_size s (a.toNat + 1) s.size
    have E1 := run_join2 (s.extract 0 a.toNat) g (by omega)
    have E2 := run_join2 (join2 (s.extract 0 a.toNat) g) (s.extract (a.toNat + 1) s.size) (by rw [join2_size]; omega)
    have k1 : IntKind.i64.wrap (a + 1) = a + 1 := IntWalk.i64_in _ (by omega)
    have k2 : (0 : Int) ≤ a + 1 := by omega
    have k3 : (a + 1).toNat = a.toNat + 1 := by omega
    clear z1 z2
    go_enter Try.func30, Try.ntmps30
    go_wp2_with fail
    go_quiet (fail)
    go_wp2
    go_ret
    exact ⟨ret_string (by rw [HE.out]; rfl), below_box _ _ _⟩
end Go.Proofs.Ytiejfbodcjckeaa
