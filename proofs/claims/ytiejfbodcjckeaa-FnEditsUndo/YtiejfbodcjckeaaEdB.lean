/- What edits make of a text, and what undoes them: the contracts of the methods on and undo of the program's edits, and of longOk and l8Long. -/
import Derived.Test.YtiejfbodcjckeaaEdA
namespace Go.Proofs.Ytiejfbodcjckeaa
open Go.ChangeShapes Go.WideShapes Go.ChangeAt Go.RowKit
set_option maxRecDepth 100000
/-- two strings one behind the other -/
def join2 (a b : ByteArray) : ByteArray := a ++ b
theorem run_join2 (a b : ByteArray) (h : a.size + b.size ≤ 9223372036854775807) (w : World) : (Op.stringOp .add a b).run Try.prog w = .ok (.string (join2 a b)) w := by
  rw [run_string_add_sum w _ _ h]; rfl
theorem join2_size (a b : ByteArray) : (join2 a b).size = a.size + b.size := by simp [join2]
theorem cut_size (s : ByteArray) (i j : Nat) : (s.extract i j).size ≤ s.size := by simp; omega
theorem onI_any (k a : Int) (g s : ByteArray) (w : World) (hs : s.size ≤ 1000) (hg : g.size ≤ 1000) (h0 : 0 ≤ a) (h1 : a ≤ (s.size : Int)) :
    Calls Try.prog 69 #[.agg #[.int .i64 k, .int .i64 a, .string g], .string s] w fun e w' => e = .returned (.string (join2 (join2 (s.extract 0 a.toNat) g) (s.extract a.toNat s.size))) ∧ Below w.heap.size w w' := by
  have z1 := cut_size s 0 a.toNat
  have z2 := cut_size s a.toNat s.size
  have E1 := run_join2 (s.extract 0 a.toNat) g (by omega)
  have E2 := run_join2 (join2 (s.extract 0 a.toNat) g) (s.extract a.toNat s.size) (by rw [join2_size]; omega)
  clear z1 z2
  go_enter Try.func69, Try.ntmps69
  go_wp2_with fail
  go_quiet (fail)
  go_wp2
  go_ret
  exact ⟨rfl, below_box _ _ _⟩
theorem onO_any (k a : Int) (g s : ByteArray) (w : World) (hs : s.size ≤ 1000) (h0 : 0 ≤ a) (h1 : a < (s.size : Int)) :
    Calls Try.prog 74 #[.agg #[.int .i64 k, .int .i64 a, .string g], .string s] w fun e w' => e = .returned (.string (join2 (s.extract 0 a.toNat) (s.extract (a.toNat + 1) s.size))) ∧ Below w.heap.size w w' := by
  have z1 := cut_size s 0 a.toNat
  have z2 := cut_size s (a.toNat + 1) s.size
  have E1 := run_join2 (s.extract 0 a.toNat) (s.extract (a.toNat + 1) s.size) (by omega)
  have k1 : IntKind.i64.wrap (a + 1) = a + 1 := IntWalk.i64_in _ (by omega)
  have k2 : (0 : Int) ≤ a + 1 := by omega
  have k3 : (a + 1).toNat = a.toNat + 1 := by omega
  clear z1 z2
  go_enter Try.func74, Try.ntmps74
  go_wp2_with fail
  go_quiet (fail)
  go_wp2
  go_ret
  exact ⟨rfl, below_box _ _ _⟩
theorem onT_any (k a : Int) (g s : ByteArray) (w : World) (hs : s.size ≤ 1000) (hg : g.size ≤ 1000) (h0 : 0 ≤ a) (h1 : a < (s.size : Int)) :
    Calls Try.prog 77 #[.agg #[.int .i64 k, .int .i64 a, .string g], .string s] w fun e w' => e = .returned (.string (join2 (join2 (s.extract 0 a.toNat) g) (s.extract (a.toNat + 1) s.size))) ∧ Below w.heap.size w w' := by
  have z1 := cut_size s 0 a.toNat
  have z2 := cut_size s (a.toNat + 1) s.size
  have E1 := run_join2 (s.extract 0 a.toNat) g (by omega)
  have E2 := run_join2 (join2 (s.extract 0 a.toNat) g) (s.extract (a.toNat + 1) s.size) (by rw [join2_size]; omega)
  have k1 : IntKind.i64.wrap (a + 1) = a + 1 := IntWalk.i64_in _ (by omega)
  have k2 : (0 : Int) ≤ a + 1 := by omega
  have k3 : (a + 1).toNat = a.toNat + 1 := by omega
  clear z1 z2
  go_enter Try.func77, Try.ntmps77
  go_wp2_with fail
  go_quiet (fail)
  go_wp2
  go_ret
  exact ⟨rfl, below_box _ _ _⟩
theorem two_below (w : World) (x y : Obj) : Below w.heap.size w ((w.alloc x).alloc y) := ((Below.refl _ _).alloc (Nat.le_refl _) _).alloc (by simp) _
theorem undoI_any (k a : Int) (g s : ByteArray) (w : World) :
    Calls Try.prog 70 #[.agg #[.int .i64 k, .int .i64 a, .string g], .string s] w fun e w' => e = .returned (.agg #[.int .i64 2, .int .i64 a, .string ⟨#[]⟩]) ∧ Below w.heap.size w w' := by
  go_enter Try.func70, Try.ntmps70
  go_wp2
  exact bodyPost_ret (v := .agg #[.int .i64 2, .int .i64 a, .string ⟨#[]⟩]) (by simp [results, Try.results70, go_sem]) rfl ⟨rfl, two_below _ _ _⟩
theorem undoO_any (k a : Int) (g s : ByteArray) (w : World) (hs : s.size ≤ 1000) (h0 : 0 ≤ a) (h1 : a < (s.size : Int)) :
    Calls Try.prog 75 #[.agg #[.int .i64 k, .int .i64 a, .string g], .string s] w fun e w' => e = .returned (.agg #[.int .i64 1, .int .i64 a, .string (s.extract a.toNat (a.toNat + 1))]) ∧ Below w.heap.size w w' := by
  have k1 : IntKind.i64.wrap (a + 1) = a + 1 := IntWalk.i64_in _ (by omega)
  have k2 : (0 : Int) ≤ a + 1 := by omega
  have k3 : (a + 1).toNat = a.toNat + 1 := by omega
  go_enter Try.func75, Try.ntmps75
  go_wp2_with fail
  go_region
  go_wp2
  exact bodyPost_ret (v := .agg #[.int .i64 1, .int .i64 a, .string (s.extract a.toNat (a.toNat + 1))]) (by simp [results, Try.results75, go_sem]) rfl ⟨rfl, (two_below _ _ _).drew⟩
theorem undoT_any (k a : Int) (g s : ByteArray) (w : World) (hs : s.size ≤ 1000) (h0 : 0 ≤ a) (h1 : a < (s.size : Int)) :
    Calls Try.prog 78 #[.agg #[.int .i64 k, .int .i64 a, .string g], .string s] w fun e w' => e = .returned (.agg #[.int .i64 3, .int .i64 a, .string (s.extract a.toNat (a.toNat + 1))]) ∧ Below w.heap.size w w' := by
  have k1 : IntKind.i64.wrap (a + 1) = a + 1 := IntWalk.i64_in _ (by omega)
  have k2 : (0 : Int) ≤ a + 1 := by omega
  have k3 : (a + 1).toNat = a.toNat + 1 := by omega
  go_enter Try.func78, Try.ntmps78
  go_wp2_with fail
  go_region
  go_wp2
  exact bodyPost_ret (v := .agg #[.int .i64 3, .int .i64 a, .string (s.extract a.toNat (a.toNat + 1))]) (by simp [results, Try.results78, go_sem]) rfl ⟨rfl, (two_below _ _ _).drew⟩
theorem smalls_set (w : World) : Calls Try.prog 42 #[.string ({ data := #[97, 98, 99, 100] } : ByteArray)] w fun e w' => e = .returned (.int .u16 ((960 : Nat) : Int)) ∧ w = w' := by
  have hset : setN (({ data := #[97, 98, 99, 100] } : ByteArray)).data.toList = 960 := by decide
  refine (setOf_any ({ data := #[97, 98, 99, 100] } : ByteArray) w (by simp [maxLen, ByteArray.size])).mono ?_
  rintro e w1 ⟨rfl, rfl⟩
  rw [hset]
  exact ⟨rfl, rfl⟩
set_option maxHeartbeats 1000000 in
theorem longOk_any (s : ByteArray) (w : World) (hs : s.size ≤ maxLen) :
    Calls Try.prog 32 #[.string s] w fun e w' => e = .returned (.bool (longB s)) ∧ w = w' := by
  by_cases h8 : (s.size : Int) ≤ 20
  · have hd : longB s = hasAllN 960 s.data.toList := by unfold longB; simp [h8]
    have HD := Lib.hid hd
    clear hd
    go_enter Try.func32, Try.ntmps32
    go_wp2_with fail
    refine (smalls_set _).mono ?_
    rintro e w' ⟨rfl, rfl⟩
    go_wp2_with fail
    refine (hasAll_any 960 s _ (by omega) hs).mono ?_
    rintro e w' ⟨rfl, rfl⟩
    generalize hasAllN 960 s.data.toList = b at *
    go_wp2_with fail
    go_ret
    exact ⟨ret_bool (by rw [HD.out]), rfl⟩
  · have hd : longB s = false := by unfold longB; simp [h8]
    go_enter Try.func32, Try.ntmps32
    go_wp2_with fail
    go_ret
    exact ⟨rfl, rfl⟩
set_option maxHeartbeats 1000000 in
theorem l8Long_any (s : ByteArray) (w : World) (hs : s.size ≤ maxLen) :
    Calls Try.prog 28 #[.string s] w fun e w' => e = .returned (.bool (longB s)) ∧ w = w' := by
  unfold maxLen at hs
  go_enter Try.func28, Try.ntmps28
  go_wp2_with fail
  go_loop [3] (fun i => ∃ k : Nat, k ≤ s.size ∧ i = .int .i64 k ∧ Hid (hasAllN 960 (s.data.toList.take k) = true)) (fun i => s.size - (intOf i).toNat)
  case atStart => exact ⟨0, Nat.zero_le _, rfl, by simp [hasAllN, Hid]⟩
  case round =>
    obtain ⟨k, hk, rfl, H⟩ := hrel
    by_cases hlt : k < s.size
    · have HT : Hid (hasAllN 960 (s.data.toList.take (k + 1)) = (hasAllN 960 (s.data.toList.take k) && hasN 960 s[k])) := by
        show _ = _; rw [take_snoc s k hlt, hasAllN_snoc]
      have hsm := has_small s[k]
      cases hb : smallN (s[k].toNat : Int) with
      | false =>
        have HN : Hid (hasAllN 960 s.data.toList = false) := hasAll_bad hlt (by rw [hsm, hb])
        clear hsm
        go_wp2_with (go_at_call 39; refine (l1Small_any _ _).mono ?_; rintro e w' ⟨rfl, rfl⟩; rw [hb])
        go_ret
        exact ⟨ret_bool (by unfold longB; rw [HN.out]; rfl), rfl⟩
      | true =>
        rw [hb] at hsm
        have HS := Lib.hid hsm
        clear hsm
        go_wp2_with (go_at_call 39; refine (l1Small_any _ _).mono ?_; rintro e w' ⟨rfl, rfl⟩; rw [hb])
        go_round
        case rel => exact ⟨k + 1, by omega, by go_num, by show _ = _; rw [HT.out, H.out, HS.out]; rfl⟩
        case measure => simp [intOf]; omega
    · have HA : Hid (hasAllN 960 s.data.toList = true) := by
        have := H.out
        rw [List.take_of_length_le (by simp; omega)] at this
        exact this
      go_wp2_with fail
      go_ret
      exact ⟨ret_bool (by unfold longB; rw [HA.out]; simp), rfl⟩
end Go.Proofs.Ytiejfbodcjckeaa
