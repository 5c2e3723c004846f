/- Rows of moves, ends and clashes: what the exact laws mark, look at again and compare. -/
import Derived.Test.YtiloalbjcmpljaaRowG
namespace Go.Proofs.Ytiloalbjcmpljaa
open Go.ChangeShapes Go.WideShapes Go.ChangeAt Go.RowKit
set_option maxRecDepth 100000
def MoveK : List Bool := [false, true, false]
theorem MoveK_0 (k q : Nat) : mkC MoveK k (q * 3) = .int .i64 ((k + q * 3 : Nat) : Int) := by
  unfold mkC
  rw [show (q * 3) % MoveK.length = 0 from by show _ % 3 = 0; omega]
  rfl
theorem MoveK_1 (k q : Nat) : mkC MoveK k (q * 3 + 1) = .string (mB (k + q * 3 + 1)) := by
  unfold mkC
  rw [show (q * 3 + 1) % MoveK.length = 1 from by show _ % 3 = 1; omega]
  rfl
theorem MoveK_2 (k q : Nat) : mkC MoveK k (q * 3 + 2) = .int .i64 ((k + q * 3 + 2 : Nat) : Int) := by
  unfold mkC
  rw [show (q * 3 + 2) % MoveK.length = 2 from by show _ % 3 = 2; omega]
  rfl
set_option maxHeartbeats 1600000 in
theorem markMoveS_any (a : Option Addr) (n cap k B U : Nat) (w : World) (H : OwnG 60 w B U a (n * 3)) (hB : B ≤ w.heap.size) (hn : n ≤ 1048576) (hk : 0 < k) (hk2 : k + n * 3 ≤ 5000000) :
    Calls Try.prog 53 #[.slice a n cap, .int .i64 (k : Int)] w fun e w' => e = .returned (.int .i64 ((k + n * 3 : Nat) : Int)) ∧ RowV w' a (n * 3) (mkC MoveK k) ∧ ∃ b, B ≤ b ∧ (b < U ∨ w.heap.size ≤ b) ∧ OnlyG b w w' := by
  rcases H with h0 | ⟨b, h1, h2, rfl, cur, hcur, hsz⟩
  · obtain rfl : n = 0 := by omega
    go_enter Try.func53, Try.ntmps53
    go_wp2
    go_loopw [1, 5] (fun kv iv wr => iv = .int .i64 0 ∧ kv = .int .i64 (k : Nat) ∧ wr = w) (fun _ _ _ => 0)
    case atStart => exact ⟨rfl, rfl, rfl⟩
    case round =>
      obtain ⟨rfl, rfl, rfl⟩ := hrel
      go_wp2
      go_ret
      exact ⟨by simp, fun j hj => by omega, _, hB, .inr (Nat.le_refl _), OnlyG.refl _ _⟩
  · go_enter Try.func53, Try.ntmps53
    go_wp2
    go_loopw [1, 5] (fun kv iv wr => ∃ q : Nat, q ≤ n ∧ iv = .int .i64 (q : Nat) ∧ kv = .int .i64 ((k + q * 3 : Nat) : Int) ∧ MarkW 60 w wr b cur.size (q * 3) (mkC MoveK k)) (fun _ iv _ => n - (intOf iv).toNat)
    case atStart => exact ⟨0, Nat.zero_le _, rfl, by simp, OnlyG.refl _ _, cur, hcur, rfl, fun j hj => by omega⟩
    case round =>
      obtain ⟨q, hq, rfl, rfl, hM⟩ := hrel
      by_cases hlt : q < n
      · have hlt' : (q : Int) < (n : Int) := by omega
        obtain ⟨⟨u0, c0⟩, f0⟩ := hM.cell (j := q * 3) (by omega)
        have HP0 := Lib.hid (hM.put (by omega) (MoveK_0 k q))
        go_wp2_with fail
        refine (markTextG_any (k + q * 3 + 1) _ (by omega) (by omega)).mono ?_
        rintro e w1 ⟨rfl, hb1⟩
        have hN1 := HP0.out.below hb1
        obtain ⟨⟨u1, c1⟩, f1⟩ := hN1.cell (j := q * 3 + 1) (by omega)
        have HP1 := Lib.hid (hN1.put (by omega) (MoveK_1 k q))
        clear hN1 hb1
        obtain ⟨⟨u2, c2⟩, f2⟩ := HP1.out.cell (j := q * 3 + 2) (by omega)
        have HP2 := Lib.hid (HP1.out.put (by omega) (MoveK_2 k q))
        go_wp2_with fail
        go_roundw
        case rel => exact ⟨q + 1, by omega, by go_num, by go_num, by have := HP2.out; rwa [show (q + 1) * 3 = q * 3 + 3 from by omega]⟩
        case measure => simp [intOf]; omega
      · have hlt' : ¬ (q : Int) < (n : Int) := by omega
        obtain rfl : q = n := by omega
        go_wp2
        go_ret
        obtain ⟨o1, cur', o2, o3, o4⟩ := hM
        exact ⟨rfl, fun j hj => ⟨b, 0, rfl, (Array.getElem?_eq_some_iff.1 o2).1, by rw [Nat.zero_add, cell_of_block o2 j, o4 j hj]⟩, b, h1, .inl h2, o1⟩
def EndK : List Bool := [false, true, false]
theorem EndK_0 (k q : Nat) : mkC EndK k (q * 3) = .int .i64 ((k + q * 3 : Nat) : Int) := by
  unfold mkC
  rw [show (q * 3) % EndK.length = 0 from by show _ % 3 = 0; omega]
  rfl
theorem EndK_1 (k q : Nat) : mkC EndK k (q * 3 + 1) = .string (mB (k + q * 3 + 1)) := by
  unfold mkC
  rw [show (q * 3 + 1) % EndK.length = 1 from by show _ % 3 = 1; omega]
  rfl
theorem EndK_2 (k q : Nat) : mkC EndK k (q * 3 + 2) = .int .i64 ((k + q * 3 + 2 : Nat) : Int) := by
  unfold mkC
  rw [show (q * 3 + 2) % EndK.length = 2 from by show _ % 3 = 2; omega]
  rfl
set_option maxHeartbeats 1600000 in
theorem markEndS_any (a : Option Addr) (n cap k B U : Nat) (w : World) (H : OwnG 63 w B U a (n * 3)) (hB : B ≤ w.heap.size) (hn : n ≤ 1048576) (hk : 0 < k) (hk2 : k + n * 3 ≤ 5000000) :
    Calls Try.prog 54 #[.slice a n cap, .int .i64 (k : Int)] w fun e w' => e = .returned (.int .i64 ((k + n * 3 : Nat) : Int)) ∧ RowV w' a (n * 3) (mkC EndK k) ∧ ∃ b, B ≤ b ∧ (b < U ∨ w.heap.size ≤ b) ∧ OnlyG b w w' := by
  rcases H with h0 | ⟨b, h1, h2, rfl, cur, hcur, hsz⟩
  · obtain rfl : n = 0 := by omega
    go_enter Try.func54, Try.ntmps54
    go_wp2
    go_loopw [1, 5] (fun kv iv wr => iv = .int .i64 0 ∧ kv = .int .i64 (k : Nat) ∧ wr = w) (fun _ _ _ => 0)
    case atStart => exact ⟨rfl, rfl, rfl⟩
    case round =>
      obtain ⟨rfl, rfl, rfl⟩ := hrel
      go_wp2
      go_ret
      exact ⟨by simp, fun j hj => by omega, _, hB, .inr (Nat.le_refl _), OnlyG.refl _ _⟩
  · go_enter Try.func54, Try.ntmps54
    go_wp2
    go_loopw [1, 5] (fun kv iv wr => ∃ q : Nat, q ≤ n ∧ iv = .int .i64 (q : Nat) ∧ kv = .int .i64 ((k + q * 3 : Nat) : Int) ∧ MarkW 63 w wr b cur.size (q * 3) (mkC EndK k)) (fun _ iv _ => n - (intOf iv).toNat)
    case atStart => exact ⟨0, Nat.zero_le _, rfl, by simp, OnlyG.refl _ _, cur, hcur, rfl, fun j hj => by omega⟩
    case round =>
      obtain ⟨q, hq, rfl, rfl, hM⟩ := hrel
      by_cases hlt : q < n
      · have hlt' : (q : Int) < (n : Int) := by omega
        obtain ⟨⟨u0, c0⟩, f0⟩ := hM.cell (j := q * 3) (by omega)
        have HP0 := Lib.hid (hM.put (by omega) (EndK_0 k q))
        go_wp2_with fail
        refine (markTextG_any (k + q * 3 + 1) _ (by omega) (by omega)).mono ?_
        rintro e w1 ⟨rfl, hb1⟩
        have hN1 := HP0.out.below hb1
        obtain ⟨⟨u1, c1⟩, f1⟩ := hN1.cell (j := q * 3 + 1) (by omega)
        have HP1 := Lib.hid (hN1.put (by omega) (EndK_1 k q))
        clear hN1 hb1
        obtain ⟨⟨u2, c2⟩, f2⟩ := HP1.out.cell (j := q * 3 + 2) (by omega)
        have HP2 := Lib.hid (HP1.out.put (by omega) (EndK_2 k q))
        go_wp2_with fail
        go_roundw
        case rel => exact ⟨q + 1, by omega, by go_num, by go_num, by have := HP2.out; rwa [show (q + 1) * 3 = q * 3 + 3 from by omega]⟩
        case measure => simp [intOf]; omega
      · have hlt' : ¬ (q : Int) < (n : Int) := by omega
        obtain rfl : q = n := by omega
        go_wp2
        go_ret
        obtain ⟨o1, cur', o2, o3, o4⟩ := hM
        exact ⟨rfl, fun j hj => ⟨b, 0, rfl, (Array.getElem?_eq_some_iff.1 o2).1, by rw [Nat.zero_add, cell_of_block o2 j, o4 j hj]⟩, b, h1, .inl h2, o1⟩
def ClashK : List Bool := [false, true]
theorem ClashK_0 (k q : Nat) : mkC ClashK k (q * 2) = .int .i64 ((k + q * 2 : Nat) : Int) := by
  unfold mkC
  rw [show (q * 2) % ClashK.length = 0 from by show _ % 2 = 0; omega]
  rfl
theorem ClashK_1 (k q : Nat) : mkC ClashK k (q * 2 + 1) = .string (mB (k + q * 2 + 1)) := by
  unfold mkC
  rw [show (q * 2 + 1) % ClashK.length = 1 from by show _ % 2 = 1; omega]
  rfl
set_option maxHeartbeats 1600000 in
theorem markClashS_any (a : Option Addr) (n cap k B U : Nat) (w : World) (H : OwnG 77 w B U a (n * 2)) (hB : B ≤ w.heap.size) (hn : n ≤ 1048576) (hk : 0 < k) (hk2 : k + n * 2 ≤ 5000000) :
    Calls Try.prog 24 #[.slice a n cap, .int .i64 (k : Int)] w fun e w' => e = .returned (.int .i64 ((k + n * 2 : Nat) : Int)) ∧ RowV w' a (n * 2) (mkC ClashK k) ∧ ∃ b, B ≤ b ∧ (b < U ∨ w.heap.size ≤ b) ∧ OnlyG b w w' := by
  rcases H with h0 | ⟨b, h1, h2, rfl, cur, hcur, hsz⟩
  · obtain rfl : n = 0 := by omega
    go_enter Try.func24, Try.ntmps24
    go_wp2
    go_loopw [1, 5] (fun kv iv wr => iv = .int .i64 0 ∧ kv = .int .i64 (k : Nat) ∧ wr = w) (fun _ _ _ => 0)
    case atStart => exact ⟨rfl, rfl, rfl⟩
    case round =>
      obtain ⟨rfl, rfl, rfl⟩ := hrel
      go_wp2
      go_ret
      exact ⟨by simp, fun j hj => by omega, _, hB, .inr (Nat.le_refl _), OnlyG.refl _ _⟩
  · go_enter Try.func24, Try.ntmps24
    go_wp2
    go_loopw [1, 5] (fun kv iv wr => ∃ q : Nat, q ≤ n ∧ iv = .int .i64 (q : Nat) ∧ kv = .int .i64 ((k + q * 2 : Nat) : Int) ∧ MarkW 77 w wr b cur.size (q * 2) (mkC ClashK k)) (fun _ iv _ => n - (intOf iv).toNat)
    case atStart => exact ⟨0, Nat.zero_le _, rfl, by simp, OnlyG.refl _ _, cur, hcur, rfl, fun j hj => by omega⟩
    case round =>
      obtain ⟨q, hq, rfl, rfl, hM⟩ := hrel
      by_cases hlt : q < n
      · have hlt' : (q : Int) < (n : Int) := by omega
        obtain ⟨⟨u0, c0⟩, f0⟩ := hM.cell (j := q * 2) (by omega)
        have HP0 := Lib.hid (hM.put (by omega) (ClashK_0 k q))
        go_wp2_with fail
        refine (markTextG_any (k + q * 2 + 1) _ (by omega) (by omega)).mono ?_
        rintro e w1 ⟨rfl, hb1⟩
        have hN1 := HP0.out.below hb1
        obtain ⟨⟨u1, c1⟩, f1⟩ := hN1.cell (j := q * 2 + 1) (by omega)
        have HP1 := Lib.hid (hN1.put (by omega) (ClashK_1 k q))
        clear hN1 hb1
        go_wp2_with fail
        go_roundw
        case rel => exact ⟨q + 1, by omega, by go_num, by go_num, by have := HP1.out; rwa [show (q + 1) * 2 = q * 2 + 2 from by omega]⟩
        case measure => simp [intOf]; omega
      · have hlt' : ¬ (q : Int) < (n : Int) := by omega
        obtain rfl : q = n := by omega
        go_wp2
        go_ret
        obtain ⟨o1, cur', o2, o3, o4⟩ := hM
        exact ⟨rfl, fun j hj => ⟨b, 0, rfl, (Array.getElem?_eq_some_iff.1 o2).1, by rw [Nat.zero_add, cell_of_block o2 j, o4 j hj]⟩, b, h1, .inl h2, o1⟩
set_option maxHeartbeats 1600000 in
theorem heldClashS_any (a : Option Addr) (n cap k : Nat) (w : World) (H : RowV w a (n * 2) (mkC ClashK k)) (hn : n ≤ 1048576) (hk : 0 < k) (hk2 : k + n * 2 ≤ 5000000) :
    Calls Try.prog 25 #[.slice a n cap, .int .i64 (k : Int)] w fun e w' => e = .returned (.int .i64 ((k + n * 2 : Nat) : Int)) ∧ Below w.heap.size w w' := by
  go_enter Try.func25, Try.ntmps25
  go_wp2
  go_loopw [1, 5] (fun kv iv wr => ∃ q : Nat, q ≤ n ∧ iv = .int .i64 (q : Nat) ∧ kv = .int .i64 ((k + q * 2 : Nat) : Int) ∧ Below w.heap.size w wr) (fun _ iv _ => n - (intOf iv).toNat)
  case atStart => exact ⟨0, Nat.zero_le _, rfl, by simp, Below.refl _ _⟩
  case round =>
    obtain ⟨q, hq, rfl, rfl, hb⟩ := hrel
    by_cases hlt : q < n
    · have hlt' : (q : Int) < (n : Int) := by omega
      have hbd : (0 : Int) ≤ (q : Int) := by omega
      have hne : ∀ s : ByteArray, (s.toList != s.toList) = false := fun s => by simp
      obtain ⟨b1, off1, e1, hl1, c0⟩ := (H.below hb) (q * 2) (by omega)
      obtain ⟨b', off', e', _, c1⟩ := (H.below hb) (q * 2 + 1) (by omega)
      rw [e1] at e'
      simp only [Option.some.injEq, Addr.mk.injEq] at e'
      obtain ⟨rfl, rfl, _⟩ := e'
      subst e1
      rw [ClashK_0 k q] at c0
      rw [ClashK_1 k q] at c1
      rw [← Nat.add_assoc] at c1
      have q1 : ∀ x, (grow wr x).cell? ⟨b1, off1 + q * 2 + 1, none⟩ = some (.string (mB (k + q * 2 + 1))) := fun x => by rw [grow_cell _ _ _ _ hl1]; exact c1
      have C1 : ∀ x, Calls Try.prog 55 #[.int .i64 ((k + q * 2 + 1 : Nat) : Int)] (grow wr x) fun e w' => e = .returned (.string (mB (k + q * 2 + 1))) ∧ ∃ y, w' = grow wr y := fun x => Calls.grow_of (markTextG_any (k + q * 2 + 1) _ (by omega) (by omega))
      go_wp2_with fail
      refine wp_region_grow (by kernel_rfl) (by kernel_rfl) ?_
      repeat (go_big_quiet_step ((first | (go_at_call 55; exact C1 _) | fail)))
      refine wpQuiet_nil ?_
      rintro _ ⟨x, rfl⟩
      have hbx := below_grow wr x
      have hb1n := hb.trans (hbx.mono hb.size)
      have hl1n : b1 < (grow wr x).heap.size := Nat.lt_of_lt_of_le hl1 hbx.size
      clear q1 C1 c1 hbx
      generalize grow wr x = w1n at *
      go_wp2_with fail
      go_roundw
      case rel => exact ⟨q + 1, by omega, by go_num, by go_num, hb1n⟩
      case measure => simp [intOf]; omega
    · obtain rfl : q = n := by omega
      go_wp2
      go_ret
      exact ⟨rfl, hb⟩
theorem eqClash_self (z0 : Int) (s1 : ByteArray) (w : World) :
    Calls Try.prog 52 #[.agg #[.int .i64 z0, .string s1], .agg #[.int .i64 z0, .string s1]] w fun e w' => e = .returned (.bool true) ∧ Below w.heap.size w w' := by
  go_enter Try.func52, Try.ntmps52
  go_wp2
  go_ret
  exact ⟨rfl, ((Below.refl _ _).alloc (Nat.le_refl _) _).alloc (by simp) _⟩
/-- the cells of a row of Clashs -/
def ClashF (n : Nat) (f : Nat → Value) : Prop := ∀ i, i < n → ∃ (z0 : Int) (s1 : ByteArray), f (i * 2) = .int .i64 z0 ∧ f (i * 2 + 1) = .string s1
set_option maxHeartbeats 1600000 in
theorem eqClashS_self (a a' : Option Addr) (n cap cap' : Nat) (f : Nat → Value) (w : World) (hF : ClashF n f) (H : RowV w a (n * 2) f) (H' : RowV w a' (n * 2) f) (hn : n ≤ 1048576) :
    Calls Try.prog 22 #[.slice a n cap, .slice a' n cap'] w fun e w' => e = .returned (.bool true) ∧ Below w.heap.size w w' := by
  go_enter Try.func22, Try.ntmps22
  go_wp2
  go_loopw [5] (fun i wr => ∃ q : Nat, q ≤ n ∧ i = .int .i64 q ∧ Below w.heap.size w wr) (fun i _ => n - (intOf i).toNat)
  case atStart => exact ⟨0, Nat.zero_le _, rfl, Below.refl _ _⟩
  case round =>
    obtain ⟨q, hq, rfl, hb⟩ := hrel
    by_cases hlt : q < n
    · have hlt' : (q : Int) < (n : Int) := by omega
      have hbd : (0 : Int) ≤ (q : Int) := by omega
      have hsz := hb.size
      obtain ⟨z0, s1, g0, g1⟩ := hF q hlt
      obtain ⟨b1, off1, e1, hl1, c0⟩ := (H.below hb) (q * 2) (by omega)
      obtain ⟨b', off', e', _, c1⟩ := (H.below hb) (q * 2 + 1) (by omega)
      rw [e1] at e'
      simp only [Option.some.injEq, Addr.mk.injEq] at e'
      obtain ⟨rfl, rfl, _⟩ := e'
      subst e1
      rw [g0] at c0
      rw [g1] at c1
      rw [← Nat.add_assoc] at c1
      obtain ⟨b2, off2, e2, hl2, d0⟩ := (H'.below hb) (q * 2) (by omega)
      obtain ⟨b', off', e', _, d1⟩ := (H'.below hb) (q * 2 + 1) (by omega)
      rw [e2] at e'
      simp only [Option.some.injEq, Addr.mk.injEq] at e'
      obtain ⟨rfl, rfl, _⟩ := e'
      subst e2
      rw [g0] at d0
      rw [g1] at d1
      rw [← Nat.add_assoc] at d1
      have p0 : ∀ x, (grow wr x).cell? ⟨b1, off1 + q * 2, none⟩ = some (.int .i64 z0) := fun x => by rw [grow_cell _ _ _ _ hl1]; exact c0
      have r0 : ∀ x, (grow wr x).cell? ⟨b2, off2 + q * 2, none⟩ = some (.int .i64 z0) := fun x => by rw [grow_cell _ _ _ _ hl2]; exact d0
      have p1 : ∀ x, (grow wr x).cell? ⟨b1, off1 + q * 2 + 1, none⟩ = some (.string s1) := fun x => by rw [grow_cell _ _ _ _ hl1]; exact c1
      have r1 : ∀ x, (grow wr x).cell? ⟨b2, off2 + q * 2 + 1, none⟩ = some (.string s1) := fun x => by rw [grow_cell _ _ _ _ hl2]; exact d1
      go_wp2_with fail
      refine wp_region_grow (by kernel_rfl) (by kernel_rfl) ?_
      repeat (go_big_quiet_step ((first | (go_at_call 52; exact Calls.grow_of (eqClash_self _ _ _)) | fail)))
      refine wpQuiet_nil ?_
      rintro _ ⟨x, rfl⟩
      have hfin : Below w.heap.size w (grow wr x) := hb.trans ((below_grow _ _).mono hsz)
      go_wp2
      go_roundw
      case rel => exact ⟨q + 1, by omega, by go_num, hfin⟩
      case measure => simp [intOf]; omega
    · have hlt' : ¬ (q : Int) < (n : Int) := by omega
      go_wp2
      go_ret
      exact ⟨rfl, hb⟩
end Go.Proofs.Ytiloalbjcmpljaa
