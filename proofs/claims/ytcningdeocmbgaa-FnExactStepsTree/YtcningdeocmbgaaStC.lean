/- Rows of steps: equal, marked, looked at again. -/
import Derived.Test.YtcningdeocmbgaaStA
import Derived.Test.YtcningdeocmbgaaRowG
namespace Go.Proofs.Ytcningdeocmbgaa
open Go.ChangeShapes Go.WideShapes Go.ChangeAt Go.RowKit
set_option maxRecDepth 100000
def StepK : List Bool := [false, false]
theorem StepK_0 (k q : Nat) : mkC StepK k (q * 2) = .int .i64 ((k + q * 2 : Nat) : Int) := by
  unfold mkC
  rw [show (q * 2) % StepK.length = 0 from by show _ % 2 = 0; omega]
  rfl
theorem StepK_1 (k q : Nat) : mkC StepK k (q * 2 + 1) = .int .i64 ((k + q * 2 + 1 : Nat) : Int) := by
  unfold mkC
  rw [show (q * 2 + 1) % StepK.length = 1 from by show _ % 2 = 1; omega]
  rfl
set_option maxHeartbeats 1600000 in
theorem markStepS_any (a : Option Addr) (n cap k B U : Nat) (w : World) (H : OwnG 57 w B U a (n * 2)) (hB : B ≤ w.heap.size) (hn : n ≤ 1100000) (hk : 0 < k) (hk2 : k + n * 2 ≤ 5000000) :
    Calls Try.prog 15 #[.slice a n cap, .int .i64 (k : Int)] w fun e w' => e = .returned (.int .i64 ((k + n * 2 : Nat) : Int)) ∧ RowV w' a (n * 2) (mkC StepK k) ∧ ∃ b, B ≤ b ∧ (b < U ∨ w.heap.size ≤ b) ∧ OnlyG b w w' := by
  rcases H with h0 | ⟨b, h1, h2, rfl, cur, hcur, hsz⟩
  · obtain rfl : n = 0 := by omega
    go_enter Try.func15, Try.ntmps15
    go_wp2
    go_loopw [1, 5] (fun kv iv wr => iv = .int .i64 0 ∧ kv = .int .i64 (k : Nat) ∧ wr = w) (fun _ _ _ => 0)
    case atStart => exact ⟨rfl, rfl, rfl⟩
    case round =>
      obtain ⟨rfl, rfl, rfl⟩ := hrel
      go_wp2
      go_ret
      exact ⟨by simp, fun j hj => by omega, _, hB, .inr (Nat.le_refl _), OnlyG.refl _ _⟩
  · go_enter Try.func15, Try.ntmps15
    go_wp2
    go_loopw [1, 5] (fun kv iv wr => ∃ q : Nat, q ≤ n ∧ iv = .int .i64 (q : Nat) ∧ kv = .int .i64 ((k + q * 2 : Nat) : Int) ∧ MarkW 57 w wr b cur.size (q * 2) (mkC StepK k)) (fun _ iv _ => n - (intOf iv).toNat)
    case atStart => exact ⟨0, Nat.zero_le _, rfl, by simp, OnlyG.refl _ _, cur, hcur, rfl, fun j hj => by omega⟩
    case round =>
      obtain ⟨q, hq, rfl, rfl, hM⟩ := hrel
      by_cases hlt : q < n
      · have hlt' : (q : Int) < (n : Int) := by omega
        obtain ⟨⟨u0, c0⟩, f0⟩ := hM.cell (j := q * 2) (by omega)
        have HP0 := Lib.hid (hM.put (v := .int .i64 ((k : Int) + (q : Int) * 2)) (by omega) (by rw [StepK_0 k q]; rfl))
        obtain ⟨⟨u1, c1⟩, f1⟩ := hM.cell (j := q * 2 + 1) (by omega)
        have HP1 := Lib.hid (HP0.out.put (v := .int .i64 ((k : Int) + (q : Int) * 2 + 1)) (by omega) (by rw [StepK_1 k q]; rfl))
        go_wp2_with fail
        go_roundw
        case rel => exact ⟨q + 1, by omega, by go_num, by go_num, by have := HP1.out; rwa [show (q + 1) * 2 = q * 2 + 2 from by omega]⟩
        case measure => simp [intOf]; omega
      · have hlt' : ¬ (q : Int) < (n : Int) := by omega
        obtain rfl : q = n := by omega
        go_wp2
        go_ret
        obtain ⟨o1, cur', o2, o3, o4⟩ := hM
        exact ⟨rfl, fun j hj => ⟨b, 0, rfl, (Array.getElem?_eq_some_iff.1 o2).1, by rw [Nat.zero_add, cell_of_block o2 j, o4 j hj]⟩, b, h1, .inl h2, o1⟩
set_option maxHeartbeats 1600000 in
theorem heldStepS_any (a : Option Addr) (n cap k : Nat) (w : World) (H : RowV w a (n * 2) (mkC StepK k)) (hn : n ≤ 1100000) (hk : 0 < k) (hk2 : k + n * 2 ≤ 5000000) :
    Calls Try.prog 22 #[.slice a n cap, .int .i64 (k : Int)] w fun e w' => e = .returned (.int .i64 ((k + n * 2 : Nat) : Int)) ∧ Below w.heap.size w w' := by
  go_enter Try.func22, Try.ntmps22
  go_wp2
  go_loopw [1, 5] (fun kv iv wr => ∃ q : Nat, q ≤ n ∧ iv = .int .i64 (q : Nat) ∧ kv = .int .i64 ((k + q * 2 : Nat) : Int) ∧ Below w.heap.size w wr) (fun _ iv _ => n - (intOf iv).toNat)
  case atStart => exact ⟨0, Nat.zero_le _, rfl, by simp, Below.refl _ _⟩
  case round =>
    obtain ⟨q, hq, rfl, rfl, hb⟩ := hrel
    by_cases hlt : q < n
    · have hlt' : (q : Int) < (n : Int) := by omega
      have hbd : (0 : Int) ≤ (q : Int) := by omega
      have hne : ∀ s : ByteArray, (s.toList != s.toList) = false := fun s => by simp
      obtain ⟨b1, off1, e1, hl1, c0⟩ := (H.below hb) (q * 2) (by omega)
      obtain ⟨b', off', e', _, c1⟩ := (H.below hb) (q * 2 + 1) (by omega)
      rw [e1] at e'
      simp only [Option.some.injEq, Addr.mk.injEq] at e'
      obtain ⟨rfl, rfl, _⟩ := e'
      subst e1
      rw [StepK_0 k q] at c0
      rw [StepK_1 k q] at c1
      rw [← Nat.add_assoc] at c1
      go_wp2_with fail
      go_roundw
      case rel => exact ⟨q + 1, by omega, by go_num, by go_num, hb⟩
      case measure => simp [intOf]; omega
    · obtain rfl : q = n := by omega
      go_wp2
      go_ret
      exact ⟨rfl, hb⟩
theorem eqStep_self (z0 : Int) (z1 : Int) (w : World) :
    Calls Try.prog 37 #[.agg #[.int .i64 z0, .int .i64 z1], .agg #[.int .i64 z0, .int .i64 z1]] w fun e w' => e = .returned (.bool true) ∧ Below w.heap.size w w' := by
  go_enter Try.func37, Try.ntmps37
  go_wp2
  go_ret
  exact ⟨rfl, ((Below.refl _ _).alloc (Nat.le_refl _) _).alloc (by simp) _⟩
/-- the cells of a row of Steps -/
def StepF (n : Nat) (f : Nat → Value) : Prop := ∀ i, i < n → ∃ (z0 : Int) (z1 : Int), f (i * 2) = .int .i64 z0 ∧ f (i * 2 + 1) = .int .i64 z1
set_option maxHeartbeats 1600000 in
theorem eqStepS_self (a a' : Option Addr) (n cap cap' : Nat) (f : Nat → Value) (w : World) (hF : StepF n f) (H : RowV w a (n * 2) f) (H' : RowV w a' (n * 2) f) (hn : n ≤ 1100000) :
    Calls Try.prog 13 #[.slice a n cap, .slice a' n cap'] w fun e w' => e = .returned (.bool true) ∧ Below w.heap.size w w' := by
  go_enter Try.func13, Try.ntmps13
  go_wp2
  go_loopw [5] (fun i wr => ∃ q : Nat, q ≤ n ∧ i = .int .i64 q ∧ Below w.heap.size w wr) (fun i _ => n - (intOf i).toNat)
  case atStart => exact ⟨0, Nat.zero_le _, rfl, Below.refl _ _⟩
  case round =>
    obtain ⟨q, hq, rfl, hb⟩ := hrel
    by_cases hlt : q < n
    · have hlt' : (q : Int) < (n : Int) := by omega
      have hbd : (0 : Int) ≤ (q : Int) := by omega
      have hsz := hb.size
      obtain ⟨z0, z1, g0, g1⟩ := hF q hlt
      obtain ⟨b1, off1, e1, hl1, c0⟩ := (H.below hb) (q * 2) (by omega)
      obtain ⟨b', off', e', _, c1⟩ := (H.below hb) (q * 2 + 1) (by omega)
      rw [e1] at e'
      simp only [Option.some.injEq, Addr.mk.injEq] at e'
      obtain ⟨rfl, rfl, _⟩ := e'
      subst e1
      rw [g0] at c0
      rw [g1] at c1
      rw [← Nat.add_assoc] at c1
      obtain ⟨b2, off2, e2, hl2, d0⟩ := (H'.below hb) (q * 2) (by omega)
      obtain ⟨b', off', e', _, d1⟩ := (H'.below hb) (q * 2 + 1) (by omega)
      rw [e2] at e'
      simp only [Option.some.injEq, Addr.mk.injEq] at e'
      obtain ⟨rfl, rfl, _⟩ := e'
      subst e2
      rw [g0] at d0
      rw [g1] at d1
      rw [← Nat.add_assoc] at d1
      have p0 : ∀ x, (grow wr x).cell? ⟨b1, off1 + q * 2, none⟩ = some (.int .i64 z0) := fun x => by rw [grow_cell _ _ _ _ hl1]; exact c0
      have r0 : ∀ x, (grow wr x).cell? ⟨b2, off2 + q * 2, none⟩ = some (.int .i64 z0) := fun x => by rw [grow_cell _ _ _ _ hl2]; exact d0
      have p1 : ∀ x, (grow wr x).cell? ⟨b1, off1 + q * 2 + 1, none⟩ = some (.int .i64 z1) := fun x => by rw [grow_cell _ _ _ _ hl1]; exact c1
      have r1 : ∀ x, (grow wr x).cell? ⟨b2, off2 + q * 2 + 1, none⟩ = some (.int .i64 z1) := fun x => by rw [grow_cell _ _ _ _ hl2]; exact d1
      go_wp2_with fail
      refine wp_region_grow (by kernel_rfl) (by kernel_rfl) ?_
      repeat (go_big_quiet_step ((first | (go_at_call 37; exact Calls.grow_of (eqStep_self _ _ _)) | fail)))
      refine wpQuiet_nil ?_
      rintro _ ⟨x, rfl⟩
      have hfin : Below w.heap.size w (grow wr x) := hb.trans ((below_grow _ _).mono hsz)
      go_wp2
      go_roundw
      case rel => exact ⟨q + 1, by omega, by go_num, hfin⟩
      case measure => simp [intOf]; omega
    · have hlt' : ¬ (q : Int) < (n : Int) := by omega
      go_wp2
      go_ret
      exact ⟨rfl, hb⟩
theorem flatS_F (a : List StpT) : StepF a.length (fun j => (flatS a).getD j undef) := fun i hi => by
  obtain ⟨h1, h2⟩ := flatS_at a i hi
  exact ⟨a[i].1, a[i].2, by simp only [List.getD_eq_getElem?_getD, h1]; rfl, by simp only [List.getD_eq_getElem?_getD, h2]; rfl⟩
theorem RowS.at {w : World} {B : Nat} {v : Value} {zs : List StpT} (h : RowS w B v zs) : ∃ a cap, v = .slice a zs.length cap ∧ RowV w a (zs.length * 2) (fun j => (flatS zs).getD j undef) ∧ OwnG 57 w B w.heap.size a (zs.length * 2) := by
  obtain ⟨a, cap, e, _, h1, h2⟩ := owns_at h
  exact ⟨a, cap, e, h1, h2⟩
end Go.Proofs.Ytcningdeocmbgaa
