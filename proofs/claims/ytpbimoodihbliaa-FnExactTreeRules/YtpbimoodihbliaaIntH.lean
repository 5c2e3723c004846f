/- Rows of numbers that are compared, marked and looked at again. (split off IntA and EForA) -/
import Derived.Test.YtpbimoodihbliaaOwnZ
import Derived.Test.YtpbimoodihbliaaMarkA
namespace Go.Proofs.Ytpbimoodihbliaa
open Go.ChangeShapes Go.WideShapes Go.ChangeAt Go.RowKit
set_option maxRecDepth 100000
set_option maxHeartbeats 400000 in
theorem eqIntS_any (a a' : Option Addr) (cap cap' : Nat) (zs : List Int) (w : World) (H : IntsAt w a zs) (H' : IntsAt w a' zs) :
    Calls Try.prog 25 #[.slice a zs.length cap, .slice a' zs.length cap'] w fun e w' => e = .returned (.bool true) ∧ Below w.heap.size w w' := by
  have hn := H.1
  unfold maxLen at hn
  go_enter Try.func25, Try.ntmps25
  go_wp2
  go_loopw [5] (fun i wr => ∃ k : Nat, k ≤ zs.length ∧ i = .int .i64 k ∧ Below w.heap.size w wr) (fun i _ => zs.length - (intOf i).toNat)
  case atStart => exact ⟨0, Nat.zero_le _, rfl, Below.refl _ _⟩
  case round =>
    obtain ⟨k, hk, rfl, hb⟩ := hrel
    by_cases hlt : k < zs.length
    · obtain ⟨b, off, e, hbb, c1⟩ := H.2 k hlt
      obtain ⟨b', off', e', hbb', c1'⟩ := H'.2 k hlt
      subst e e'
      have hkl : (k : Int) < (zs.length : Int) := by omega
      have d1 : wr.cell? ⟨b, off + k, none⟩ = some (.int .i64 zs[k]) := by rw [hb.cell (p := ⟨b, _, none⟩) hbb, c1]
      have d1' : wr.cell? ⟨b', off' + k, none⟩ = some (.int .i64 zs[k]) := by rw [hb.cell (p := ⟨b', _, none⟩) hbb', c1']
      have d2 : wr.drew.cell? ⟨b, off + k, none⟩ = some (.int .i64 zs[k]) := d1
      have d2' : wr.drew.cell? ⟨b', off' + k, none⟩ = some (.int .i64 zs[k]) := d1'
      go_wp2
      go_region
      all_goals
        go_wp2
        go_roundw
        case rel => exact ⟨k + 1, by omega, by go_num, hb.drew⟩
        case measure => simp [intOf]; omega
    · have hkl : ¬ (k : Int) < (zs.length : Int) := by omega
      go_wp2
      go_ret
      exact ⟨rfl, hb⟩
/-- numbers of the call's own, from block B on and below block U, or none -/
def OwnI (w : World) (B U : Nat) (a : Option Addr) (zs : List Int) : Prop := zs.length ≤ maxLen ∧ (zs = [] ∨ ∃ g, B ≤ g ∧ g < U ∧ a = some ⟨g, 0, none⟩ ∧ ∃ cur : Array Value, w.heap[g]? = some (.cells cur 3) ∧ zs.length ≤ cur.size ∧ ∀ i (_ : i < zs.length), cur[i]? = some (.int .i64 zs[i]))
theorem OwnI.keep {w w' : World} {B U : Nat} {a : Option Addr} {zs : List Int} (h : OwnI w B U a zs) (hk : ∀ b, B ≤ b → b < U → b < w.heap.size → w'.heap[b]? = w.heap[b]?) : OwnI w' B U a zs := by
  rcases h with ⟨hm, h | ⟨g, h1, h2, h3, cur, h4, h5⟩⟩
  · exact ⟨hm, .inl h⟩
  · exact ⟨hm, .inr ⟨g, h1, h2, h3, cur, (hk g h1 h2 (Array.getElem?_eq_some_iff.1 h4).1).trans h4, h5⟩⟩
theorem OwnI.below {w w' : World} {B U : Nat} {a : Option Addr} {zs : List Int} (h : OwnI w B U a zs) (hb : Below w.heap.size w w') : OwnI w' B U a zs := h.keep fun b _ _ hl => hb.block b hl
theorem OwnI.only {R : Nat} {w w' : World} {B U : Nat} {a : Option Addr} {zs : List Int} (h : OwnI w B U a zs) (hb : Only R w w') (hR : R < B ∨ U ≤ R) : OwnI w' B U a zs := h.keep fun b h1 h2 hl => hb.block b hl (by omega)
theorem OwnI.ints {w : World} {B U : Nat} {a : Option Addr} {zs : List Int} (h : OwnI w B U a zs) : IntsAt w a zs := by
  rcases h with ⟨hm, rfl | ⟨g, _, _, h3, cur, h4, _, h6⟩⟩
  · exact ⟨hm, fun i hi => absurd hi (Nat.not_lt_zero _)⟩
  · exact ⟨hm, fun i hi => ⟨g, 0, h3, (Array.getElem?_eq_some_iff.1 h4).1, by rw [Nat.zero_add, cell_of_block h4 i, h6 i hi]⟩⟩
theorem OwnZ.ints {w : World} {B : Nat} {v : Value} {zs : List Int} (h : OwnZ w B v zs) (hl : zs.length ≤ 1000) : ∃ a cap, v = .slice a zs.length cap ∧ IntsAt w a zs := by
  obtain ⟨g, cap, e, _, hh⟩ := h.at hl
  exact ⟨_, cap, e, hh⟩
/-- the first q cells of block b hold the numbers from k on, and no other block of w has changed -/
def MarkZ (w w' : World) (b k C q : Nat) : Prop :=
  Only b w w' ∧ ∃ cur : Array Value, w'.heap[b]? = some (.cells cur 3) ∧ cur.size = C ∧ ∀ j, j < q → cur[j]? = some (.int .i64 ((k + j : Nat) : Int))
theorem MarkZ.put {w w' : World} {b k C q : Nat} (h : MarkZ w w' b k C q) (hq : q < C) : MarkZ w (w'.setCell ⟨b, q, none⟩ (.int .i64 ((k + q : Nat) : Int))) b k C (q + 1) := by
  obtain ⟨h1, cur, h2, h3, h4⟩ := h
  refine ⟨h1.trans ⟨rfl, rfl, rfl, by simp [World.setCell], fun j _ hj => Below.heap_setCell _ _ _ _ hj⟩, cur.setIfInBounds q (.int .i64 ((k + q : Nat) : Int)), by simp [World.setCell, Array.getElem?_modify, h2], by simpa using h3, fun j hj => ?_⟩
  by_cases e : j = q
  · subst e
    rw [Array.getElem?_setIfInBounds_self, if_pos (by omega)]
  · rw [Array.getElem?_setIfInBounds_ne (fun h => e h.symm)]
    exact h4 j (by omega)
theorem MarkZ.cell {w w' : World} {b k C q : Nat} (h : MarkZ w w' b k C q) {j : Nat} (hj : j < C) : (∃ v, w'.cell? ⟨b, j, none⟩ = some v) ∧ w'.frozen? ⟨b, j, none⟩ = false := by
  obtain ⟨h1, cur, h2, h3, _⟩ := h
  refine ⟨⟨cur[j]'(by omega), ?_⟩, frozen_of_block h2 j⟩
  rw [cell_of_block h2 j]
  simp [h3 ▸ hj]
/-- the row of n numbers holds the numbers from k on -/
def MarkI (w : World) (a : Option Addr) (n k : Nat) : Prop := ∀ j, j < n → ∃ b, a = some ⟨b, 0, none⟩ ∧ b < w.heap.size ∧ w.cell? ⟨b, j, none⟩ = some (.int .i64 ((k + j : Nat) : Int))
theorem MarkI.below {w w' : World} {a : Option Addr} {n k : Nat} (h : MarkI w a n k) (hb : Below w.heap.size w w') : MarkI w' a n k := fun j hj => by
  obtain ⟨b, e, hlt, hc⟩ := h j hj
  exact ⟨b, e, Nat.lt_of_lt_of_le hlt hb.size, by rw [hb.cell (p := ⟨b, j, none⟩) hlt, hc]⟩
set_option maxHeartbeats 400000 in
theorem markOwnI_any (a : Option Addr) (n cap k B U : Nat) (zs : List Int) (w : World) (H : OwnI w B U a zs) (hz : zs.length = n) (hB : B ≤ w.heap.size) (hn : n ≤ 2000000) (hk : k ≤ 3000000) :
    Calls Try.prog 28 #[.slice a n cap, .int .i64 (k : Int)] w fun e w' => e = .returned (.int .i64 ((k + n : Nat) : Int)) ∧ MarkI w' a n k ∧ ∃ b, B ≤ b ∧ (b < U ∨ w.heap.size ≤ b) ∧ Only b w w' := by
  rcases H with ⟨_, rfl | ⟨b, h1, h2, rfl, cur, h4, h5, _⟩⟩
  · obtain rfl : n = 0 := by simpa using hz.symm
    go_enter Try.func28, Try.ntmps28
    go_wp2
    go_loopw [1, 5] (fun kv iv wr => iv = .int .i64 0 ∧ kv = .int .i64 (k : Nat) ∧ wr = w) (fun _ _ _ => 0)
    case atStart => exact ⟨rfl, rfl, rfl⟩
    case round =>
      obtain ⟨rfl, rfl, rfl⟩ := hrel
      go_wp2
      go_ret
      exact ⟨by simp, fun j hj => by omega, _, hB, .inr (Nat.le_refl _), Only.refl _ _⟩
  · rw [hz] at h5
    clear hz
    go_enter Try.func28, Try.ntmps28
    go_wp2
    go_loopw [1, 5] (fun kv iv wr => ∃ q : Nat, q ≤ n ∧ iv = .int .i64 (q : Nat) ∧ kv = .int .i64 ((k + q : Nat) : Int) ∧ MarkZ w wr b k cur.size q) (fun _ iv _ => n - (intOf iv).toNat)
    case atStart => exact ⟨0, Nat.zero_le _, rfl, rfl, Only.refl _ _, cur, h4, rfl, fun j hj => by omega⟩
    case round =>
      obtain ⟨q, hq, rfl, rfl, hM⟩ := hrel
      by_cases hlt : q < n
      · have hlt' : (q : Int) < (n : Int) := by omega
        obtain ⟨⟨u0, c0⟩, f0⟩ := hM.cell (j := q) (by omega)
        have HM := Lib.hid (hM.put (by omega))
        clear hM
        go_wp2
        go_roundw
        case rel => exact ⟨q + 1, by omega, by go_num, by go_num, HM.out⟩
        case measure => simp [intOf]; omega
      · have hlt' : ¬ (q : Int) < (n : Int) := by omega
        obtain rfl : q = n := by omega
        go_wp2
        go_ret
        obtain ⟨o1, cur', o2, o3, o4⟩ := hM
        exact ⟨rfl, fun j hj => ⟨b, rfl, (Array.getElem?_eq_some_iff.1 o2).1, by rw [cell_of_block o2 j, o4 j hj]⟩, b, h1, .inl h2, o1⟩
set_option maxHeartbeats 400000 in
theorem heldIntS_any (a : Option Addr) (n cap k : Nat) (w : World) (H : MarkI w a n k) (hn : n ≤ 2000000) (hk : k ≤ 3000000) :
    Calls Try.prog 29 #[.slice a n cap, .int .i64 (k : Int)] w fun e w' => e = .returned (.int .i64 ((k + n : Nat) : Int)) ∧ Below w.heap.size w w' := by
  go_enter Try.func29, Try.ntmps29
  go_wp2
  go_loopw [1, 5] (fun kv iv wr => ∃ q : Nat, q ≤ n ∧ iv = .int .i64 (q : Nat) ∧ kv = .int .i64 ((k + q : Nat) : Int) ∧ Below w.heap.size w wr) (fun _ iv _ => n - (intOf iv).toNat)
  case atStart => exact ⟨0, Nat.zero_le _, rfl, rfl, Below.refl _ _⟩
  case round =>
    obtain ⟨q, hq, rfl, rfl, hb⟩ := hrel
    by_cases hlt : q < n
    · have hlt' : (q : Int) < (n : Int) := by omega
      obtain ⟨b, rfl, hbl, c0⟩ := (H.below hb) q hlt
      have c1 : wr.drew.cell? ⟨b, q, none⟩ = some (.int .i64 ((k + q : Nat) : Int)) := c0
      go_wp2
      all_goals (try go_region)
      all_goals
        go_wp2
        go_roundw
        case rel => exact ⟨q + 1, by omega, by go_num, by go_num, by first | exact hb | exact hb.drew⟩
        case measure => simp [intOf]; omega
    · have hlt' : ¬ (q : Int) < (n : Int) := by omega
      obtain rfl : q = n := by omega
      go_wp2
      go_ret
      exact ⟨rfl, hb⟩
end Go.Proofs.Ytpbimoodihbliaa
