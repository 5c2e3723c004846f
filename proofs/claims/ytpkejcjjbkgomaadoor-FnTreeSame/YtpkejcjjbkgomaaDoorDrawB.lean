/- Contracts of the reader's 'of' and 'num', and of l1Signed: one of a list; signs. -/
import Derived.Test.YtpkejcjjbkgomaaDoorDrawA
import Derived.Test.YtpkejcjjbkgomaaDoorTextA
namespace Go.Proofs.YtpkejcjjbkgomaaDoor
open Go.ChangeShapes Go.WideShapes Go.ChangeAt Go.RowKit
def DrawnS (P : ByteArray → Prop) (R k : Nat) (w : World) (e : Ending) (w' : World) : Prop := ∃ s : ByteArray, e = .returned (.string s) ∧ P s ∧ Rdk w' R k ∧ Only R w w'
theorem of_any (R k L n cap : Nat) (strs : List ByteArray) (w : World) (H : Rdk w R k) (hk : k ≤ 1000000) (hn : strs.length = n) (hn0 : 0 < n) (hn1 : n ≤ 1000) (hLR : L ≠ R)
    (hL : ∀ i (h : i < strs.length), w.cell? ⟨L, i, none⟩ = some (.string strs[i])) :
    Calls Tryd.prog 75 #[.pointer (some ⟨R, 0, none⟩), .slice (some ⟨L, 0, none⟩) n cap] w (DrawnS (fun s => s ∈ strs) R (k + 1) w) := by
  have hLl : L < w.heap.size := World.block_lt_of_cell? _ _ (hL 0 (by omega))
  go_enter Tryd.func75, Tryd.ntmps75
  go_wp2_with fail
  refine (pick_any R k n _ H hk (by omega) (by omega)).mono ?_
  rintro e w' ⟨v, rfl, ⟨hv0, hv1, _⟩, hrd, ho⟩
  obtain ⟨j, rfl⟩ : ∃ j : Nat, v = (j : Int) := ⟨v.toNat, by omega⟩
  have hj : j < strs.length := by have := hv1 (by omega); omega
  have hc : w'.cell? ⟨L, j, none⟩ = some (.string strs[j]) := by rw [ho.cell (p := ⟨L, j, none⟩) hLl hLR]; exact hL j hj
  have hjn : (j : Int) < (n : Int) := by omega
  clear hv1 hL
  go_wp2
  go_ret
  exact ⟨_, rfl, List.getElem_mem hj, hrd, ho⟩
theorem num_any (R k L n cap : Nat) (zs : List Int) (w : World) (H : Rdk w R k) (hk : k ≤ 1000000) (hn : zs.length = n) (hn0 : 0 < n) (hn1 : n ≤ 1000) (hLR : L ≠ R)
    (hL : ∀ i (h : i < zs.length), w.cell? ⟨L, i, none⟩ = some (.int .i64 zs[i])) :
    Calls Tryd.prog 68 #[.pointer (some ⟨R, 0, none⟩), .slice (some ⟨L, 0, none⟩) n cap] w (Drawn (fun v => v ∈ zs) R (k + 1) w) := by
  have hLl : L < w.heap.size := World.block_lt_of_cell? _ _ (hL 0 (by omega))
  go_enter Tryd.func68, Tryd.ntmps68
  go_wp2_with fail
  refine (pick_any R k n _ H hk (by omega) (by omega)).mono ?_
  rintro e w' ⟨v, rfl, ⟨hv0, hv1, _⟩, hrd, ho⟩
  obtain ⟨j, rfl⟩ : ∃ j : Nat, v = (j : Int) := ⟨v.toNat, by omega⟩
  have hj : j < zs.length := by have := hv1 (by omega); omega
  have hc : w'.cell? ⟨L, j, none⟩ = some (.int .i64 zs[j]) := by rw [ho.cell (p := ⟨L, j, none⟩) hLl hLR]; exact hL j hj
  have hjn : (j : Int) < (n : Int) := by omega
  clear hv1 hL
  go_wp2
  go_ret
  exact ⟨_, rfl, List.getElem_mem hj, hrd, ho⟩
/-- the lists of constants that are drawn from, in a block just made -/
theorem lit_cells (w : World) (strs : List ByteArray) (T : TypeId) : ∀ i (h : i < strs.length), (w.alloc (.cells (strs.map Value.string).toArray T)).cell? ⟨w.heap.size, i, none⟩ = some (.string strs[i]) := fun i h => by
  rw [cell_of_block (blk_new w _ rfl) i]; simp [h]
theorem lit_ints (w : World) (zs : List Int) (T : TypeId) : ∀ i (h : i < zs.length), (w.alloc (.cells (zs.map (Value.int .i64)).toArray T)).cell? ⟨w.heap.size, i, none⟩ = some (.int .i64 zs[i]) := fun i h => by
  rw [cell_of_block (blk_new w _ rfl) i]; simp [h]
theorem Rdk.alloc {w : World} {R k : Nat} (h : Rdk w R k) (o : Obj) : Rdk (w.alloc o) R k := h.below ((Below.refl _ _).alloc (Nat.le_refl _) _)
theorem Only.alloc {R : Nat} {w w' : World} (h : Only R w w') (o : Obj) : Only R w (w'.alloc o) := h.trans (Only.of_below ((Below.refl _ _).alloc (Nat.le_refl _) _))

set_option maxHeartbeats 800000 in
theorem l1Signed_any (R k n : Nat) (w : World) (H : Rdk w R k) (hk : k + n ≤ 1000000) (hn : n ≤ 1000) :
    Calls Tryd.prog 118 #[.pointer (some ⟨R, 0, none⟩), .int .i64 (n : Int)] w (DrawnS (fun s => s.size ≤ n) R (k + n) w) := by
  go_enter Tryd.func118, Tryd.ntmps118
  go_wp2
  go_loopw [5, 6] (fun o i wr => ∃ (j : Nat) (l : List UInt8), j ≤ n ∧ i = .int .i64 j ∧ o = .string (bytesOf l) ∧ l.length ≤ j ∧ Rdk wr R (k + j) ∧ Only R w wr) (fun _ i _ => n - (intOf i).toNat)
  case atStart => exact ⟨0, [], Nat.zero_le _, rfl, rfl, Nat.le_refl _, H, Only.refl _ _⟩
  case round =>
    obtain ⟨j, l, hj, rfl, rfl, hl, hrd, ho⟩ := hrel
    by_cases hlt : j < n
    · have hjn : (j : Int) < (n : Int) := by omega
      go_wp2_with fail
      refine (of_any R (k + j) wr.heap.size 9 _ [⟨#[97]⟩, ⟨#[98]⟩, ⟨#[65]⟩, ⟨#[66]⟩, ⟨#[97]⟩, ⟨#[99]⟩, ⟨#[98]⟩, ⟨#[67]⟩, ⟨#[100]⟩] _ (hrd.alloc _) (by omega) rfl (by omega) (by omega) (by have := hrd.lt; omega) (lit_cells wr [⟨#[97]⟩, ⟨#[98]⟩, ⟨#[65]⟩, ⟨#[66]⟩, ⟨#[97]⟩, ⟨#[99]⟩, ⟨#[98]⟩, ⟨#[67]⟩, ⟨#[100]⟩] _)).mono ?_
      rintro e w' ⟨s, rfl, hs, hrd', ho'⟩
      have hs1 : s.size = 1 := by
        simp only [List.mem_cons, List.not_mem_nil, or_false] at hs
        rcases hs with rfl | rfl | rfl | rfl | rfl | rfl | rfl | rfl | rfl <;> rfl
      have hadd := run_add_bytes (P := Tryd.prog) l s (by omega)
      have hcl : (cat l s).length ≤ j + 1 := by rw [cat_len]; omega
      have ho2 : Only R w w' := (ho.alloc _).trans ho'
      clear hs hs1
      go_wp2
      go_roundw
      case rel => exact ⟨j + 1, cat l s, by omega, by go_num, rfl, hcl, hrd', ho2⟩
      case measure => simp [intOf]; omega
    · go_wp2
      go_ret
      exact ⟨_, rfl, by show (bytesOf l).size ≤ n; rw [bytesOf_size]; omega, hrd.mono (by omega), ho⟩
end Go.Proofs.YtpkejcjjbkgomaaDoor
