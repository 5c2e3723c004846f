/- Rows of whole numbers in the exact laws: toIntS, eqIntS, markIntS; how such an argument lies in memory; GramOnly at any grammar. -/
import Derived.Test.YtjpkohahabclgaaOnlyC
import Derived.Test.YtjpkohahabclgaaMarkA
import Derived.Test.YtjpkohahabclgaaOpenG
namespace Go.Proofs.Ytjpkohahabclgaa
open Go.ChangeShapes Go.WideShapes Go.ChangeAt Go.RowKit Go.Joins Go.Deep
set_option maxRecDepth 100000
section
variable {H : Type} {enc : TypeId × Value → H} {W : World} {base : Nat} {spare : Nat → Bool} {held : Bool}
theorem open_nums {r : Reach} {b0 : Nat} {v : Value} {d : DataW H} {p : List MemPlace} (hv : Value.okWide Try.prog W r b0 34 v) (h : DataW.Trod enc Try.prog W base spare held 34 v d p) :
    ∃ (a : Option Addr) (cap : Nat) (zs : List Int), v = .slice a zs.length cap ∧ IntsAt W a zs := by
  obtain ⟨a, n, cap, rfl⟩ := okWide_slice Try.underlying34 hv
  obtain ⟨fuel, hf⟩ := h
  rcases open_ints Try.underlying34 Try.underlying3 (by kernel_rfl) hf with ⟨hcs, _⟩ | ⟨x, l, c, zs, hcs, _, hl, hm, hz, _, hcell, _⟩
  · simp [Value.cells] at hcs
    obtain ⟨rfl, rfl, rfl⟩ := hcs
    exact ⟨none, 0, [], rfl, Nat.zero_le _, fun i hi => absurd hi (Nat.not_lt_zero _)⟩
  · simp [Value.cells] at hcs
    obtain ⟨rfl, rfl, rfl⟩ := hcs
    have hz' : n ≤ zs.length := by rw [hz]; split <;> omega
    refine ⟨some x, cap, zs.take n, by rw [List.length_take, Nat.min_eq_left hz'], ?_, fun i hi => ?_⟩
    · rw [List.length_take]; omega
    · have hi' : i < n := by rw [List.length_take] at hi; omega
      have hc := hcell i (by omega)
      obtain ⟨b, off, spot⟩ := x
      have hspot : spot = none := by simpa [Addr.add] using World.cell?_spot (hcell 0 (by omega))
      subst hspot
      rw [add_plain] at hc
      have hi2 : i < zs.length := by omega
      rw [show zs.getD i 0 = zs[i] from by simp [List.getD, hi2]] at hc
      exact ⟨b, off, rfl, World.block_lt_of_cell? _ _ hc, by rw [List.getElem_take]; exact hc⟩
end
theorem run_make_ints (n : Nat) (hn : n ≤ 1048576) (w : World) : (Instr.makeSlice 34 (.int .i64 (n : Int)) (.int .i64 (n : Int))).run Try.prog w = .ok (.slice (some ⟨w.heap.size, 0, none⟩) n n) (w.alloc (.cells (madeCells #[.int .i64 0] n) 3)) := by
  have hinfo : (Try.prog.info? 3).map (fun i => (i.zero, i.size, i.bytes)) = some (some (.int .i64 0), 1, 8) := by kernel_rfl
  obtain ⟨i, hi, hzz⟩ := Option.map_eq_some_iff.1 hinfo
  simp only [Prod.mk.injEq] at hzz
  obtain ⟨hz, hs, hb⟩ := hzz
  have hr := run_make (P := Try.prog) w 34 3 i _ Try.underlying34 hi hz .i64 .i64 n n (by omega) (Int.le_refl _) (by rw [hb]; omega) (by omega)
  rw [hs] at hr
  simpa [Value.cells] using hr
def zCell (zs : List Int) (i : Nat) : Value := .int .i64 (zs.getD i 0)
def zPart (zs : List Int) (k i : Nat) : Value := if i < k then zCell zs i else .int .i64 0
theorem zCell_at (zs : List Int) {i : Nat} (h : i < zs.length) : zCell zs i = .int .i64 zs[i] := by
  unfold zCell; rw [show zs.getD i 0 = zs[i] from by simp [List.getD, h]]
theorem intsAt_of_row {w : World} {b : Nat} {zs : List Int} (h : w.rowIs b 3 zs.length (zCell zs)) (hm : zs.length ≤ maxLen) : IntsAt w (some ⟨b, 0, none⟩) zs :=
  ⟨hm, fun i hi => ⟨b, 0, rfl, h.lt, by rw [Nat.zero_add, h.cell hi, zCell_at zs hi]⟩⟩
def FreshInts (zs : List Int) (w : World) (e : Ending) (w' : World) : Prop := ∃ b, e = .returned (.slice (some ⟨b, 0, none⟩) zs.length zs.length) ∧ w.heap.size ≤ b ∧ w'.rowIs b 3 zs.length (zCell zs) ∧ Below w.heap.size w w'
set_option maxHeartbeats 400000 in
theorem toIntS_any (a : Option Addr) (cap : Nat) (zs : List Int) (w : World) (H : IntsAt w a zs) (hn : zs.length ≤ 1048576) :
    Calls Try.prog 27 #[.slice a zs.length cap] w (FreshInts zs w) := by
  have hmk := run_make_ints zs.length hn
  go_enter Try.func27, Try.ntmps27
  go_wp2
  clear hmk
  go_loopw [4] (fun i wr => ∃ k : Nat, k ≤ zs.length ∧ i = .int .i64 k ∧ wr.rowIs w.heap.size 3 zs.length (zPart zs k) ∧ Below w.heap.size w wr) (fun i _ => zs.length - (intOf i).toNat)
  case atStart =>
    refine ⟨0, Nat.zero_le _, rfl, ?_, (Below.refl _ _).alloc (Nat.le_refl _) _⟩
    have hr := World.rowIs_alloc w (madeCells #[.int .i64 0] zs.length) 3 (zPart zs 0) (fun i hi => by rw [size_madeCells] at hi; simp [madeCells, hi, zPart, Nat.mod_one])
    rwa [size_madeCells] at hr
  case round =>
    obtain ⟨k, hk, rfl, hrow, hb⟩ := hrel
    by_cases hlt : k < zs.length
    · obtain ⟨b, off, e, hbb, c1⟩ := H.2 k hlt
      subst e
      have hkl : (k : Int) < (zs.length : Int) := by omega
      have d1 : wr.cell? ⟨b, off + k, none⟩ = some (.int .i64 zs[k]) := by rw [hb.cell (p := ⟨b, _, none⟩) hbb, c1]
      have e0 := hrow.cell (i := k) hlt
      have f0 := hrow.frozen k
      have HR := Lib.hid (hrow.set k (.int .i64 zs[k]))
      have HB := Lib.hid (hb.setCell (p := ⟨w.heap.size, k, none⟩) (Nat.le_refl _) (.int .i64 zs[k]))
      clear hrow hb
      go_wp2
      go_roundw
      case rel =>
        refine ⟨k + 1, by omega, by go_num, HR.out.congr (fun i hi => ?_), HB.out⟩
        unfold zPart
        by_cases i1 : i = k
        · subst i1; rw [if_pos rfl, if_pos (by omega), zCell_at zs hlt]
        · rw [if_neg i1]
          by_cases i2 : i < k
          · rw [if_pos i2, if_pos (by omega)]
          · rw [if_neg i2, if_neg (by omega)]
      case measure => simp [intOf]; omega
    · have hkl : ¬ (k : Int) < (zs.length : Int) := by omega
      go_wp2
      go_ret
      exact ⟨w.heap.size, rfl, Nat.le_refl _, hrow.congr (fun i hi => by unfold zPart; rw [if_pos (by omega)]), hb⟩
set_option maxHeartbeats 400000 in
theorem eqIntS_any (a a' : Option Addr) (cap cap' : Nat) (zs : List Int) (w : World) (H : IntsAt w a zs) (H' : IntsAt w a' zs) :
    Calls Try.prog 23 #[.slice a zs.length cap, .slice a' zs.length cap'] w fun e w' => e = .returned (.bool true) ∧ Below w.heap.size w w' := by
  have hn := H.1
  unfold maxLen at hn
  go_enter Try.func23, Try.ntmps23
  go_wp2
  go_loopw [5] (fun i wr => ∃ k : Nat, k ≤ zs.length ∧ i = .int .i64 k ∧ Below w.heap.size w wr) (fun i _ => zs.length - (intOf i).toNat)
  case atStart => exact ⟨0, Nat.zero_le _, rfl, Below.refl _ _⟩
  case round =>
    obtain ⟨k, hk, rfl, hb⟩ := hrel
    by_cases hlt : k < zs.length
    · obtain ⟨b, off, e, hbb, c1⟩ := H.2 k hlt
      obtain ⟨b', off', e', hbb', c1'⟩ := H'.2 k hlt
      subst e e'
      have hkl : (k : Int) < (zs.length : Int) := by omega
      have d1 : wr.cell? ⟨b, off + k, none⟩ = some (.int .i64 zs[k]) := by rw [hb.cell (p := ⟨b, _, none⟩) hbb, c1]
      have d1' : wr.cell? ⟨b', off' + k, none⟩ = some (.int .i64 zs[k]) := by rw [hb.cell (p := ⟨b', _, none⟩) hbb', c1']
      have d2 : wr.drew.cell? ⟨b, off + k, none⟩ = some (.int .i64 zs[k]) := d1
      have d2' : wr.drew.cell? ⟨b', off' + k, none⟩ = some (.int .i64 zs[k]) := d1'
      go_wp2
      go_region
      all_goals
        go_wp2
        go_roundw
        case rel => exact ⟨k + 1, by omega, by go_num, hb.drew⟩
        case measure => simp [intOf]; omega
    · have hkl : ¬ (k : Int) < (zs.length : Int) := by omega
      go_wp2
      go_ret
      exact ⟨rfl, hb⟩
set_option maxHeartbeats 400000 in
theorem markIntS_any (b n cap k : Nat) (f : Nat → Value) (w : World) (H : w.rowIs b 3 n f) (hn : n ≤ 1048576) (hk : k ≤ 3000000) :
    Calls Try.prog 24 #[.slice (some ⟨b, 0, none⟩) n cap, .int .i64 (k : Int)] w fun e w' => e = .returned (.int .i64 ((k + n : Nat) : Int)) ∧ Only b w w' := by
  go_enter Try.func24, Try.ntmps24
  go_wp2
  go_loopw [1, 5] (fun kv iv wr => ∃ (q : Nat) (g : Nat → Value), q ≤ n ∧ iv = .int .i64 (q : Nat) ∧ kv = .int .i64 ((k + q : Nat) : Int) ∧ wr.rowIs b 3 n g ∧ Only b w wr) (fun _ iv _ => n - (intOf iv).toNat)
  case atStart => exact ⟨0, f, Nat.zero_le _, rfl, rfl, H, Only.refl _ _⟩
  case round =>
    obtain ⟨q, g, hq, rfl, rfl, hrow, ho⟩ := hrel
    by_cases hlt : q < n
    · have hlt' : (q : Int) < (n : Int) := by omega
      have e0 := hrow.cell (i := q) hlt
      have f0 := hrow.frozen q
      have HR := Lib.hid (hrow.set q (.int .i64 ((k + q : Nat) : Int)))
      have HO : Hid (Only b w (wr.setCell ⟨b, q, none⟩ (.int .i64 ((k + q : Nat) : Int)))) := ho.trans ⟨rfl, rfl, rfl, by simp [World.setCell], fun j _ hj => Below.heap_setCell _ _ _ _ hj⟩
      clear hrow ho
      go_wp2
      go_roundw
      case rel => exact ⟨q + 1, _, by omega, by go_num, by go_num, HR.out, HO.out⟩
      case measure => simp [intOf]; omega
    · have hlt' : ¬ (q : Int) < (n : Int) := by omega
      obtain rfl : q = n := by omega
      go_wp2
      go_ret
      exact ⟨rfl, ho⟩
end Go.Proofs.Ytjpkohahabclgaa
