/- The contract of the program's EditsFar. -/
import Derived.Test.YtiejfbodcjckeaaFaM
import Derived.Test.YtiejfbodcjckeaaEdB
namespace Go.Proofs.Ytiejfbodcjckeaa
open Go.ChangeShapes Go.WideShapes Go.ChangeAt Go.RowKit
set_option maxRecDepth 100000
theorem Int_make (n : Nat) (hn : n ≤ 1100000) (w : World) : (Instr.makeSlice 56 (.int .i64 (n : Int)) (.int .i64 (n : Int))).run Try.prog w = .ok (.slice (some ⟨w.heap.size, 0, none⟩) n n) (w.alloc (.cells (madeCells #[.int .i64 0] n) 3)) := by
  have hinfo : (Try.prog.info? 3).map (fun i => (i.zero, i.size, i.bytes)) = some (some (.int .i64 0), 1, 8) := by kernel_rfl
  obtain ⟨i, hi, hzz⟩ := Option.map_eq_some_iff.1 hinfo
  simp only [Prod.mk.injEq] at hzz
  obtain ⟨hz, hs, hb⟩ := hzz
  have hr := run_make (P := Try.prog) w 56 3 i _ Try.underlying56 hi hz .i64 .i64 n n (by omega) (Int.le_refl _) (by rw [hb]; omega) (by omega)
  rw [hs] at hr
  simpa [Value.cells] using hr
theorem min_if (d u l : Nat) : ((1 : Int) + if (u : Int) < (if l < d then (l : Int) else (d : Int)) then (u : Int) else if l < d then (l : Int) else (d : Int)) = ((min (d + 1) (1 + min u l) : Nat) : Int) := by
  by_cases h : l < d
  · rw [if_pos h]
    by_cases h2 : u < l
    · rw [if_pos (by omega)]; omega
    · rw [if_neg (by omega)]; omega
  · rw [if_neg h]
    by_cases h2 : u < d
    · rw [if_pos (by omega)]; omega
    · rw [if_neg (by omega)]; omega
theorem below_dr {B : Nat} {w w' : World} (h : Below B w w') (n : Nat) : Below B w (w'.drewN n) := h.trans ⟨rfl, rfl, rfl, Nat.le_refl _, fun _ _ => rfl⟩
theorem below_put {B : Nat} {w w' : World} {b i : Nat} {v : Value} (h : Below B w w') (hb : B ≤ b) : Below B w (w'.setCell ⟨b, i, none⟩ v) := h.setCell hb _
/-- a row of a table of distances: the first j numbers are those of the next row -/
def farRow (la lb : List UInt8) (i j m : Nat) : Value := if m ≤ j then .int .i64 (levT la lb (i + 1) m : Nat) else .int .i64 (levT la lb i m : Nat)
def farRow0 (la lb : List UInt8) (i m : Nat) : Value := .int .i64 (levT la lb i m : Nat)
set_option maxHeartbeats 2000000 in
theorem editsFar_any (a b : ByteArray) (w : World) (ha : a.size ≤ 1048576) (hb : b.size ≤ 1048576) :
    Calls Try.prog 24 #[.string a, .string b] w fun e w' => e = .returned (.int .i64 (farS a b : Nat)) ∧ Below w.heap.size w w' := by
  have hmk := Int_make (b.size + 1) (by omega)
  rw [show (((b.size + 1 : Nat) : Int)) = (b.size : Int) + 1 from rfl] at hmk
  have hrow := World.rowIs_made w (.int .i64 0) (b.size + 1) 3
  have hB1 := (Below.refl w.heap.size w).alloc (Nat.le_refl _) (.cells (madeCells #[.int .i64 0] (b.size + 1)) 3)
  go_enter Try.func24, Try.ntmps24
  go_wp2
  clear hmk
  generalize w.alloc (.cells (madeCells #[.int .i64 0] (b.size + 1)) 3) = w1 at *
  go_loopw [17] (fun i wr => ∃ k : Nat, k ≤ b.size + 1 ∧ i = .int .i64 k ∧ wr.rowIs w.heap.size 3 (b.size + 1) (fun j => if j < k then .int .i64 j else .int .i64 0) ∧ Below w.heap.size w wr) (fun i _ => b.size + 1 - (intOf i).toNat)
  case atStart => exact ⟨0, Nat.zero_le _, rfl, hrow.congr (fun i hi => by simp), hB1⟩
  case round =>
    clear hrow hB1
    obtain ⟨k, hk, rfl, hrow, hB⟩ := hrel
    by_cases hlt : k < b.size + 1
    · have hlt' : decide ((k : Int) < (b.size : Int) + 1) = true := by rw [decide_eq_true_eq]; omega
      have c0 := hrow.cell hlt
      have f0 := hrow.frozen k
      go_wp2
      go_roundw
      case rel =>
        refine ⟨k + 1, by omega, by go_num, (hrow.set k _).congr (fun i hi => ?_), hB.setCell (Nat.le_refl _) _⟩
        by_cases e : i = k
        · subst e; rw [if_pos rfl, if_pos (by omega)]
        · rw [if_neg e]
          by_cases h : i < k
          · rw [if_pos h, if_pos (by omega)]
          · rw [if_neg h, if_neg (by omega)]
      case measure => simp [intOf]; omega
    · have hlt' : decide ((k : Int) < (b.size : Int) + 1) = false := by rw [decide_eq_false_iff_not]; omega
      have hrow0 : wr.rowIs w.heap.size 3 (b.size + 1) (farRow0 a.data.toList b.data.toList 0) := hrow.congr (fun i hi => by
        rw [if_pos (by omega)]; unfold farRow0; rw [levT_0 _ _ i (by simp; omega)])
      clear hrow
      go_wp2
      clear hlt' hlt hk
      go_loopw [27] (fun i wr => ∃ k : Nat, k ≤ a.size ∧ i = .int .i64 k ∧ wr.rowIs w.heap.size 3 (b.size + 1) (farRow0 a.data.toList b.data.toList k) ∧ Below w.heap.size w wr) (fun i _ => a.size - (intOf i).toNat)
      case atStart => exact ⟨0, Nat.zero_le _, rfl, hrow0, hB⟩
      case round =>
        clear hrow0 hB
        obtain ⟨i, hi, rfl, hrow, hB⟩ := hrel
        by_cases hlt : i < a.size
        · have c0 := hrow.cell (i := 0) (by omega)
          have f0 := hrow.frozen 0
          unfold farRow0 at c0
          have hd0 : levT a.data.toList b.data.toList i 0 = i := levT_i0 _ _ _ (by simp; omega)
          rw [hd0] at c0
          have hrow1 : (wr.setCell ⟨w.heap.size, 0, none⟩ (.int .i64 ((i : Int) + 1))).rowIs w.heap.size 3 (b.size + 1) (farRow a.data.toList b.data.toList i 0) := (hrow.set 0 _).congr (fun m hm => by
            unfold farRow farRow0
            by_cases e : m = 0
            · subst e; rw [if_pos rfl, if_pos (Nat.le_refl _), levT_i0 _ _ _ (by simp; omega)]; rfl
            · rw [if_neg e, if_neg (by omega)])
          have HD0 := Lib.hid hd0
          clear hd0
          have hB1 : Below w.heap.size w (wr.setCell ⟨w.heap.size, 0, none⟩ (.int .i64 ((i : Int) + 1))) := hB.setCell (Nat.le_refl _) _
          go_wp2
          clear c0 f0 hrow hB
          generalize wr.setCell ⟨w.heap.size, 0, none⟩ (.int .i64 ((i : Int) + 1)) = w2 at *
          go_loopw [8, 39] (fun d j wr => ∃ k : Nat, k ≤ b.size ∧ j = .int .i64 k ∧ d = .int .i64 (levT a.data.toList b.data.toList i k : Nat) ∧ wr.rowIs w.heap.size 3 (b.size + 1) (farRow a.data.toList b.data.toList i k) ∧ Below w.heap.size w wr) (fun _ j _ => b.size - (intOf j).toNat)
          case atStart => exact ⟨0, Nat.zero_le _, rfl, by rw [HD0.out], hrow1, hB1⟩
          case round =>
            clear hrow1 hB1 HD0
            obtain ⟨j, hj, rfl, rfl, hrow, hB⟩ := hrel
            by_cases hjt : j < b.size
            · have c0 := hrow.cell (i := j) (by omega)
              have c1 := hrow.cell (i := j + 1) (by omega)
              have f1 := hrow.frozen (j + 1)
              have HP : Hid (∀ (v : Value) (n : Nat), v = .int .i64 (levT a.data.toList b.data.toList (i + 1) (j + 1) : Nat) → ((wr.drewN n).setCell ⟨w.heap.size, j + 1, none⟩ v).rowIs w.heap.size 3 (b.size + 1) (farRow a.data.toList b.data.toList i (j + 1))) := fun v n hv => ((hrow.of_block (w' := wr.drewN n) rfl).set (j + 1) v).congr (fun m hm => by
                unfold farRow
                by_cases e : m = j + 1
                · subst e; rw [if_pos rfl, if_pos (Nat.le_refl _), hv]
                · rw [if_neg e]
                  by_cases h : m ≤ j
                  · rw [if_pos h, if_pos (by omega)]
                  · rw [if_neg h, if_neg (by omega)])
              unfold farRow at c0 c1
              rw [if_pos (Nat.le_refl _)] at c0
              rw [if_neg (by omega)] at c1
              have l1 := levT_le a.data.toList b.data.toList i j
              have l2 := levT_le a.data.toList b.data.toList (i + 1) j
              have l3 := levT_le a.data.toList b.data.toList i (j + 1)
              by_cases hab : a[i] = b[j]
              · have HS : Hid (levT a.data.toList b.data.toList (i + 1) (j + 1) = levT a.data.toList b.data.toList i j) := levT_same _ _ i j (by simpa using hlt) (by simpa using hjt) hab
                have e1 : ((a[i].toNat : Int) == (b[j].toNat : Int)) = true := by rw [hab]; simp
                have e2 : ((a[i].toNat : Int) != (b[j].toNat : Int)) = false := by rw [hab]; simp
                clear hab
                go_wp2_with fail
                go_quiet (fail)
                go_wp2
                go_roundw
                case rel => exact ⟨j + 1, by omega, by go_num, rfl, HP.out _ _ (by rw [HS.out]), below_put (below_dr hB _) (Nat.le_refl _)⟩
                case measure => simp [intOf]; omega
              · have HS : Hid (levT a.data.toList b.data.toList (i + 1) (j + 1) = min (levT a.data.toList b.data.toList i j + 1) (1 + min (levT a.data.toList b.data.toList i (j + 1)) (levT a.data.toList b.data.toList (i + 1) j))) := by
                  show _ = _
                  rw [levT_step _ _ i j (by simpa using hlt) (by simpa using hjt), if_neg (show ¬ a.data.toList[i] = b.data.toList[j] from hab)]
                have hab' : ¬ (a[i].toNat : Int) = (b[j].toNat : Int) := fun h => hab (UInt8.toNat_inj.1 (by omega))
                have e1 : ((a[i].toNat : Int) == (b[j].toNat : Int)) = false := by simpa using hab'
                have e2 : ((a[i].toNat : Int) != (b[j].toNat : Int)) = true := by simpa using hab'
                clear hab hab'
                have k1 : IntKind.i64.wrap ((j : Int) + 1) = (j : Int) + 1 := IntWalk.i64_in _ (by omega)
                go_wp2_with fail
                go_quiet (fail)
                go_wp2_with fail
                go_region
                go_wp2
                go_roundw
                case rel => exact ⟨j + 1, by omega, by go_num, rfl, HP.out _ _ (by rw [HS.out]; exact congrArg (Value.int .i64) (min_if _ _ _)), below_put (below_dr hB _) (Nat.le_refl _)⟩
                case measure => simp [intOf]; omega
            · have hrow3 : wr.rowIs w.heap.size 3 (b.size + 1) (farRow0 a.data.toList b.data.toList (i + 1)) := hrow.congr (fun m hm => by
                unfold farRow farRow0
                rw [if_pos (by omega)])
              go_wp2
              go_roundw
              case rel => exact ⟨i + 1, by omega, by go_num, hrow3, hB⟩
              case measure => simp [intOf]; omega
        · have c0 := hrow.cell (i := b.size) (by omega)
          unfold farRow0 at c0
          obtain rfl : i = a.size := by omega
          rw [farS_T] at c0
          go_wp2
          go_ret
          exact ⟨rfl, hB⟩
end Go.Proofs.Ytiejfbodcjckeaa
