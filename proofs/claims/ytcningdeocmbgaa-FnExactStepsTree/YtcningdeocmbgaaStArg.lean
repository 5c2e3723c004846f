/- Steps that come in as arguments. -/
import Derived.Test.YtcningdeocmbgaaOpenG
import Derived.Test.YtcningdeocmbgaaRowG
import Derived.Deep.Slices
namespace Go.Proofs.Ytcningdeocmbgaa
open Go.ChangeShapes Go.WideShapes Go.ChangeAt Go.RowKit Go.Joins Go.Deep
set_option maxRecDepth 100000
abbrev StepT := Int × Int
def StepV (x : StepT) : Value := .agg #[.int .i64 x.1, .int .i64 x.2]
/-- what holds of every Step that comes in -/
def StepWf (x : StepT) : Prop := (Lit.int .i64 x.1).wf = true ∧ (Lit.int .i64 x.2).wf = true
/-- a slice of them lies there -/
def StepsAt (w : World) (a : Option Addr) (xs : List StepT) : Prop := xs.length ≤ maxLen ∧ ∀ i (h : i < xs.length), StepWf xs[i] ∧ ∃ b off, a = some ⟨b, off, none⟩ ∧ b < w.heap.size ∧ w.cell? ⟨b, off + i * 2, none⟩ = some (.int .i64 xs[i].1) ∧ w.cell? ⟨b, off + i * 2 + 1, none⟩ = some (.int .i64 xs[i].2)
theorem StepsAt.below {w w' : World} {a : Option Addr} {xs : List StepT} {B : Nat} (h : StepsAt w a xs) (hb : Below B w w') (hB : w.heap.size ≤ B) : StepsAt w' a xs := by
  refine ⟨h.1, fun i hi => ?_⟩
  obtain ⟨z, b, off, e, hl, c0, c1⟩ := h.2 i hi
  exact ⟨z, b, off, e, Nat.lt_of_lt_of_le hl hb.size, (hb.cell (p := ⟨b, _, none⟩) (by show b < B; omega)).trans c0, (hb.cell (p := ⟨b, _, none⟩) (by show b < B; omega)).trans c1⟩
theorem StepsAt.drew {w : World} {a : Option Addr} {xs : List StepT} (h : StepsAt w a xs) : StepsAt w.drew a xs := h
def StepCells (xs : List StepT) (i : Nat) : Value := match xs[i / 2]? with
  | some x => if i % 2 = 0 then .int .i64 x.1 else .int .i64 x.2
  | none => undef
theorem StepCells_0 (xs : List StepT) (i : Nat) (h : i < xs.length) : StepCells xs (i * 2) = .int .i64 xs[i].1 := by
  unfold StepCells
  rw [show i * 2 / 2 = i from by omega, List.getElem?_eq_getElem h]
  simp
theorem StepCells_1 (xs : List StepT) (i : Nat) (h : i < xs.length) : StepCells xs (i * 2 + 1) = .int .i64 xs[i].2 := by
  unfold StepCells
  rw [show (i * 2 + 1) / 2 = i from by omega, List.getElem?_eq_getElem h]
  simp [show (i * 2 + 1) % 2 = 1 from by omega]
def StepFits (xs : List StepT) : Prop := xs.length ≤ maxLen ∧ ∀ i (h : i < xs.length), StepWf xs[i]
theorem StepsAt.fits {w : World} {a : Option Addr} {xs : List StepT} (h : StepsAt w a xs) : StepFits xs := ⟨h.1, fun i hi => (h.2 i hi).1⟩
theorem StepsAt.of_row {w : World} {b : Nat} {ty : TypeId} {xs : List StepT} (h : w.rowIs b ty (xs.length * 2) (StepCells xs)) (hf : StepFits xs) : StepsAt w (some ⟨b, 0, none⟩) xs := by
  refine ⟨hf.1, fun i hi => ⟨hf.2 i hi, b, 0, rfl, h.lt, ?_, ?_⟩⟩
  · rw [Nat.zero_add, h.cell (by omega), StepCells_0 xs i hi]
  · rw [Nat.zero_add, h.cell (by omega), StepCells_1 xs i hi]
def StepZero (i : Nat) : Value := if i % 2 = 0 then .int .i64 0 else .int .i64 0
def StepPart (xs : List StepT) (k i : Nat) : Value := if i < 2 * k then StepCells xs i else StepZero i
theorem Step_make (n : Nat) (hn : n ≤ 1100000) (w : World) : (Instr.makeSlice 37 (.int .i64 (n : Int)) (.int .i64 (n : Int))).run Try.prog w = .ok (.slice (some ⟨w.heap.size, 0, none⟩) n n) (w.alloc (.cells (madeCells #[.int .i64 0, .int .i64 0] (n * 2)) 57)) := by
  have hinfo : (Try.prog.info? 57).map (fun i => (i.zero, i.size, i.bytes)) = some (some (.agg #[.int .i64 0, .int .i64 0]), 2, 16) := by kernel_rfl
  obtain ⟨i, hi, hzz⟩ := Option.map_eq_some_iff.1 hinfo
  simp only [Prod.mk.injEq] at hzz
  obtain ⟨hz, hs, hb⟩ := hzz
  have hr := run_make (P := Try.prog) w 37 57 i _ Try.underlying37 hi hz .i64 .i64 n n (by omega) (Int.le_refl _) (by rw [hb]; omega) (by omega)
  rw [hs] at hr
  simpa [Value.cells] using hr
theorem Step_made (n i : Nat) (h : i < n) : (madeCells #[.int .i64 0, .int .i64 0] n)[i]? = some (StepZero i) := by
  have : i % 2 = 0 ∨ i % 2 = 1 := by omega
  rcases this with e | e <;> simp [madeCells, h, e, StepZero]
/-- a new slice with just these, in memory of its own -/
def StepFresh (xs : List StepT) (w : World) (e : Ending) (w' : World) : Prop := ∃ b, e = .returned (.slice (some ⟨b, 0, none⟩) xs.length xs.length) ∧ w.heap.size ≤ b ∧ w'.rowIs b 57 (xs.length * 2) (StepCells xs) ∧ Below w.heap.size w w'
def szStepsM (xs : List StepT) (left : Int) : Int := if left - xs.length < 0 then -1 else left - xs.length
theorem szStepsM_le {xs : List StepT} {left : Int} (h : 0 ≤ szStepsM xs left) : (xs.length : Int) ≤ left ∧ szStepsM xs left ≤ left - xs.length := by
  unfold szStepsM at h ⊢
  split at h
  · omega
  · rename_i h1
    rw [if_neg h1]
    omega
theorem szStepS_any (a : Option Addr) (cap : Nat) (xs : List StepT) (left : Int) (w : World) (H : StepsAt w a xs) (h0 : 0 ≤ left) (h1 : left ≤ 1048576) :
    Calls Try.prog 6 #[.slice a xs.length cap, .int .i64 left] w fun e w' => e = .returned (.int .i64 (szStepsM xs left)) ∧ Below w.heap.size w w' := by
  have hn := H.1
  unfold maxLen at hn
  by_cases c1 : left - (xs.length : Int) < 0
  · go_enter Try.func6, Try.ntmps6
    go_wp2
    go_ret
    exact ⟨ret_int (by unfold szStepsM; rw [if_pos c1]), Below.refl _ _⟩
  · go_enter Try.func6, Try.ntmps6
    go_wp2
    go_ret
    exact ⟨ret_int (by unfold szStepsM; rw [if_neg (by omega)]), Below.refl _ _⟩
theorem toStep_any (z0 : Int) (z1 : Int) (w : World) :
    Calls Try.prog 30 #[.agg #[.int .i64 z0, .int .i64 z1]] w fun e w' => e = .returned (.agg #[.int .i64 z0, .int .i64 z1]) ∧ Below w.heap.size w w' := by
  go_enter Try.func30, Try.ntmps30
  go_wp2
  exact bodyPost_ret (v := .agg #[.int .i64 z0, .int .i64 z1]) (by simp [results, Try.results30, go_sem]) rfl ⟨rfl, (((Below.refl _ _).alloc (Nat.le_refl _) _).alloc (by simp) _).alloc (by simp; omega) _⟩
set_option maxHeartbeats 400000 in
theorem toStepS_any (a : Option Addr) (cap : Nat) (xs : List StepT) (w : World) (H : StepsAt w a xs) (hn : xs.length ≤ 1100000) :
    Calls Try.prog 9 #[.slice a xs.length cap] w (StepFresh xs w) := by
  have hmk := Step_make xs.length hn
  go_enter Try.func9, Try.ntmps9
  go_wp2
  clear hmk
  go_loopw [4] (fun i wr => ∃ k : Nat, k ≤ xs.length ∧ i = .int .i64 k ∧ wr.rowIs w.heap.size 57 (xs.length * 2) (StepPart xs k) ∧ Below w.heap.size w wr) (fun i _ => xs.length - (intOf i).toNat)
  case atStart =>
    refine ⟨0, Nat.zero_le _, rfl, ?_, (Below.refl _ _).alloc (Nat.le_refl _) _⟩
    have hr := World.rowIs_alloc w (madeCells #[.int .i64 0, .int .i64 0] (xs.length * 2)) 57 (StepPart xs 0) (fun i hi => by rw [Step_made _ _ (by rwa [size_madeCells] at hi)]; simp [StepPart])
    rwa [size_madeCells] at hr
  case round =>
    obtain ⟨k, hk, rfl, hrow, hb⟩ := hrel
    by_cases hlt : k < xs.length
    · obtain ⟨z, b, off, e, hbb, c0, c1⟩ := H.2 k hlt
      subst e
      have d0 : wr.cell? ⟨b, off + k * 2, none⟩ = some (.int .i64 xs[k].1) := by rw [hb.cell (p := ⟨b, _, none⟩) hbb, c0]
      have d1 : wr.cell? ⟨b, off + k * 2 + 1, none⟩ = some (.int .i64 xs[k].2) := by rw [hb.cell (p := ⟨b, _, none⟩) hbb, c1]
      go_wp2_with fail
      refine (toStep_any _ _ _).mono ?_
      rintro e w' ⟨rfl, hb'⟩
      have hrow' := hrow.of_block (hb'.block _ hrow.lt)
      have e0 := hrow'.cell (i := k * 2) (by omega)
      have e1 := hrow'.cell (i := k * 2 + 1) (by omega)
      have f0 := hrow'.frozen (k * 2)
      have f1 := hrow'.frozen (k * 2 + 1)
      go_wp2
      go_roundw
      case rel =>
        refine ⟨k + 1, by omega, by go_num, ((hrow'.set _ _).set _ _).congr (fun i hi => ?_), (((hb.trans (hb'.mono hb.size)).setCell (Nat.le_refl _) _).setCell (Nat.le_refl _) _)⟩
        unfold StepPart
        by_cases i1 : i = k * 2 + 1
        · subst i1; rw [if_pos rfl, if_pos (by omega), StepCells_1 xs k hlt]
        · rw [if_neg i1]
          by_cases i0 : i = k * 2
          · subst i0; rw [if_pos rfl, if_pos (by omega), StepCells_0 xs k hlt]
          · rw [if_neg i0]
            by_cases ix : i < 2 * k
            · rw [if_pos ix, if_pos (by omega)]
            · rw [if_neg ix, if_neg (by omega)]
      case measure => simp [intOf]; omega
    · go_wp2
      go_ret
      exact ⟨w.heap.size, rfl, Nat.le_refl _, hrow.congr (fun i hi => by unfold StepPart; rw [if_pos (by omega)]), hb⟩
theorem eqStep_any (z0 : Int) (z1 : Int) (w : World) :
    Calls Try.prog 37 #[.agg #[.int .i64 z0, .int .i64 z1], .agg #[.int .i64 z0, .int .i64 z1]] w fun e w' => e = .returned (.bool true) ∧ Below w.heap.size w w' := by
  go_enter Try.func37, Try.ntmps37
  go_wp2
  go_ret
  exact ⟨rfl, ((Below.refl _ _).alloc (Nat.le_refl _) _).alloc (by simp) _⟩
set_option maxHeartbeats 400000 in
theorem eqStepS_any (a a' : Option Addr) (cap cap' : Nat) (xs : List StepT) (w : World) (HA : StepsAt w a xs) (HB : StepsAt w a' xs) :
    Calls Try.prog 13 #[.slice a xs.length cap, .slice a' xs.length cap'] w fun e w' => e = .returned (.bool true) ∧ Below w.heap.size w w' := by
  have hn := HA.1
  unfold maxLen at hn
  go_enter Try.func13, Try.ntmps13
  go_wp2
  go_loopw [5] (fun i wr => ∃ k : Nat, k ≤ xs.length ∧ i = .int .i64 k ∧ Below w.heap.size w wr) (fun i _ => xs.length - (intOf i).toNat)
  case atStart => exact ⟨0, Nat.zero_le _, rfl, Below.refl _ _⟩
  case round =>
    obtain ⟨k, hk, rfl, hb⟩ := hrel
    by_cases hlt : k < xs.length
    · obtain ⟨z, b, off, e, hbb, c0, c1⟩ := HA.2 k hlt
      obtain ⟨z', b', off', e', hbb', c0', c1'⟩ := HB.2 k hlt
      subst e e'
      have hsz := hb.size
      have g0 : ∀ x, (grow wr x).cell? ⟨b, off + k * 2, none⟩ = some (.int .i64 xs[k].1) := fun x => by rw [grow_cell _ _ _ _ (by omega), hb.cell (p := ⟨b, _, none⟩) hbb, c0]
      have h0 : ∀ x, (grow wr x).cell? ⟨b', off' + k * 2, none⟩ = some (.int .i64 xs[k].1) := fun x => by rw [grow_cell _ _ _ _ (by omega), hb.cell (p := ⟨b', _, none⟩) hbb', c0']
      have g1 : ∀ x, (grow wr x).cell? ⟨b, off + k * 2 + 1, none⟩ = some (.int .i64 xs[k].2) := fun x => by rw [grow_cell _ _ _ _ (by omega), hb.cell (p := ⟨b, _, none⟩) hbb, c1]
      have h1 : ∀ x, (grow wr x).cell? ⟨b', off' + k * 2 + 1, none⟩ = some (.int .i64 xs[k].2) := fun x => by rw [grow_cell _ _ _ _ (by omega), hb.cell (p := ⟨b', _, none⟩) hbb', c1']
      have hkl : (k : Int) < (xs.length : Int) := by omega
      go_wp2
      refine wp_region_grow (by kernel_rfl) (by kernel_rfl) ?_
      repeat (go_big_quiet_step ((go_at_call 37; exact Calls.grow_of (eqStep_any _ _ _))))
      refine wpQuiet_nil ?_
      rintro _ ⟨x, rfl⟩
      have hfin : Below w.heap.size w (grow wr x) := hb.trans ((below_grow _ _).mono hsz)
      go_wp2
      go_roundw
      case rel => exact ⟨k + 1, by omega, by go_num, hfin⟩
      case measure => simp [intOf]; omega
    · go_wp2
      go_ret
      exact ⟨rfl, hb⟩
theorem Step_arr {cs : Array Value} (h : cs.size = 2) : ∃ c0 c1, cs = #[c0, c1] := by
  obtain ⟨l⟩ := cs
  match l, h with
  | [c0, c1], _ => exact ⟨_, _, rfl⟩
section
variable {H : Type} {enc : TypeId × Value → H} {W : World} {base : Nat} {spare : Nat → Bool} {held : Bool}
theorem open_Step_cells {fuel : Nat} {v0 v1 : Value} {x : DataW H × List MemPlace} (h : DataW.trod enc Try.prog W base spare held fuel 64 [v0, v1] = some x) :
    ∃ (z0 : Int) (z1 : Int), v0 = .int .i64 z0 ∧ v1 = .int .i64 z1 ∧ StepWf (z0, z1) := by
  obtain ⟨xs, n, hf, _, _, hxl, hfs⟩ := DataW.trod_struct Try.underlying64 h
  match xs, hxl with
  | [y0, y1], _ =>
    have h0 := hfs 0 _ rfl
    have h1 := hfs 1 _ rfl
    have ki : Try.prog.cellsOf 3 = 1 := by kernel_rfl
    simp [ki] at h0
    simp [ki] at h1
    obtain ⟨z0, e0, _, w0⟩ := DataW.trod_int Try.underlying3 h0
    obtain ⟨z1, e1, _, w1⟩ := DataW.trod_int Try.underlying3 h1
    exact ⟨z0, z1, by simpa using e0, by simpa using e1, w0, w1⟩
theorem open_Step {r : Reach} {b0 : Nat} {v : Value} {d : DataW H} {p : List MemPlace} (hv : Value.okWide Try.prog W r b0 64 v) (h : DataW.Trod enc Try.prog W base spare held 64 v d p) :
    ∃ (z0 : Int) (z1 : Int), v = .agg #[.int .i64 z0, .int .i64 z1] ∧ StepWf (z0, z1) := by
  obtain ⟨cs, rfl, hsz⟩ := okWide_struct Try.underlying64 hv
  obtain ⟨c0, c1, rfl⟩ := Step_arr (hsz.trans (by kernel_rfl : Try.prog.cellsOf 64 = 2))
  obtain ⟨fuel, hf⟩ := h
  obtain ⟨z0, z1, rfl, rfl, hs⟩ := open_Step_cells hf
  exact ⟨z0, z1, rfl, hs⟩
theorem open_Steps {r : Reach} {b0 : Nat} {v : Value} {d : DataW H} {p : List MemPlace} (hv : Value.okWide Try.prog W r b0 25 v) (h : DataW.Trod enc Try.prog W base spare held 25 v d p) :
    ∃ (a : Option Addr) (cap : Nat) (xs : List StepT), v = .slice a xs.length cap ∧ xs.length ≤ cap ∧ StepsAt W a xs := by
  obtain ⟨a0, l0, c0, rfl⟩ := okWide_slice Try.underlying25 hv
  obtain ⟨fuel, hf⟩ := h
  have k3 : Try.prog.cellsOf 64 = 2 := by kernel_rfl
  rcases DataW.trod_slice Try.underlying25 hf with ⟨hc, _⟩ | ⟨a, len, cap, elems, rest, m, hm, hc, _, _, hlc, hcm, hel, hk, _, _⟩
  · simp [Value.cells] at hc
    obtain ⟨rfl, rfl, rfl⟩ := hc
    exact ⟨none, 0, [], rfl, Nat.le_refl _, Nat.zero_le _, fun i hi => absurd hi (Nat.not_lt_zero _)⟩
  · simp [Value.cells] at hc
    obtain ⟨rfl, rfl, rfl⟩ := hc
    have hsp : 0 < l0 → a.spot = none := by
      intro h0
      have hb := hk 0 h0
      rw [List.getElem?_eq_getElem (by omega : 0 < elems.length)] at hb
      obtain ⟨cs, hcs, _⟩ := Option.bind_eq_some_iff.1 hb
      rw [k3] at hcs
      obtain ⟨_, hlen, hcell⟩ := World.cells?_some hcs
      match cs, hlen with
      | [u0, u1], _ =>
        have c0 := hcell 0 (by omega)
        simpa [Addr.add] using World.cell?_spot c0
    have each : ∀ i : Nat, ∃ q : StepT, i < l0 → StepWf q ∧ ∃ b off, some a = some ⟨b, off, none⟩ ∧ b < W.heap.size ∧ W.cell? ⟨b, off + i * 2, none⟩ = some (.int .i64 q.1) ∧ W.cell? ⟨b, off + i * 2 + 1, none⟩ = some (.int .i64 q.2) := by
      intro i
      by_cases hi : i < l0
      · have hb := hk i hi
        rw [List.getElem?_eq_getElem (by omega : i < elems.length)] at hb
        obtain ⟨cs, hcs, htr⟩ := Option.bind_eq_some_iff.1 hb
        rw [k3] at hcs
        obtain ⟨_, hlen, hcell⟩ := World.cells?_some hcs
        match cs, hlen with
        | [u0, u1], _ =>
          obtain ⟨z0, z1, rfl, rfl, hs'⟩ := open_Step_cells htr
          have e0 := hcell 0 (by omega)
          have e1 := hcell 1 (by omega)
          rw [add_add] at e0 e1
          have hspot := hsp (by omega)
          obtain ⟨g, off, spot⟩ := a
          subst hspot
          rw [add_plain] at e0 e1
          have d0 : W.cell? ⟨g, off + i * 2, none⟩ = some (.int .i64 z0) := by simpa using e0
          exact ⟨(z0, z1), fun _ => ⟨hs', g, off, rfl, World.block_lt_of_cell? _ _ d0, d0, by simpa [Nat.add_assoc] using e1⟩⟩
      · exact ⟨(0, 0), fun h => absurd h hi⟩
    obtain ⟨q, hq⟩ := Classical.axiomOfChoice each
    refine ⟨some a, c0, (List.range l0).map q, by simp, by simpa using hlc, by simp; omega, fun i hi => ?_⟩
    have hil : i < l0 := by simpa using hi
    simpa using hq i hil
end
end Go.Proofs.Ytcningdeocmbgaa
