/- Edits that come in as arguments. -/
import Derived.Test.YtiejfbodcjckeaaOpenG
import Derived.Test.YtiejfbodcjckeaaRowG
import Derived.Deep.Slices
namespace Go.Proofs.Ytiejfbodcjckeaa
open Go.ChangeShapes Go.WideShapes Go.ChangeAt Go.RowKit Go.Joins Go.Deep
set_option maxRecDepth 100000
abbrev EditT := Int × Int × ByteArray
def EditV (x : EditT) : Value := .agg #[.int .i64 x.1, .int .i64 x.2.1, .string x.2.2]
/-- what holds of every Edit that comes in -/
def EditWf (x : EditT) : Prop := (Lit.int .i64 x.1).wf = true ∧ (Lit.int .i64 x.2.1).wf = true ∧ x.2.2.size ≤ maxLen
/-- a slice of them lies there -/
def EditsAt (w : World) (a : Option Addr) (xs : List EditT) : Prop := xs.length ≤ maxLen ∧ ∀ i (h : i < xs.length), EditWf xs[i] ∧ ∃ b off, a = some ⟨b, off, none⟩ ∧ b < w.heap.size ∧ w.cell? ⟨b, off + i * 3, none⟩ = some (.int .i64 xs[i].1) ∧ w.cell? ⟨b, off + i * 3 + 1, none⟩ = some (.int .i64 xs[i].2.1) ∧ w.cell? ⟨b, off + i * 3 + 2, none⟩ = some (.string xs[i].2.2)
theorem EditsAt.below {w w' : World} {a : Option Addr} {xs : List EditT} {B : Nat} (h : EditsAt w a xs) (hb : Below B w w') (hB : w.heap.size ≤ B) : EditsAt w' a xs := by
  refine ⟨h.1, fun i hi => ?_⟩
  obtain ⟨z, b, off, e, hl, c0, c1, c2⟩ := h.2 i hi
  exact ⟨z, b, off, e, Nat.lt_of_lt_of_le hl hb.size, (hb.cell (p := ⟨b, _, none⟩) (by show b < B; omega)).trans c0, (hb.cell (p := ⟨b, _, none⟩) (by show b < B; omega)).trans c1, (hb.cell (p := ⟨b, _, none⟩) (by show b < B; omega)).trans c2⟩
theorem EditsAt.drew {w : World} {a : Option Addr} {xs : List EditT} (h : EditsAt w a xs) : EditsAt w.drew a xs := h
def EditCells (xs : List EditT) (i : Nat) : Value := match xs[i / 3]? with
  | some x => if i % 3 = 0 then .int .i64 x.1 else if i % 3 = 1 then .int .i64 x.2.1 else .string x.2.2
  | none => undef
theorem EditCells_0 (xs : List EditT) (i : Nat) (h : i < xs.length) : EditCells xs (i * 3) = .int .i64 xs[i].1 := by
  unfold EditCells
  rw [show i * 3 / 3 = i from by omega, List.getElem?_eq_getElem h]
  simp
theorem EditCells_1 (xs : List EditT) (i : Nat) (h : i < xs.length) : EditCells xs (i * 3 + 1) = .int .i64 xs[i].2.1 := by
  unfold EditCells
  rw [show (i * 3 + 1) / 3 = i from by omega, List.getElem?_eq_getElem h]
  simp [show (i * 3 + 1) % 3 = 1 from by omega]
theorem EditCells_2 (xs : List EditT) (i : Nat) (h : i < xs.length) : EditCells xs (i * 3 + 2) = .string xs[i].2.2 := by
  unfold EditCells
  rw [show (i * 3 + 2) / 3 = i from by omega, List.getElem?_eq_getElem h]
  simp [show (i * 3 + 2) % 3 = 2 from by omega]
def EditFits (xs : List EditT) : Prop := xs.length ≤ maxLen ∧ ∀ i (h : i < xs.length), EditWf xs[i]
theorem EditsAt.fits {w : World} {a : Option Addr} {xs : List EditT} (h : EditsAt w a xs) : EditFits xs := ⟨h.1, fun i hi => (h.2 i hi).1⟩
theorem EditsAt.of_row {w : World} {b : Nat} {ty : TypeId} {xs : List EditT} (h : w.rowIs b ty (xs.length * 3) (EditCells xs)) (hf : EditFits xs) : EditsAt w (some ⟨b, 0, none⟩) xs := by
  refine ⟨hf.1, fun i hi => ⟨hf.2 i hi, b, 0, rfl, h.lt, ?_, ?_, ?_⟩⟩
  · rw [Nat.zero_add, h.cell (by omega), EditCells_0 xs i hi]
  · rw [Nat.zero_add, h.cell (by omega), EditCells_1 xs i hi]
  · rw [Nat.zero_add, h.cell (by omega), EditCells_2 xs i hi]
def EditZero (i : Nat) : Value := if i % 3 = 0 then .int .i64 0 else if i % 3 = 1 then .int .i64 0 else .string ByteArray.empty
def EditPart (xs : List EditT) (k i : Nat) : Value := if i < 3 * k then EditCells xs i else EditZero i
theorem Edit_make (n : Nat) (hn : n ≤ 1100000) (w : World) : (Instr.makeSlice 36 (.int .i64 (n : Int)) (.int .i64 (n : Int))).run Try.prog w = .ok (.slice (some ⟨w.heap.size, 0, none⟩) n n) (w.alloc (.cells (madeCells #[.int .i64 0, .int .i64 0, .string ByteArray.empty] (n * 3)) 27)) := by
  have hinfo : (Try.prog.info? 27).map (fun i => (i.zero, i.size, i.bytes)) = some (some (.agg #[.int .i64 0, .int .i64 0, .string ByteArray.empty]), 3, 32) := by kernel_rfl
  obtain ⟨i, hi, hzz⟩ := Option.map_eq_some_iff.1 hinfo
  simp only [Prod.mk.injEq] at hzz
  obtain ⟨hz, hs, hb⟩ := hzz
  have hr := run_make (P := Try.prog) w 36 27 i _ Try.underlying36 hi hz .i64 .i64 n n (by omega) (Int.le_refl _) (by rw [hb]; omega) (by omega)
  rw [hs] at hr
  simpa [Value.cells] using hr
theorem Edit_made (n i : Nat) (h : i < n) : (madeCells #[.int .i64 0, .int .i64 0, .string ByteArray.empty] n)[i]? = some (EditZero i) := by
  have : i % 3 = 0 ∨ i % 3 = 1 ∨ i % 3 = 2 := by omega
  rcases this with e | e | e <;> simp [madeCells, h, e, EditZero]
/-- a new slice with just these, in memory of its own -/
def EditFresh (xs : List EditT) (w : World) (e : Ending) (w' : World) : Prop := ∃ b, e = .returned (.slice (some ⟨b, 0, none⟩) xs.length xs.length) ∧ w.heap.size ≤ b ∧ w'.rowIs b 27 (xs.length * 3) (EditCells xs) ∧ Below w.heap.size w w'
def szEditM (x : EditT) (left : Int) : Int := if left - x.2.2.size < 0 then -1 else left - x.2.2.size
theorem szEditM_le (x : EditT) (left : Int) (h : 0 ≤ left) : szEditM x left ≤ left ∧ -1 ≤ szEditM x left := by
  unfold szEditM; split <;> omega
def szEditFold : List EditT → Int → Int
  | [], left => left
  | x :: xs, left => if szEditM x left < 0 then -1 else szEditFold xs (szEditM x left)
theorem szEditFold_le (xs : List EditT) : ∀ left : Int, 0 ≤ left → szEditFold xs left ≤ left ∧ -1 ≤ szEditFold xs left := by
  induction xs with
  | nil => intro left h; simp [szEditFold]; omega
  | cons r rs ih =>
    intro left h
    have h1 := szEditM_le r left h
    unfold szEditFold
    split
    · omega
    · have := ih (szEditM r left) (by omega); omega
def szEditsM (xs : List EditT) (left : Int) : Int := if left - xs.length < 0 then -1 else szEditFold xs (left - xs.length)
theorem szEditsM_le {xs : List EditT} {left : Int} (h : 0 ≤ szEditsM xs left) : (xs.length : Int) ≤ left ∧ szEditsM xs left ≤ left - xs.length := by
  unfold szEditsM at h ⊢
  split at h
  · omega
  · rename_i h1
    rw [if_neg h1]
    have := (szEditFold_le xs (left - xs.length) (by omega)).1
    omega
theorem szEdit_any (x : EditT) (left : Int) (w : World) (h0 : 0 ≤ left) (h1 : left ≤ 1048576) (hx : EditWf x) :
    Calls Try.prog 11 #[EditV x, .int .i64 left] w fun e w' => e = .returned (.int .i64 (szEditM x left)) ∧ Below w.heap.size w w' := by
  have hs : x.2.2.size ≤ maxLen := hx.2.2
  unfold maxLen at hs
  unfold EditV
  by_cases c1 : left - (x.2.2.size : Int) < 0
  · go_enter Try.func11, Try.ntmps11
    go_wp2
    go_ret
    exact ⟨ret_int (by unfold szEditM; rw [if_pos c1]), (Below.refl _ _).alloc (Nat.le_refl _) _⟩
  · go_enter Try.func11, Try.ntmps11
    go_wp2
    go_ret
    exact ⟨ret_int (by unfold szEditM; rw [if_neg (by omega)]), (Below.refl _ _).alloc (Nat.le_refl _) _⟩
set_option maxHeartbeats 400000 in
theorem szEditS_any (a : Option Addr) (cap : Nat) (xs : List EditT) (left : Int) (w : World) (H : EditsAt w a xs) (h0 : 0 ≤ left) (h1 : left ≤ 1048576) :
    Calls Try.prog 18 #[.slice a xs.length cap, .int .i64 left] w fun e w' => e = .returned (.int .i64 (szEditsM xs left)) ∧ Below w.heap.size w w' := by
  have hn := H.1
  unfold maxLen at hn
  by_cases c1 : left - (xs.length : Int) < 0
  · go_enter Try.func18, Try.ntmps18
    go_wp2
    go_ret
    exact ⟨ret_int (by unfold szEditsM; rw [if_pos c1]), Below.refl _ _⟩
  · have c1' : decide (left - (xs.length : Int) < 0) = false := by simpa using c1
    go_enter Try.func18, Try.ntmps18
    go_wp2
    go_loopw [1, 5] (fun s i wr => ∃ (k : Nat) (v : Int), k ≤ xs.length ∧ i = .int .i64 k ∧ s = .int .i64 v ∧ 0 ≤ v ∧ v ≤ left ∧ Hid (szEditFold (xs.drop k) v = szEditFold xs (left - xs.length)) ∧ Below w.heap.size w wr) (fun _ i _ => xs.length - (intOf i).toNat)
    case atStart => exact ⟨0, left - xs.length, Nat.zero_le _, rfl, rfl, by omega, by omega, rfl, Below.refl _ _⟩
    case round =>
      obtain ⟨k, v, hk, rfl, rfl, hv0, hv1, HS, hb⟩ := hrel
      by_cases hlt : k < xs.length
      · obtain ⟨z, b, off, e, hbb, c0, c1, c2⟩ := H.2 k hlt
        subst e
        have d0 : wr.cell? ⟨b, off + k * 3, none⟩ = some (.int .i64 xs[k].1) := by rw [hb.cell (p := ⟨b, _, none⟩) hbb, c0]
        have d1 : wr.cell? ⟨b, off + k * 3 + 1, none⟩ = some (.int .i64 xs[k].2.1) := by rw [hb.cell (p := ⟨b, _, none⟩) hbb, c1]
        have d2 : wr.cell? ⟨b, off + k * 3 + 2, none⟩ = some (.string xs[k].2.2) := by rw [hb.cell (p := ⟨b, _, none⟩) hbb, c2]
        have hle := szEditM_le xs[k] v hv0
        have HD : Hid (szEditFold (xs.drop k) v = if szEditM xs[k] v < 0 then -1 else szEditFold (xs.drop (k + 1)) (szEditM xs[k] v)) := by
          show _ = _; rw [List.drop_eq_getElem_cons hlt]; rfl
        go_wp2_with (go_at_call 11; refine (szEdit_any xs[k] _ _ hv0 (by omega) z).mono ?_; rintro e w' ⟨rfl, hb'⟩)
        · have hneg : szEditM xs[k] v < 0 := by assumption
          go_ret
          exact ⟨ret_int (by unfold szEditsM; rw [if_neg (by omega), ← HS.out, HD.out, if_pos hneg]), hb.trans (hb'.mono hb.size)⟩
        · have hpos : 0 ≤ szEditM xs[k] v := by assumption
          go_roundw
          case rel => exact ⟨k + 1, szEditM xs[k] v, by omega, by go_num, rfl, hpos, by omega, by show _ = _; rw [← HS.out, HD.out, if_neg (by omega)], hb.trans (hb'.mono hb.size)⟩
          case measure => simp [intOf]; omega
      · go_wp2
        go_ret
        exact ⟨ret_int (by unfold szEditsM; rw [if_neg (by omega), ← HS.out, List.drop_eq_nil_of_le (by omega)]; rfl), hb⟩
theorem toEdit_any (z0 : Int) (z1 : Int) (s2 : ByteArray) (w : World) :
    Calls Try.prog 13 #[.agg #[.int .i64 z0, .int .i64 z1, .string s2]] w fun e w' => e = .returned (.agg #[.int .i64 z0, .int .i64 z1, .string s2]) ∧ Below w.heap.size w w' := by
  go_enter Try.func13, Try.ntmps13
  go_wp2
  exact bodyPost_ret (v := .agg #[.int .i64 z0, .int .i64 z1, .string s2]) (by simp [results, Try.results13, go_sem]) rfl ⟨rfl, (((Below.refl _ _).alloc (Nat.le_refl _) _).alloc (by simp) _).alloc (by simp; omega) _⟩
set_option maxHeartbeats 400000 in
theorem toEditS_any (a : Option Addr) (cap : Nat) (xs : List EditT) (w : World) (H : EditsAt w a xs) (hn : xs.length ≤ 1100000) :
    Calls Try.prog 20 #[.slice a xs.length cap] w (EditFresh xs w) := by
  have hmk := Edit_make xs.length hn
  go_enter Try.func20, Try.ntmps20
  go_wp2
  clear hmk
  go_loopw [4] (fun i wr => ∃ k : Nat, k ≤ xs.length ∧ i = .int .i64 k ∧ wr.rowIs w.heap.size 27 (xs.length * 3) (EditPart xs k) ∧ Below w.heap.size w wr) (fun i _ => xs.length - (intOf i).toNat)
  case atStart =>
    refine ⟨0, Nat.zero_le _, rfl, ?_, (Below.refl _ _).alloc (Nat.le_refl _) _⟩
    have hr := World.rowIs_alloc w (madeCells #[.int .i64 0, .int .i64 0, .string ByteArray.empty] (xs.length * 3)) 27 (EditPart xs 0) (fun i hi => by rw [Edit_made _ _ (by rwa [size_madeCells] at hi)]; simp [EditPart])
    rwa [size_madeCells] at hr
  case round =>
    obtain ⟨k, hk, rfl, hrow, hb⟩ := hrel
    by_cases hlt : k < xs.length
    · obtain ⟨z, b, off, e, hbb, c0, c1, c2⟩ := H.2 k hlt
      subst e
      have d0 : wr.cell? ⟨b, off + k * 3, none⟩ = some (.int .i64 xs[k].1) := by rw [hb.cell (p := ⟨b, _, none⟩) hbb, c0]
      have d1 : wr.cell? ⟨b, off + k * 3 + 1, none⟩ = some (.int .i64 xs[k].2.1) := by rw [hb.cell (p := ⟨b, _, none⟩) hbb, c1]
      have d2 : wr.cell? ⟨b, off + k * 3 + 2, none⟩ = some (.string xs[k].2.2) := by rw [hb.cell (p := ⟨b, _, none⟩) hbb, c2]
      go_wp2_with fail
      refine (toEdit_any _ _ _ _).mono ?_
      rintro e w' ⟨rfl, hb'⟩
      have hrow' := hrow.of_block (hb'.block _ hrow.lt)
      have e0 := hrow'.cell (i := k * 3) (by omega)
      have e1 := hrow'.cell (i := k * 3 + 1) (by omega)
      have e2 := hrow'.cell (i := k * 3 + 2) (by omega)
      have f0 := hrow'.frozen (k * 3)
      have f1 := hrow'.frozen (k * 3 + 1)
      have f2 := hrow'.frozen (k * 3 + 2)
      go_wp2
      go_roundw
      case rel =>
        refine ⟨k + 1, by omega, by go_num, (((hrow'.set _ _).set _ _).set _ _).congr (fun i hi => ?_), ((((hb.trans (hb'.mono hb.size)).setCell (Nat.le_refl _) _).setCell (Nat.le_refl _) _).setCell (Nat.le_refl _) _)⟩
        unfold EditPart
        by_cases i2 : i = k * 3 + 2
        · subst i2; rw [if_pos rfl, if_pos (by omega), EditCells_2 xs k hlt]
        · rw [if_neg i2]
          by_cases i1 : i = k * 3 + 1
          · subst i1; rw [if_pos rfl, if_pos (by omega), EditCells_1 xs k hlt]
          · rw [if_neg i1]
            by_cases i0 : i = k * 3
            · subst i0; rw [if_pos rfl, if_pos (by omega), EditCells_0 xs k hlt]
            · rw [if_neg i0]
              by_cases ix : i < 3 * k
              · rw [if_pos ix, if_pos (by omega)]
              · rw [if_neg ix, if_neg (by omega)]
      case measure => simp [intOf]; omega
    · go_wp2
      go_ret
      exact ⟨w.heap.size, rfl, Nat.le_refl _, hrow.congr (fun i hi => by unfold EditPart; rw [if_pos (by omega)]), hb⟩
theorem eqEdit_any (z0 : Int) (z1 : Int) (s2 : ByteArray) (w : World) :
    Calls Try.prog 17 #[.agg #[.int .i64 z0, .int .i64 z1, .string s2], .agg #[.int .i64 z0, .int .i64 z1, .string s2]] w fun e w' => e = .returned (.bool true) ∧ Below w.heap.size w w' := by
  go_enter Try.func17, Try.ntmps17
  go_wp2
  go_ret
  exact ⟨rfl, ((Below.refl _ _).alloc (Nat.le_refl _) _).alloc (by simp) _⟩
set_option maxHeartbeats 400000 in
theorem eqEditS_any (a a' : Option Addr) (cap cap' : Nat) (xs : List EditT) (w : World) (HA : EditsAt w a xs) (HB : EditsAt w a' xs) :
    Calls Try.prog 22 #[.slice a xs.length cap, .slice a' xs.length cap'] w fun e w' => e = .returned (.bool true) ∧ Below w.heap.size w w' := by
  have hn := HA.1
  unfold maxLen at hn
  go_enter Try.func22, Try.ntmps22
  go_wp2
  go_loopw [5] (fun i wr => ∃ k : Nat, k ≤ xs.length ∧ i = .int .i64 k ∧ Below w.heap.size w wr) (fun i _ => xs.length - (intOf i).toNat)
  case atStart => exact ⟨0, Nat.zero_le _, rfl, Below.refl _ _⟩
  case round =>
    obtain ⟨k, hk, rfl, hb⟩ := hrel
    by_cases hlt : k < xs.length
    · obtain ⟨z, b, off, e, hbb, c0, c1, c2⟩ := HA.2 k hlt
      obtain ⟨z', b', off', e', hbb', c0', c1', c2'⟩ := HB.2 k hlt
      subst e e'
      have hsz := hb.size
      have g0 : ∀ x, (grow wr x).cell? ⟨b, off + k * 3, none⟩ = some (.int .i64 xs[k].1) := fun x => by rw [grow_cell _ _ _ _ (by omega), hb.cell (p := ⟨b, _, none⟩) hbb, c0]
      have h0 : ∀ x, (grow wr x).cell? ⟨b', off' + k * 3, none⟩ = some (.int .i64 xs[k].1) := fun x => by rw [grow_cell _ _ _ _ (by omega), hb.cell (p := ⟨b', _, none⟩) hbb', c0']
      have g1 : ∀ x, (grow wr x).cell? ⟨b, off + k * 3 + 1, none⟩ = some (.int .i64 xs[k].2.1) := fun x => by rw [grow_cell _ _ _ _ (by omega), hb.cell (p := ⟨b, _, none⟩) hbb, c1]
      have h1 : ∀ x, (grow wr x).cell? ⟨b', off' + k * 3 + 1, none⟩ = some (.int .i64 xs[k].2.1) := fun x => by rw [grow_cell _ _ _ _ (by omega), hb.cell (p := ⟨b', _, none⟩) hbb', c1']
      have g2 : ∀ x, (grow wr x).cell? ⟨b, off + k * 3 + 2, none⟩ = some (.string xs[k].2.2) := fun x => by rw [grow_cell _ _ _ _ (by omega), hb.cell (p := ⟨b, _, none⟩) hbb, c2]
      have h2 : ∀ x, (grow wr x).cell? ⟨b', off' + k * 3 + 2, none⟩ = some (.string xs[k].2.2) := fun x => by rw [grow_cell _ _ _ _ (by omega), hb.cell (p := ⟨b', _, none⟩) hbb', c2']
      have hkl : (k : Int) < (xs.length : Int) := by omega
      go_wp2
      refine wp_region_grow (by kernel_rfl) (by kernel_rfl) ?_
      repeat (go_big_quiet_step ((go_at_call 17; exact Calls.grow_of (eqEdit_any _ _ _ _))))
      refine wpQuiet_nil ?_
      rintro _ ⟨x, rfl⟩
      have hfin : Below w.heap.size w (grow wr x) := hb.trans ((below_grow _ _).mono hsz)
      go_wp2
      go_roundw
      case rel => exact ⟨k + 1, by omega, by go_num, hfin⟩
      case measure => simp [intOf]; omega
    · go_wp2
      go_ret
      exact ⟨rfl, hb⟩
theorem Edit_arr {cs : Array Value} (h : cs.size = 3) : ∃ c0 c1 c2, cs = #[c0, c1, c2] := by
  obtain ⟨l⟩ := cs
  match l, h with
  | [c0, c1, c2], _ => exact ⟨_, _, _, rfl⟩
section
variable {H : Type} {enc : TypeId × Value → H} {W : World} {base : Nat} {spare : Nat → Bool} {held : Bool}
theorem open_Edit_cells {fuel : Nat} {v0 v1 v2 : Value} {x : DataW H × List MemPlace} (h : DataW.trod enc Try.prog W base spare held fuel 23 [v0, v1, v2] = some x) :
    ∃ (z0 : Int) (z1 : Int) (s2 : ByteArray), v0 = .int .i64 z0 ∧ v1 = .int .i64 z1 ∧ v2 = .string s2 ∧ EditWf (z0, z1, s2) := by
  obtain ⟨xs, n, hf, _, _, hxl, hfs⟩ := DataW.trod_struct Try.underlying23 h
  match xs, hxl with
  | [y0, y1, y2], _ =>
    have h0 := hfs 0 _ rfl
    have h1 := hfs 1 _ rfl
    have h2 := hfs 2 _ rfl
    have ks : Try.prog.cellsOf 9 = 1 := by kernel_rfl
    have ki : Try.prog.cellsOf 3 = 1 := by kernel_rfl
    simp [ki] at h0
    simp [ki] at h1
    simp [ks] at h2
    obtain ⟨z0, e0, _, w0⟩ := DataW.trod_int Try.underlying3 h0
    obtain ⟨z1, e1, _, w1⟩ := DataW.trod_int Try.underlying3 h1
    obtain ⟨s2, e2, _, w2⟩ := DataW.trod_string Try.underlying9 h2
    exact ⟨z0, z1, s2, by simpa using e0, by simpa using e1, by simpa using e2, w0, w1, w2⟩
theorem open_Edit {r : Reach} {b0 : Nat} {v : Value} {d : DataW H} {p : List MemPlace} (hv : Value.okWide Try.prog W r b0 23 v) (h : DataW.Trod enc Try.prog W base spare held 23 v d p) :
    ∃ (z0 : Int) (z1 : Int) (s2 : ByteArray), v = .agg #[.int .i64 z0, .int .i64 z1, .string s2] ∧ EditWf (z0, z1, s2) := by
  obtain ⟨cs, rfl, hsz⟩ := okWide_struct Try.underlying23 hv
  obtain ⟨c0, c1, c2, rfl⟩ := Edit_arr (hsz.trans (by kernel_rfl : Try.prog.cellsOf 23 = 3))
  obtain ⟨fuel, hf⟩ := h
  obtain ⟨z0, z1, s2, rfl, rfl, rfl, hs⟩ := open_Edit_cells hf
  exact ⟨z0, z1, s2, rfl, hs⟩
theorem open_Edits {r : Reach} {b0 : Nat} {v : Value} {d : DataW H} {p : List MemPlace} (hv : Value.okWide Try.prog W r b0 33 v) (h : DataW.Trod enc Try.prog W base spare held 33 v d p) :
    ∃ (a : Option Addr) (cap : Nat) (xs : List EditT), v = .slice a xs.length cap ∧ xs.length ≤ cap ∧ EditsAt W a xs := by
  obtain ⟨a0, l0, c0, rfl⟩ := okWide_slice Try.underlying33 hv
  obtain ⟨fuel, hf⟩ := h
  have k3 : Try.prog.cellsOf 23 = 3 := by kernel_rfl
  rcases DataW.trod_slice Try.underlying33 hf with ⟨hc, _⟩ | ⟨a, len, cap, elems, rest, m, hm, hc, _, _, hlc, hcm, hel, hk, _, _⟩
  · simp [Value.cells] at hc
    obtain ⟨rfl, rfl, rfl⟩ := hc
    exact ⟨none, 0, [], rfl, Nat.le_refl _, Nat.zero_le _, fun i hi => absurd hi (Nat.not_lt_zero _)⟩
  · simp [Value.cells] at hc
    obtain ⟨rfl, rfl, rfl⟩ := hc
    have hsp : 0 < l0 → a.spot = none := by
      intro h0
      have hb := hk 0 h0
      rw [List.getElem?_eq_getElem (by omega : 0 < elems.length)] at hb
      obtain ⟨cs, hcs, _⟩ := Option.bind_eq_some_iff.1 hb
      rw [k3] at hcs
      obtain ⟨_, hlen, hcell⟩ := World.cells?_some hcs
      match cs, hlen with
      | [u0, u1, u2], _ =>
        have c0 := hcell 0 (by omega)
        simpa [Addr.add] using World.cell?_spot c0
    have each : ∀ i : Nat, ∃ q : EditT, i < l0 → EditWf q ∧ ∃ b off, some a = some ⟨b, off, none⟩ ∧ b < W.heap.size ∧ W.cell? ⟨b, off + i * 3, none⟩ = some (.int .i64 q.1) ∧ W.cell? ⟨b, off + i * 3 + 1, none⟩ = some (.int .i64 q.2.1) ∧ W.cell? ⟨b, off + i * 3 + 2, none⟩ = some (.string q.2.2) := by
      intro i
      by_cases hi : i < l0
      · have hb := hk i hi
        rw [List.getElem?_eq_getElem (by omega : i < elems.length)] at hb
        obtain ⟨cs, hcs, htr⟩ := Option.bind_eq_some_iff.1 hb
        rw [k3] at hcs
        obtain ⟨_, hlen, hcell⟩ := World.cells?_some hcs
        match cs, hlen with
        | [u0, u1, u2], _ =>
          obtain ⟨z0, z1, s2, rfl, rfl, rfl, hs'⟩ := open_Edit_cells htr
          have e0 := hcell 0 (by omega)
          have e1 := hcell 1 (by omega)
          have e2 := hcell 2 (by omega)
          rw [add_add] at e0 e1 e2
          have hspot := hsp (by omega)
          obtain ⟨g, off, spot⟩ := a
          subst hspot
          rw [add_plain] at e0 e1 e2
          have d0 : W.cell? ⟨g, off + i * 3, none⟩ = some (.int .i64 z0) := by simpa using e0
          exact ⟨(z0, z1, s2), fun _ => ⟨hs', g, off, rfl, World.block_lt_of_cell? _ _ d0, d0, by simpa [Nat.add_assoc] using e1, by simpa [Nat.add_assoc] using e2⟩⟩
      · exact ⟨(0, 0, ByteArray.empty), fun h => absurd h hi⟩
    obtain ⟨q, hq⟩ := Classical.axiomOfChoice each
    refine ⟨some a, c0, (List.range l0).map q, by simp, by simpa using hlc, by simp; omega, fun i hi => ?_⟩
    have hil : i < l0 := by simpa using hi
    simpa using hq i hil
end
end Go.Proofs.Ytiejfbodcjckeaa
