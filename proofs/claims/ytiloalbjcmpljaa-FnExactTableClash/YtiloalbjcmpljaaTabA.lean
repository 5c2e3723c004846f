/- Rows of moves and of ends in memory; szMoveS, toMoveS, eqMoveS and the like of the exact laws; a table that came in as an argument. -/
import Derived.Test.YtiloalbjcmpljaaOpenG
import Derived.Test.YtiloalbjcmpljaaBox
import Derived.Deep.Slices
namespace Go.Proofs.Ytiloalbjcmpljaa
open Go.ChangeShapes Go.WideShapes Go.ChangeAt Go.RowKit Go.Joins Go.Deep
set_option maxRecDepth 100000
abbrev TriT := Int × ByteArray × Int
/-- block b holds these three values ahead -/
def BoxT (w : World) (b : Nat) (v0 v1 v2 : Value) : Prop := b < w.heap.size ∧ w.cell? ⟨b, 0, none⟩ = some v0 ∧ w.cell? ⟨b, 1, none⟩ = some v1 ∧ w.cell? ⟨b, 2, none⟩ = some v2
theorem BoxT.below {w w' : World} {b : Nat} {v0 v1 v2 : Value} (h : BoxT w b v0 v1 v2) (hb : Below w.heap.size w w') : BoxT w' b v0 v1 v2 :=
  ⟨Nat.lt_of_lt_of_le h.1 hb.size, (hb.cell (p := ⟨b, 0, none⟩) h.1).trans h.2.1, (hb.cell (p := ⟨b, 1, none⟩) h.1).trans h.2.2.1, (hb.cell (p := ⟨b, 2, none⟩) h.1).trans h.2.2.2⟩
theorem BoxT.new (w : World) (v0 v1 v2 : Value) (T : TypeId) : BoxT (w.alloc (.cells #[v0, v1, v2] T)) w.heap.size v0 v1 v2 := ⟨by simp, by simp, by simp, by simp⟩
theorem BoxT.old {w : World} {b : Nat} {v0 v1 v2 : Value} (h : BoxT w b v0 v1 v2) (o : Obj) : BoxT (w.alloc o) b v0 v1 v2 := h.below ((Below.refl _ _).alloc (Nat.le_refl _) _)
theorem keepT3 {w : World} {b : Nat} {v0 v1 v2 : Value} (X : BoxT w b v0 v1 v2) : w.cell? ⟨b, 0, none⟩ = some v0 ∧ w.cell? ⟨b, 1, none⟩ = some v1 ∧ w.cell? ⟨b, 2, none⟩ = some v2 := X.2
theorem keepT5 {w : World} {b c : Nat} {v0 v1 u0 u1 u2 : Value} (X : Box2 w b v0 v1) (Y : BoxT w c u0 u1 u2) : w.cell? ⟨b, 0, none⟩ = some v0 ∧ w.cell? ⟨b, 1, none⟩ = some v1 ∧ w.cell? ⟨c, 0, none⟩ = some u0 ∧ w.cell? ⟨c, 1, none⟩ = some u1 ∧ w.cell? ⟨c, 2, none⟩ = some u2 := ⟨X.2.1, X.2.2, Y.2⟩
theorem keepT6 {w : World} {b c : Nat} {v0 v1 v2 u0 u1 u2 : Value} (X : BoxT w b v0 v1 v2) (Y : BoxT w c u0 u1 u2) : w.cell? ⟨b, 0, none⟩ = some v0 ∧ w.cell? ⟨b, 1, none⟩ = some v1 ∧ w.cell? ⟨b, 2, none⟩ = some v2 ∧ w.cell? ⟨c, 0, none⟩ = some u0 ∧ w.cell? ⟨c, 1, none⟩ = some u1 ∧ w.cell? ⟨c, 2, none⟩ = some u2 := ⟨X.2.1, X.2.2.1, X.2.2.2, Y.2⟩
/-- a slice of moves or of ends lies there -/
def TrisAt (w : World) (a : Option Addr) (xs : List TriT) : Prop :=
  xs.length ≤ maxLen ∧ ∀ i (h : i < xs.length), xs[i].2.1.size ≤ maxLen ∧ ∃ b off, a = some ⟨b, off, none⟩ ∧ b < w.heap.size ∧ w.cell? ⟨b, off + i * 3, none⟩ = some (.int .i64 xs[i].1) ∧ w.cell? ⟨b, off + i * 3 + 1, none⟩ = some (.string xs[i].2.1) ∧ w.cell? ⟨b, off + i * 3 + 2, none⟩ = some (.int .i64 xs[i].2.2)
theorem TrisAt.below {w w' : World} {a : Option Addr} {xs : List TriT} {B : Nat} (h : TrisAt w a xs) (hb : Below B w w') (hB : w.heap.size ≤ B) : TrisAt w' a xs := by
  refine ⟨h.1, fun i hi => ?_⟩
  obtain ⟨z, b, off, e, hl, c0, c1, c2⟩ := h.2 i hi
  exact ⟨z, b, off, e, Nat.lt_of_lt_of_le hl hb.size, (hb.cell (p := ⟨b, _, none⟩) (by show b < B; omega)).trans c0, (hb.cell (p := ⟨b, _, none⟩) (by show b < B; omega)).trans c1, (hb.cell (p := ⟨b, _, none⟩) (by show b < B; omega)).trans c2⟩
theorem TrisAt.drew {w : World} {a : Option Addr} {xs : List TriT} (h : TrisAt w a xs) : TrisAt w.drew a xs := h
def triCells (xs : List TriT) (i : Nat) : Value := match xs[i / 3]? with
  | some x => if i % 3 = 0 then .int .i64 x.1 else if i % 3 = 1 then .string x.2.1 else .int .i64 x.2.2
  | none => undef
theorem triCells_0 (xs : List TriT) (i : Nat) (h : i < xs.length) : triCells xs (i * 3) = .int .i64 xs[i].1 := by
  unfold triCells
  rw [show i * 3 / 3 = i from by omega, List.getElem?_eq_getElem h]
  simp
theorem triCells_1 (xs : List TriT) (i : Nat) (h : i < xs.length) : triCells xs (i * 3 + 1) = .string xs[i].2.1 := by
  unfold triCells
  rw [show (i * 3 + 1) / 3 = i from by omega, List.getElem?_eq_getElem h]
  simp [show (i * 3 + 1) % 3 = 1 from by omega]
theorem triCells_2 (xs : List TriT) (i : Nat) (h : i < xs.length) : triCells xs (i * 3 + 2) = .int .i64 xs[i].2.2 := by
  unfold triCells
  rw [show (i * 3 + 2) / 3 = i from by omega, List.getElem?_eq_getElem h]
  simp [show (i * 3 + 2) % 3 = 2 from by omega]
/-- numbers of 64 bits -/
def WfT (xs : List TriT) : Prop := ∀ x ∈ xs, (Lit.int .i64 x.1).wf = true ∧ (Lit.int .i64 x.2.2).wf = true
def FitsT (xs : List TriT) : Prop := xs.length ≤ maxLen ∧ ∀ i (h : i < xs.length), xs[i].2.1.size ≤ maxLen
theorem TrisAt.fits {w : World} {a : Option Addr} {xs : List TriT} (h : TrisAt w a xs) : FitsT xs := ⟨h.1, fun i hi => (h.2 i hi).1⟩
theorem trisAt_of_row {w : World} {b : Nat} {T : TypeId} {xs : List TriT} (h : w.rowIs b T (xs.length * 3) (triCells xs)) (hf : FitsT xs) : TrisAt w (some ⟨b, 0, none⟩) xs := by
  refine ⟨hf.1, fun i hi => ⟨hf.2 i hi, b, 0, rfl, h.lt, ?_, ?_, ?_⟩⟩
  · rw [Nat.zero_add, h.cell (by omega), triCells_0 xs i hi]
  · rw [Nat.zero_add, h.cell (by omega), triCells_1 xs i hi]
  · rw [Nat.zero_add, h.cell (by omega), triCells_2 xs i hi]
def zeroT (i : Nat) : Value := if i % 3 = 0 then .int .i64 0 else if i % 3 = 1 then .string ByteArray.empty else .int .i64 0
def partT (xs : List TriT) (k i : Nat) : Value := if i < 3 * k then triCells xs i else zeroT i
theorem madeT (n i : Nat) (h : i < n) : (madeCells #[.int .i64 0, .string ByteArray.empty, .int .i64 0] n)[i]? = some (zeroT i) := by
  have : i % 3 = 0 ∨ i % 3 = 1 ∨ i % 3 = 2 := by omega
  rcases this with e | e | e <;> simp [madeCells, h, e, zeroT]
/-- a new slice with just these, in memory of its own -/
def FreshTris (T : TypeId) (xs : List TriT) (w : World) (e : Ending) (w' : World) : Prop := ∃ b, e = .returned (.slice (some ⟨b, 0, none⟩) xs.length xs.length) ∧ w.heap.size ≤ b ∧ w'.rowIs b T (xs.length * 3) (triCells xs) ∧ Below w.heap.size w w'
def szTriM (s : ByteArray) (left : Int) : Int := if left - s.size < 0 then -1 else left - s.size
theorem szTriM_le (s : ByteArray) (left : Int) (h : 0 ≤ left) : szTriM s left ≤ left ∧ -1 ≤ szTriM s left := by
  unfold szTriM; split <;> omega
def szTFold : List TriT → Int → Int
  | [], left => left
  | x :: xs, left => if szTriM x.2.1 left < 0 then -1 else szTFold xs (szTriM x.2.1 left)
def szTrisM (xs : List TriT) (left : Int) : Int := if left - xs.length < 0 then -1 else szTFold xs (left - xs.length)
theorem szTFold_le (xs : List TriT) : ∀ left : Int, 0 ≤ left → szTFold xs left ≤ left ∧ -1 ≤ szTFold xs left := by
  induction xs with
  | nil => intro left h; simp [szTFold]; omega
  | cons r rs ih =>
    intro left h
    have h1 := szTriM_le r.2.1 left h
    unfold szTFold
    split
    · omega
    · have := ih (szTriM r.2.1 left) (by omega); omega
theorem szTFold_mem (xs : List TriT) : ∀ left : Int, 0 ≤ left → 0 ≤ szTFold xs left → ∀ x ∈ xs, (x.2.1.size : Int) ≤ left := by
  induction xs with
  | nil => intro left _ _ x hx; cases hx
  | cons r rs ih =>
    intro left h h0 x hx
    have h1 := szTriM_le r.2.1 left h
    unfold szTFold at h0
    split at h0
    · omega
    · rename_i hn
      rcases List.mem_cons.1 hx with rfl | hx
      · unfold szTriM at hn; split at hn <;> omega
      · have := ih (szTriM r.2.1 left) (by omega) h0 x hx; omega
theorem szTrisM_le (xs : List TriT) (left : Int) (h : 0 ≤ left) : szTrisM xs left ≤ left ∧ -1 ≤ szTrisM xs left := by
  unfold szTrisM
  split
  · omega
  · have := szTFold_le xs (left - xs.length) (by omega); omega
theorem szTrisM_len {xs : List TriT} {left : Int} (h1 : left ≤ 1048576) (h : 0 ≤ szTrisM xs left) : xs.length ≤ 1048576 ∧ ∀ x ∈ xs, x.2.1.size ≤ 1048576 := by
  unfold szTrisM at h
  split at h
  · omega
  · refine ⟨by omega, fun x hx => ?_⟩
    have := szTFold_mem xs _ (by omega) h x hx
    omega
def szTableM (xs ys : List TriT) (left : Int) : Int := if szTrisM xs left < 0 then -1 else if szTrisM ys (szTrisM xs left) < 0 then -1 else szTrisM ys (szTrisM xs left)
theorem szTableM_le (xs ys : List TriT) (left : Int) (h : 0 ≤ left) : szTableM xs ys left ≤ left ∧ -1 ≤ szTableM xs ys left := by
  have h1 := szTrisM_le xs left h
  unfold szTableM
  split
  · omega
  · have := szTrisM_le ys (szTrisM xs left) (by omega)
    split <;> omega
theorem szTableM_len {xs ys : List TriT} {left : Int} (h0 : 0 ≤ left) (h1 : left ≤ 1048576) (h : 0 ≤ szTableM xs ys left) : (xs.length ≤ 1048576 ∧ ∀ x ∈ xs, x.2.1.size ≤ 1048576) ∧ (ys.length ≤ 1048576 ∧ ∀ x ∈ ys, x.2.1.size ≤ 1048576) := by
  have h2 := szTrisM_le xs left h0
  unfold szTableM at h
  split at h
  · omega
  · split at h
    · omega
    · exact ⟨szTrisM_len h1 (by omega), szTrisM_len (by omega) h⟩

theorem szMove_any (r d : Int) (s : ByteArray) (left : Int) (w : World) (h0 : 0 ≤ left) (h1 : left ≤ 1048576) (hs : s.size ≤ maxLen) :
    Calls Try.prog 59 #[.agg #[.int .i64 r, .string s, .int .i64 d], .int .i64 left] w fun e w' => e = .returned (.int .i64 (szTriM s left)) ∧ Below w.heap.size w w' := by
  unfold maxLen at hs
  by_cases c1 : left - (s.size : Int) < 0
  · go_enter Try.func59, Try.ntmps59
    go_wp2
    go_ret
    exact ⟨ret_int (by unfold szTriM; rw [if_pos c1]), (Below.refl _ _).alloc (Nat.le_refl _) _⟩
  · go_enter Try.func59, Try.ntmps59
    go_wp2
    go_ret
    exact ⟨ret_int (by unfold szTriM; rw [if_neg (by omega)]), (Below.refl _ _).alloc (Nat.le_refl _) _⟩
theorem toMove_any (r d : Int) (s : ByteArray) (w : World) :
    Calls Try.prog 66 #[.agg #[.int .i64 r, .string s, .int .i64 d]] w fun e w' => e = .returned (.agg #[.int .i64 r, .string s, .int .i64 d]) ∧ Below w.heap.size w w' := by
  go_enter Try.func66, Try.ntmps66
  go_wp2
  exact bodyPost_ret (v := .agg #[.int .i64 r, .string s, .int .i64 d]) (by simp [results, Try.results66, go_sem]) rfl ⟨rfl, (((Below.refl _ _).alloc (Nat.le_refl _) _).alloc (by simp) _).alloc (by simp; omega) _⟩
theorem run_make_Move (n : Nat) (hn : n ≤ 1048576) (w : World) : (Instr.makeSlice 36 (.int .i64 (n : Int)) (.int .i64 (n : Int))).run Try.prog w = .ok (.slice (some ⟨w.heap.size, 0, none⟩) n n) (w.alloc (.cells (madeCells #[.int .i64 0, .string ByteArray.empty, .int .i64 0] (n * 3)) 60)) := by
  have hinfo : (Try.prog.info? 60).map (fun i => (i.zero, i.size, i.bytes)) = some (some (.agg #[.int .i64 0, .string ByteArray.empty, .int .i64 0]), 3, 32) := by kernel_rfl
  obtain ⟨i, hi, hzz⟩ := Option.map_eq_some_iff.1 hinfo
  simp only [Prod.mk.injEq] at hzz
  obtain ⟨hz, hs, hb⟩ := hzz
  have hr := run_make (P := Try.prog) w 36 60 i _ Try.underlying36 hi hz .i64 .i64 n n (by omega) (Int.le_refl _) (by rw [hb]; omega) (by omega)
  rw [hs] at hr
  simpa [Value.cells] using hr
set_option maxHeartbeats 400000 in
theorem szMoveS_any (a : Option Addr) (cap : Nat) (xs : List TriT) (left : Int) (w : World) (H : TrisAt w a xs) (h0 : 0 ≤ left) (h1 : left ≤ 1048576) :
    Calls Try.prog 29 #[.slice a xs.length cap, .int .i64 left] w fun e w' => e = .returned (.int .i64 (szTrisM xs left)) ∧ Below w.heap.size w w' := by
  have hn := H.1
  unfold maxLen at hn
  by_cases c1 : left - (xs.length : Int) < 0
  · go_enter Try.func29, Try.ntmps29
    go_wp2
    go_ret
    exact ⟨ret_int (by unfold szTrisM; rw [if_pos c1]), Below.refl _ _⟩
  · have c1' : decide (left - (xs.length : Int) < 0) = false := by simpa using c1
    go_enter Try.func29, Try.ntmps29
    go_wp2
    go_loopw [1, 5] (fun s i wr => ∃ (k : Nat) (v : Int), k ≤ xs.length ∧ i = .int .i64 k ∧ s = .int .i64 v ∧ 0 ≤ v ∧ v ≤ left ∧ Hid (szTFold (xs.drop k) v = szTFold xs (left - xs.length)) ∧ Below w.heap.size w wr) (fun _ i _ => xs.length - (intOf i).toNat)
    case atStart => exact ⟨0, left - xs.length, Nat.zero_le _, rfl, rfl, by omega, by omega, rfl, Below.refl _ _⟩
    case round =>
      obtain ⟨k, v, hk, rfl, rfl, hv0, hv1, HS, hb⟩ := hrel
      by_cases hlt : k < xs.length
      · obtain ⟨z, b, off, e, hbb, c0, c1, c2⟩ := H.2 k hlt
        subst e
        have d0 : wr.cell? ⟨b, off + k * 3, none⟩ = some (.int .i64 xs[k].1) := by rw [hb.cell (p := ⟨b, _, none⟩) hbb, c0]
        have d1 : wr.cell? ⟨b, off + k * 3 + 1, none⟩ = some (.string xs[k].2.1) := by rw [hb.cell (p := ⟨b, _, none⟩) hbb, c1]
        have d2 : wr.cell? ⟨b, off + k * 3 + 2, none⟩ = some (.int .i64 xs[k].2.2) := by rw [hb.cell (p := ⟨b, _, none⟩) hbb, c2]
        have hle := szTriM_le xs[k].2.1 v hv0
        have HD : Hid (szTFold (xs.drop k) v = if szTriM xs[k].2.1 v < 0 then -1 else szTFold (xs.drop (k + 1)) (szTriM xs[k].2.1 v)) := by
          show _ = _; rw [List.drop_eq_getElem_cons hlt]; rfl
        go_wp2_with (go_at_call 59; refine (szMove_any _ _ _ _ _ hv0 (by omega) z).mono ?_; rintro e w' ⟨rfl, hb'⟩)
        · have hneg : szTriM xs[k].2.1 v < 0 := by assumption
          go_ret
          exact ⟨ret_int (by unfold szTrisM; rw [if_neg (by omega), ← HS.out, HD.out, if_pos hneg]), hb.trans (hb'.mono hb.size)⟩
        · have hpos : 0 ≤ szTriM xs[k].2.1 v := by assumption
          go_roundw
          case rel => exact ⟨k + 1, szTriM xs[k].2.1 v, by omega, by go_num, rfl, hpos, by omega, by show _ = _; rw [← HS.out, HD.out, if_neg (by omega)], hb.trans (hb'.mono hb.size)⟩
          case measure => simp [intOf]; omega
      · go_wp2
        go_ret
        exact ⟨ret_int (by unfold szTrisM; rw [if_neg (by omega), ← HS.out, List.drop_eq_nil_of_le (by omega)]; rfl), hb⟩
set_option maxHeartbeats 400000 in
theorem toMoveS_any (a : Option Addr) (cap : Nat) (xs : List TriT) (w : World) (H : TrisAt w a xs) (hn : xs.length ≤ 1048576) :
    Calls Try.prog 37 #[.slice a xs.length cap] w (FreshTris 60 xs w) := by
  have hmk := run_make_Move xs.length hn
  go_enter Try.func37, Try.ntmps37
  go_wp2
  clear hmk
  go_loopw [4] (fun i wr => ∃ k : Nat, k ≤ xs.length ∧ i = .int .i64 k ∧ wr.rowIs w.heap.size 60 (xs.length * 3) (partT xs k) ∧ Below w.heap.size w wr) (fun i _ => xs.length - (intOf i).toNat)
  case atStart =>
    refine ⟨0, Nat.zero_le _, rfl, ?_, (Below.refl _ _).alloc (Nat.le_refl _) _⟩
    have hr := World.rowIs_alloc w (madeCells #[.int .i64 0, .string ByteArray.empty, .int .i64 0] (xs.length * 3)) 60 (partT xs 0) (fun i hi => by rw [madeT _ _ (by rwa [size_madeCells] at hi)]; simp [partT])
    rwa [size_madeCells] at hr
  case round =>
    obtain ⟨k, hk, rfl, hrow, hb⟩ := hrel
    by_cases hlt : k < xs.length
    · obtain ⟨z, b, off, e, hbb, c0, c1, c2⟩ := H.2 k hlt
      subst e
      have d0 : wr.cell? ⟨b, off + k * 3, none⟩ = some (.int .i64 xs[k].1) := by rw [hb.cell (p := ⟨b, _, none⟩) hbb, c0]
      have d1 : wr.cell? ⟨b, off + k * 3 + 1, none⟩ = some (.string xs[k].2.1) := by rw [hb.cell (p := ⟨b, _, none⟩) hbb, c1]
      have d2 : wr.cell? ⟨b, off + k * 3 + 2, none⟩ = some (.int .i64 xs[k].2.2) := by rw [hb.cell (p := ⟨b, _, none⟩) hbb, c2]
      go_wp2_with fail
      refine (toMove_any _ _ _ _).mono ?_
      rintro e w' ⟨rfl, hb'⟩
      have hrow' := hrow.of_block (hb'.block _ hrow.lt)
      have e0 := hrow'.cell (i := k * 3) (by omega)
      have e1 := hrow'.cell (i := k * 3 + 1) (by omega)
      have e2 := hrow'.cell (i := k * 3 + 2) (by omega)
      have f0 := hrow'.frozen (k * 3)
      have f1 := hrow'.frozen (k * 3 + 1)
      have f2 := hrow'.frozen (k * 3 + 2)
      go_wp2
      go_roundw
      case rel =>
        refine ⟨k + 1, by omega, by go_num, (((hrow'.set _ _).set _ _).set _ _).congr (fun i hi => ?_), (((hb.trans (hb'.mono hb.size)).setCell (Nat.le_refl _) _).setCell (Nat.le_refl _) _).setCell (Nat.le_refl _) _⟩
        unfold partT
        by_cases i2 : i = k * 3 + 2
        · subst i2; rw [if_pos rfl, if_pos (by omega), triCells_2 xs k hlt]
        · rw [if_neg i2]
          by_cases i1 : i = k * 3 + 1
          · subst i1; rw [if_pos rfl, if_pos (by omega), triCells_1 xs k hlt]
          · rw [if_neg i1]
            by_cases i0 : i = k * 3
            · subst i0; rw [if_pos rfl, if_pos (by omega), triCells_0 xs k hlt]
            · rw [if_neg i0]
              by_cases i3 : i < 3 * k
              · rw [if_pos i3, if_pos (by omega)]
              · rw [if_neg i3, if_neg (by omega)]
      case measure => simp [intOf]; omega
    · go_wp2
      go_ret
      exact ⟨w.heap.size, rfl, Nat.le_refl _, hrow.congr (fun i hi => by unfold partT; rw [if_pos (by omega)]), hb⟩
theorem eqMove_any (r d : Int) (s : ByteArray) (w : World) :
    Calls Try.prog 74 #[.agg #[.int .i64 r, .string s, .int .i64 d], .agg #[.int .i64 r, .string s, .int .i64 d]] w fun e w' => e = .returned (.bool true) ∧ Below w.heap.size w w' := by
  go_enter Try.func74, Try.ntmps74
  go_wp2
  go_ret
  exact ⟨rfl, ((Below.refl _ _).alloc (Nat.le_refl _) _).alloc (by simp) _⟩
set_option maxHeartbeats 400000 in
theorem eqMoveS_any (a a' : Option Addr) (cap cap' : Nat) (xs : List TriT) (w : World) (HA : TrisAt w a xs) (HB : TrisAt w a' xs) :
    Calls Try.prog 43 #[.slice a xs.length cap, .slice a' xs.length cap'] w fun e w' => e = .returned (.bool true) ∧ Below w.heap.size w w' := by
  have hn := HA.1
  unfold maxLen at hn
  go_enter Try.func43, Try.ntmps43
  go_wp2
  go_loopw [5] (fun i wr => ∃ k : Nat, k ≤ xs.length ∧ i = .int .i64 k ∧ Below w.heap.size w wr) (fun i _ => xs.length - (intOf i).toNat)
  case atStart => exact ⟨0, Nat.zero_le _, rfl, Below.refl _ _⟩
  case round =>
    obtain ⟨k, hk, rfl, hb⟩ := hrel
    by_cases hlt : k < xs.length
    · obtain ⟨z, b, off, e, hbb, c0, c1, c2⟩ := HA.2 k hlt
      obtain ⟨z', b', off', e', hbb', c0', c1', c2'⟩ := HB.2 k hlt
      subst e e'
      have hsz := hb.size
      have g0 : ∀ x, (grow wr x).cell? ⟨b, off + k * 3, none⟩ = some (.int .i64 xs[k].1) := fun x => by rw [grow_cell _ _ _ _ (by omega), hb.cell (p := ⟨b, _, none⟩) hbb, c0]
      have g1 : ∀ x, (grow wr x).cell? ⟨b, off + k * 3 + 1, none⟩ = some (.string xs[k].2.1) := fun x => by rw [grow_cell _ _ _ _ (by omega), hb.cell (p := ⟨b, _, none⟩) hbb, c1]
      have g2 : ∀ x, (grow wr x).cell? ⟨b, off + k * 3 + 2, none⟩ = some (.int .i64 xs[k].2.2) := fun x => by rw [grow_cell _ _ _ _ (by omega), hb.cell (p := ⟨b, _, none⟩) hbb, c2]
      have g3 : ∀ x, (grow wr x).cell? ⟨b', off' + k * 3, none⟩ = some (.int .i64 xs[k].1) := fun x => by rw [grow_cell _ _ _ _ (by omega), hb.cell (p := ⟨b', _, none⟩) hbb', c0']
      have g4 : ∀ x, (grow wr x).cell? ⟨b', off' + k * 3 + 1, none⟩ = some (.string xs[k].2.1) := fun x => by rw [grow_cell _ _ _ _ (by omega), hb.cell (p := ⟨b', _, none⟩) hbb', c1']
      have g5 : ∀ x, (grow wr x).cell? ⟨b', off' + k * 3 + 2, none⟩ = some (.int .i64 xs[k].2.2) := fun x => by rw [grow_cell _ _ _ _ (by omega), hb.cell (p := ⟨b', _, none⟩) hbb', c2']
      have hkl : (k : Int) < (xs.length : Int) := by omega
      go_wp2
      refine wp_region_grow (by kernel_rfl) (by kernel_rfl) ?_
      repeat (go_big_quiet_step ((go_at_call 74; exact Calls.grow_of (eqMove_any _ _ _ _))))
      refine wpQuiet_nil ?_
      rintro _ ⟨x, rfl⟩
      have hfin : Below w.heap.size w (grow wr x) := hb.trans ((below_grow _ _).mono hsz)
      go_wp2
      go_roundw
      case rel => exact ⟨k + 1, by omega, by go_num, hfin⟩
      case measure => simp [intOf]; omega
    · go_wp2
      go_ret
      exact ⟨rfl, hb⟩
section
variable {H : Type} {enc : TypeId × Value → H} {W : World} {base : Nat} {spare : Nat → Bool} {held : Bool}
theorem open_Move_cells {fuel : Nat} {v0 v1 v2 : Value} {x : DataW H × List MemPlace} (h : DataW.trod enc Try.prog W base spare held fuel 88 [v0, v1, v2] = some x) :
    ∃ (r d : Int) (s : ByteArray), v0 = .int .i64 r ∧ v1 = .string s ∧ v2 = .int .i64 d ∧ s.size ≤ maxLen ∧ (Lit.int .i64 r).wf = true ∧ (Lit.int .i64 d).wf = true := by
  obtain ⟨xs, n, hf, _, _, hxl, hfs⟩ := DataW.trod_struct Try.underlying88 h
  match xs, hxl with
  | [y0, y1, y2], _ =>
    have h0 := hfs 0 _ rfl
    have h1 := hfs 1 _ rfl
    have h2 := hfs 2 _ rfl
    have k0 : Try.prog.cellsOf 9 = 1 := by kernel_rfl
    have k1 : Try.prog.cellsOf 3 = 1 := by kernel_rfl
    simp [k1] at h0
    simp [k0] at h1
    simp [k1] at h2
    obtain ⟨r, e0, _, wr⟩ := DataW.trod_int Try.underlying3 h0
    obtain ⟨s, e1, _, hs⟩ := DataW.trod_string Try.underlying9 h1
    obtain ⟨d, e2, _, wd⟩ := DataW.trod_int Try.underlying3 h2
    exact ⟨r, d, s, by simpa using e0, by simpa using e1, by simpa using e2, hs, wr, wd⟩
theorem open_MoveS {fuel : Nat} {v : Value} {x : DataW H × List MemPlace} (hf : DataW.trod enc Try.prog W base spare held fuel 25 [v] = some x) :
    ∃ (a : Option Addr) (cap : Nat) (xs : List TriT), v = .slice a xs.length cap ∧ TrisAt W a xs ∧ WfT xs := by
  have k3 : Try.prog.cellsOf 88 = 3 := by kernel_rfl
  rcases DataW.trod_slice Try.underlying25 hf with ⟨hc, _⟩ | ⟨a, len, cap, elems, rest, m, hm, hc, _, _, hl, hcm, hel, hk, _, _⟩
  · obtain rfl : v = .slice none 0 0 := by simpa using hc
    exact ⟨none, 0, [], rfl, ⟨Nat.zero_le _, fun i hi => absurd hi (Nat.not_lt_zero _)⟩, fun x hx => by cases hx⟩
  · obtain rfl : v = .slice (some a) len cap := by simpa using hc
    have hsp : 0 < len → a.spot = none := by
      intro h0
      have hb := hk 0 h0
      rw [List.getElem?_eq_getElem (by omega : 0 < elems.length)] at hb
      obtain ⟨cs, hcs, _⟩ := Option.bind_eq_some_iff.1 hb
      rw [k3] at hcs
      obtain ⟨_, hlen, hcell⟩ := World.cells?_some hcs
      match cs, hlen with
      | [u0, u1, u2], _ =>
        have c0 := hcell 0 (by omega)
        simpa [Addr.add] using World.cell?_spot c0
    have each : ∀ i : Nat, ∃ q : TriT, i < len → (q.2.1.size ≤ maxLen ∧ (Lit.int .i64 q.1).wf = true ∧ (Lit.int .i64 q.2.2).wf = true) ∧ ∃ b off, some a = some ⟨b, off, none⟩ ∧ b < W.heap.size ∧ W.cell? ⟨b, off + i * 3, none⟩ = some (.int .i64 q.1) ∧ W.cell? ⟨b, off + i * 3 + 1, none⟩ = some (.string q.2.1) ∧ W.cell? ⟨b, off + i * 3 + 2, none⟩ = some (.int .i64 q.2.2) := by
      intro i
      by_cases hi : i < len
      · have hb := hk i hi
        rw [List.getElem?_eq_getElem (by omega : i < elems.length)] at hb
        obtain ⟨cs, hcs, htr⟩ := Option.bind_eq_some_iff.1 hb
        rw [k3] at hcs
        obtain ⟨_, hlen, hcell⟩ := World.cells?_some hcs
        match cs, hlen with
        | [u0, u1, u2], _ =>
          obtain ⟨r', d', s', rfl, rfl, rfl, hs', hr', hd'⟩ := open_Move_cells htr
          have e0 := hcell 0 (by omega)
          have e1 := hcell 1 (by omega)
          have e2 := hcell 2 (by omega)
          rw [add_add] at e0 e1 e2
          have hspot := hsp (by omega)
          obtain ⟨g, off, spot⟩ := a
          subst hspot
          rw [add_plain] at e0 e1 e2
          have d0 : W.cell? ⟨g, off + i * 3, none⟩ = some (.int .i64 r') := by simpa using e0
          exact ⟨(r', s', d'), fun _ => ⟨⟨hs', hr', hd'⟩, g, off, rfl, World.block_lt_of_cell? _ _ d0, d0, by simpa [Nat.add_assoc] using e1, by simpa [Nat.add_assoc] using e2⟩⟩
      · exact ⟨(0, ByteArray.empty, 0), fun h => absurd h hi⟩
    obtain ⟨q, hq⟩ := Classical.axiomOfChoice each
    refine ⟨some a, cap, (List.range len).map q, by simp, ⟨by simp; omega, fun i hi => ?_⟩, fun x hx => ?_⟩
    · have hil : i < len := by simpa using hi
      obtain ⟨h1, h2⟩ := hq i hil
      exact ⟨by simpa using h1.1, by simpa using h2⟩
    · obtain ⟨i, hi, rfl⟩ := List.mem_map.1 hx
      exact (hq i (by simpa using hi)).1.2
end

theorem szEnd_any (r d : Int) (s : ByteArray) (left : Int) (w : World) (h0 : 0 ≤ left) (h1 : left ≤ 1048576) (hs : s.size ≤ maxLen) :
    Calls Try.prog 60 #[.agg #[.int .i64 r, .string s, .int .i64 d], .int .i64 left] w fun e w' => e = .returned (.int .i64 (szTriM s left)) ∧ Below w.heap.size w w' := by
  unfold maxLen at hs
  by_cases c1 : left - (s.size : Int) < 0
  · go_enter Try.func60, Try.ntmps60
    go_wp2
    go_ret
    exact ⟨ret_int (by unfold szTriM; rw [if_pos c1]), (Below.refl _ _).alloc (Nat.le_refl _) _⟩
  · go_enter Try.func60, Try.ntmps60
    go_wp2
    go_ret
    exact ⟨ret_int (by unfold szTriM; rw [if_neg (by omega)]), (Below.refl _ _).alloc (Nat.le_refl _) _⟩
theorem toEnd_any (r d : Int) (s : ByteArray) (w : World) :
    Calls Try.prog 67 #[.agg #[.int .i64 r, .string s, .int .i64 d]] w fun e w' => e = .returned (.agg #[.int .i64 r, .string s, .int .i64 d]) ∧ Below w.heap.size w w' := by
  go_enter Try.func67, Try.ntmps67
  go_wp2
  exact bodyPost_ret (v := .agg #[.int .i64 r, .string s, .int .i64 d]) (by simp [results, Try.results67, go_sem]) rfl ⟨rfl, (((Below.refl _ _).alloc (Nat.le_refl _) _).alloc (by simp) _).alloc (by simp; omega) _⟩
theorem run_make_End (n : Nat) (hn : n ≤ 1048576) (w : World) : (Instr.makeSlice 37 (.int .i64 (n : Int)) (.int .i64 (n : Int))).run Try.prog w = .ok (.slice (some ⟨w.heap.size, 0, none⟩) n n) (w.alloc (.cells (madeCells #[.int .i64 0, .string ByteArray.empty, .int .i64 0] (n * 3)) 63)) := by
  have hinfo : (Try.prog.info? 63).map (fun i => (i.zero, i.size, i.bytes)) = some (some (.agg #[.int .i64 0, .string ByteArray.empty, .int .i64 0]), 3, 32) := by kernel_rfl
  obtain ⟨i, hi, hzz⟩ := Option.map_eq_some_iff.1 hinfo
  simp only [Prod.mk.injEq] at hzz
  obtain ⟨hz, hs, hb⟩ := hzz
  have hr := run_make (P := Try.prog) w 37 63 i _ Try.underlying37 hi hz .i64 .i64 n n (by omega) (Int.le_refl _) (by rw [hb]; omega) (by omega)
  rw [hs] at hr
  simpa [Value.cells] using hr
set_option maxHeartbeats 400000 in
theorem szEndS_any (a : Option Addr) (cap : Nat) (xs : List TriT) (left : Int) (w : World) (H : TrisAt w a xs) (h0 : 0 ≤ left) (h1 : left ≤ 1048576) :
    Calls Try.prog 30 #[.slice a xs.length cap, .int .i64 left] w fun e w' => e = .returned (.int .i64 (szTrisM xs left)) ∧ Below w.heap.size w w' := by
  have hn := H.1
  unfold maxLen at hn
  by_cases c1 : left - (xs.length : Int) < 0
  · go_enter Try.func30, Try.ntmps30
    go_wp2
    go_ret
    exact ⟨ret_int (by unfold szTrisM; rw [if_pos c1]), Below.refl _ _⟩
  · have c1' : decide (left - (xs.length : Int) < 0) = false := by simpa using c1
    go_enter Try.func30, Try.ntmps30
    go_wp2
    go_loopw [1, 5] (fun s i wr => ∃ (k : Nat) (v : Int), k ≤ xs.length ∧ i = .int .i64 k ∧ s = .int .i64 v ∧ 0 ≤ v ∧ v ≤ left ∧ Hid (szTFold (xs.drop k) v = szTFold xs (left - xs.length)) ∧ Below w.heap.size w wr) (fun _ i _ => xs.length - (intOf i).toNat)
    case atStart => exact ⟨0, left - xs.length, Nat.zero_le _, rfl, rfl, by omega, by omega, rfl, Below.refl _ _⟩
    case round =>
      obtain ⟨k, v, hk, rfl, rfl, hv0, hv1, HS, hb⟩ := hrel
      by_cases hlt : k < xs.length
      · obtain ⟨z, b, off, e, hbb, c0, c1, c2⟩ := H.2 k hlt
        subst e
        have d0 : wr.cell? ⟨b, off + k * 3, none⟩ = some (.int .i64 xs[k].1) := by rw [hb.cell (p := ⟨b, _, none⟩) hbb, c0]
        have d1 : wr.cell? ⟨b, off + k * 3 + 1, none⟩ = some (.string xs[k].2.1) := by rw [hb.cell (p := ⟨b, _, none⟩) hbb, c1]
        have d2 : wr.cell? ⟨b, off + k * 3 + 2, none⟩ = some (.int .i64 xs[k].2.2) := by rw [hb.cell (p := ⟨b, _, none⟩) hbb, c2]
        have hle := szTriM_le xs[k].2.1 v hv0
        have HD : Hid (szTFold (xs.drop k) v = if szTriM xs[k].2.1 v < 0 then -1 else szTFold (xs.drop (k + 1)) (szTriM xs[k].2.1 v)) := by
          show _ = _; rw [List.drop_eq_getElem_cons hlt]; rfl
        go_wp2_with (go_at_call 60; refine (szEnd_any _ _ _ _ _ hv0 (by omega) z).mono ?_; rintro e w' ⟨rfl, hb'⟩)
        · have hneg : szTriM xs[k].2.1 v < 0 := by assumption
          go_ret
          exact ⟨ret_int (by unfold szTrisM; rw [if_neg (by omega), ← HS.out, HD.out, if_pos hneg]), hb.trans (hb'.mono hb.size)⟩
        · have hpos : 0 ≤ szTriM xs[k].2.1 v := by assumption
          go_roundw
          case rel => exact ⟨k + 1, szTriM xs[k].2.1 v, by omega, by go_num, rfl, hpos, by omega, by show _ = _; rw [← HS.out, HD.out, if_neg (by omega)], hb.trans (hb'.mono hb.size)⟩
          case measure => simp [intOf]; omega
      · go_wp2
        go_ret
        exact ⟨ret_int (by unfold szTrisM; rw [if_neg (by omega), ← HS.out, List.drop_eq_nil_of_le (by omega)]; rfl), hb⟩
set_option maxHeartbeats 400000 in
theorem toEndS_any (a : Option Addr) (cap : Nat) (xs : List TriT) (w : World) (H : TrisAt w a xs) (hn : xs.length ≤ 1048576) :
    Calls Try.prog 38 #[.slice a xs.length cap] w (FreshTris 63 xs w) := by
  have hmk := run_make_End xs.length hn
  go_enter Try.func38, Try.ntmps38
  go_wp2
  clear hmk
  go_loopw [4] (fun i wr => ∃ k : Nat, k ≤ xs.length ∧ i = .int .i64 k ∧ wr.rowIs w.heap.size 63 (xs.length * 3) (partT xs k) ∧ Below w.heap.size w wr) (fun i _ => xs.length - (intOf i).toNat)
  case atStart =>
    refine ⟨0, Nat.zero_le _, rfl, ?_, (Below.refl _ _).alloc (Nat.le_refl _) _⟩
    have hr := World.rowIs_alloc w (madeCells #[.int .i64 0, .string ByteArray.empty, .int .i64 0] (xs.length * 3)) 63 (partT xs 0) (fun i hi => by rw [madeT _ _ (by rwa [size_madeCells] at hi)]; simp [partT])
    rwa [size_madeCells] at hr
  case round =>
    obtain ⟨k, hk, rfl, hrow, hb⟩ := hrel
    by_cases hlt : k < xs.length
    · obtain ⟨z, b, off, e, hbb, c0, c1, c2⟩ := H.2 k hlt
      subst e
      have d0 : wr.cell? ⟨b, off + k * 3, none⟩ = some (.int .i64 xs[k].1) := by rw [hb.cell (p := ⟨b, _, none⟩) hbb, c0]
      have d1 : wr.cell? ⟨b, off + k * 3 + 1, none⟩ = some (.string xs[k].2.1) := by rw [hb.cell (p := ⟨b, _, none⟩) hbb, c1]
      have d2 : wr.cell? ⟨b, off + k * 3 + 2, none⟩ = some (.int .i64 xs[k].2.2) := by rw [hb.cell (p := ⟨b, _, none⟩) hbb, c2]
      go_wp2_with fail
      refine (toEnd_any _ _ _ _).mono ?_
      rintro e w' ⟨rfl, hb'⟩
      have hrow' := hrow.of_block (hb'.block _ hrow.lt)
      have e0 := hrow'.cell (i := k * 3) (by omega)
      have e1 := hrow'.cell (i := k * 3 + 1) (by omega)
      have e2 := hrow'.cell (i := k * 3 + 2) (by omega)
      have f0 := hrow'.frozen (k * 3)
      have f1 := hrow'.frozen (k * 3 + 1)
      have f2 := hrow'.frozen (k * 3 + 2)
      go_wp2
      go_roundw
      case rel =>
        refine ⟨k + 1, by omega, by go_num, (((hrow'.set _ _).set _ _).set _ _).congr (fun i hi => ?_), (((hb.trans (hb'.mono hb.size)).setCell (Nat.le_refl _) _).setCell (Nat.le_refl _) _).setCell (Nat.le_refl _) _⟩
        unfold partT
        by_cases i2 : i = k * 3 + 2
        · subst i2; rw [if_pos rfl, if_pos (by omega), triCells_2 xs k hlt]
        · rw [if_neg i2]
          by_cases i1 : i = k * 3 + 1
          · subst i1; rw [if_pos rfl, if_pos (by omega), triCells_1 xs k hlt]
          · rw [if_neg i1]
            by_cases i0 : i = k * 3
            · subst i0; rw [if_pos rfl, if_pos (by omega), triCells_0 xs k hlt]
            · rw [if_neg i0]
              by_cases i3 : i < 3 * k
              · rw [if_pos i3, if_pos (by omega)]
              · rw [if_neg i3, if_neg (by omega)]
      case measure => simp [intOf]; omega
    · go_wp2
      go_ret
      exact ⟨w.heap.size, rfl, Nat.le_refl _, hrow.congr (fun i hi => by unfold partT; rw [if_pos (by omega)]), hb⟩
theorem eqEnd_any (r d : Int) (s : ByteArray) (w : World) :
    Calls Try.prog 75 #[.agg #[.int .i64 r, .string s, .int .i64 d], .agg #[.int .i64 r, .string s, .int .i64 d]] w fun e w' => e = .returned (.bool true) ∧ Below w.heap.size w w' := by
  go_enter Try.func75, Try.ntmps75
  go_wp2
  go_ret
  exact ⟨rfl, ((Below.refl _ _).alloc (Nat.le_refl _) _).alloc (by simp) _⟩
set_option maxHeartbeats 400000 in
theorem eqEndS_any (a a' : Option Addr) (cap cap' : Nat) (xs : List TriT) (w : World) (HA : TrisAt w a xs) (HB : TrisAt w a' xs) :
    Calls Try.prog 44 #[.slice a xs.length cap, .slice a' xs.length cap'] w fun e w' => e = .returned (.bool true) ∧ Below w.heap.size w w' := by
  have hn := HA.1
  unfold maxLen at hn
  go_enter Try.func44, Try.ntmps44
  go_wp2
  go_loopw [5] (fun i wr => ∃ k : Nat, k ≤ xs.length ∧ i = .int .i64 k ∧ Below w.heap.size w wr) (fun i _ => xs.length - (intOf i).toNat)
  case atStart => exact ⟨0, Nat.zero_le _, rfl, Below.refl _ _⟩
  case round =>
    obtain ⟨k, hk, rfl, hb⟩ := hrel
    by_cases hlt : k < xs.length
    · obtain ⟨z, b, off, e, hbb, c0, c1, c2⟩ := HA.2 k hlt
      obtain ⟨z', b', off', e', hbb', c0', c1', c2'⟩ := HB.2 k hlt
      subst e e'
      have hsz := hb.size
      have g0 : ∀ x, (grow wr x).cell? ⟨b, off + k * 3, none⟩ = some (.int .i64 xs[k].1) := fun x => by rw [grow_cell _ _ _ _ (by omega), hb.cell (p := ⟨b, _, none⟩) hbb, c0]
      have g1 : ∀ x, (grow wr x).cell? ⟨b, off + k * 3 + 1, none⟩ = some (.string xs[k].2.1) := fun x => by rw [grow_cell _ _ _ _ (by omega), hb.cell (p := ⟨b, _, none⟩) hbb, c1]
      have g2 : ∀ x, (grow wr x).cell? ⟨b, off + k * 3 + 2, none⟩ = some (.int .i64 xs[k].2.2) := fun x => by rw [grow_cell _ _ _ _ (by omega), hb.cell (p := ⟨b, _, none⟩) hbb, c2]
      have g3 : ∀ x, (grow wr x).cell? ⟨b', off' + k * 3, none⟩ = some (.int .i64 xs[k].1) := fun x => by rw [grow_cell _ _ _ _ (by omega), hb.cell (p := ⟨b', _, none⟩) hbb', c0']
      have g4 : ∀ x, (grow wr x).cell? ⟨b', off' + k * 3 + 1, none⟩ = some (.string xs[k].2.1) := fun x => by rw [grow_cell _ _ _ _ (by omega), hb.cell (p := ⟨b', _, none⟩) hbb', c1']
      have g5 : ∀ x, (grow wr x).cell? ⟨b', off' + k * 3 + 2, none⟩ = some (.int .i64 xs[k].2.2) := fun x => by rw [grow_cell _ _ _ _ (by omega), hb.cell (p := ⟨b', _, none⟩) hbb', c2']
      have hkl : (k : Int) < (xs.length : Int) := by omega
      go_wp2
      refine wp_region_grow (by kernel_rfl) (by kernel_rfl) ?_
      repeat (go_big_quiet_step ((go_at_call 75; exact Calls.grow_of (eqEnd_any _ _ _ _))))
      refine wpQuiet_nil ?_
      rintro _ ⟨x, rfl⟩
      have hfin : Below w.heap.size w (grow wr x) := hb.trans ((below_grow _ _).mono hsz)
      go_wp2
      go_roundw
      case rel => exact ⟨k + 1, by omega, by go_num, hfin⟩
      case measure => simp [intOf]; omega
    · go_wp2
      go_ret
      exact ⟨rfl, hb⟩
section
variable {H : Type} {enc : TypeId × Value → H} {W : World} {base : Nat} {spare : Nat → Bool} {held : Bool}
theorem open_End_cells {fuel : Nat} {v0 v1 v2 : Value} {x : DataW H × List MemPlace} (h : DataW.trod enc Try.prog W base spare held fuel 90 [v0, v1, v2] = some x) :
    ∃ (r d : Int) (s : ByteArray), v0 = .int .i64 r ∧ v1 = .string s ∧ v2 = .int .i64 d ∧ s.size ≤ maxLen ∧ (Lit.int .i64 r).wf = true ∧ (Lit.int .i64 d).wf = true := by
  obtain ⟨xs, n, hf, _, _, hxl, hfs⟩ := DataW.trod_struct Try.underlying90 h
  match xs, hxl with
  | [y0, y1, y2], _ =>
    have h0 := hfs 0 _ rfl
    have h1 := hfs 1 _ rfl
    have h2 := hfs 2 _ rfl
    have k0 : Try.prog.cellsOf 9 = 1 := by kernel_rfl
    have k1 : Try.prog.cellsOf 3 = 1 := by kernel_rfl
    simp [k1] at h0
    simp [k0] at h1
    simp [k1] at h2
    obtain ⟨r, e0, _, wr⟩ := DataW.trod_int Try.underlying3 h0
    obtain ⟨s, e1, _, hs⟩ := DataW.trod_string Try.underlying9 h1
    obtain ⟨d, e2, _, wd⟩ := DataW.trod_int Try.underlying3 h2
    exact ⟨r, d, s, by simpa using e0, by simpa using e1, by simpa using e2, hs, wr, wd⟩
theorem open_EndS {fuel : Nat} {v : Value} {x : DataW H × List MemPlace} (hf : DataW.trod enc Try.prog W base spare held fuel 26 [v] = some x) :
    ∃ (a : Option Addr) (cap : Nat) (xs : List TriT), v = .slice a xs.length cap ∧ TrisAt W a xs ∧ WfT xs := by
  have k3 : Try.prog.cellsOf 90 = 3 := by kernel_rfl
  rcases DataW.trod_slice Try.underlying26 hf with ⟨hc, _⟩ | ⟨a, len, cap, elems, rest, m, hm, hc, _, _, hl, hcm, hel, hk, _, _⟩
  · obtain rfl : v = .slice none 0 0 := by simpa using hc
    exact ⟨none, 0, [], rfl, ⟨Nat.zero_le _, fun i hi => absurd hi (Nat.not_lt_zero _)⟩, fun x hx => by cases hx⟩
  · obtain rfl : v = .slice (some a) len cap := by simpa using hc
    have hsp : 0 < len → a.spot = none := by
      intro h0
      have hb := hk 0 h0
      rw [List.getElem?_eq_getElem (by omega : 0 < elems.length)] at hb
      obtain ⟨cs, hcs, _⟩ := Option.bind_eq_some_iff.1 hb
      rw [k3] at hcs
      obtain ⟨_, hlen, hcell⟩ := World.cells?_some hcs
      match cs, hlen with
      | [u0, u1, u2], _ =>
        have c0 := hcell 0 (by omega)
        simpa [Addr.add] using World.cell?_spot c0
    have each : ∀ i : Nat, ∃ q : TriT, i < len → (q.2.1.size ≤ maxLen ∧ (Lit.int .i64 q.1).wf = true ∧ (Lit.int .i64 q.2.2).wf = true) ∧ ∃ b off, some a = some ⟨b, off, none⟩ ∧ b < W.heap.size ∧ W.cell? ⟨b, off + i * 3, none⟩ = some (.int .i64 q.1) ∧ W.cell? ⟨b, off + i * 3 + 1, none⟩ = some (.string q.2.1) ∧ W.cell? ⟨b, off + i * 3 + 2, none⟩ = some (.int .i64 q.2.2) := by
      intro i
      by_cases hi : i < len
      · have hb := hk i hi
        rw [List.getElem?_eq_getElem (by omega : i < elems.length)] at hb
        obtain ⟨cs, hcs, htr⟩ := Option.bind_eq_some_iff.1 hb
        rw [k3] at hcs
        obtain ⟨_, hlen, hcell⟩ := World.cells?_some hcs
        match cs, hlen with
        | [u0, u1, u2], _ =>
          obtain ⟨r', d', s', rfl, rfl, rfl, hs', hr', hd'⟩ := open_End_cells htr
          have e0 := hcell 0 (by omega)
          have e1 := hcell 1 (by omega)
          have e2 := hcell 2 (by omega)
          rw [add_add] at e0 e1 e2
          have hspot := hsp (by omega)
          obtain ⟨g, off, spot⟩ := a
          subst hspot
          rw [add_plain] at e0 e1 e2
          have d0 : W.cell? ⟨g, off + i * 3, none⟩ = some (.int .i64 r') := by simpa using e0
          exact ⟨(r', s', d'), fun _ => ⟨⟨hs', hr', hd'⟩, g, off, rfl, World.block_lt_of_cell? _ _ d0, d0, by simpa [Nat.add_assoc] using e1, by simpa [Nat.add_assoc] using e2⟩⟩
      · exact ⟨(0, ByteArray.empty, 0), fun h => absurd h hi⟩
    obtain ⟨q, hq⟩ := Classical.axiomOfChoice each
    refine ⟨some a, cap, (List.range len).map q, by simp, ⟨by simp; omega, fun i hi => ?_⟩, fun x hx => ?_⟩
    · have hil : i < len := by simpa using hi
      obtain ⟨h1, h2⟩ := hq i hil
      exact ⟨by simpa using h1.1, by simpa using h2⟩
    · obtain ⟨i, hi, rfl⟩ := List.mem_map.1 hx
      exact (hq i (by simpa using hi)).1.2
end

abbrev tabV (m : Int) (a : Option Addr) (n cap : Nat) (c : Option Addr) (l cup : Nat) : Value := .agg #[.int .i64 m, .slice a n cap, .slice c l cup]
section
variable {H : Type} {enc : TypeId × Value → H} {W : World} {base : Nat} {spare : Nat → Bool} {held : Bool}
theorem open_tableW {r : Reach} {b0 : Nat} {v : Value} {d : DataW H} {p : List MemPlace} (hv : Value.okWide Try.prog W r b0 28 v) (h : DataW.Trod enc Try.prog W base spare held 28 v d p) :
    ∃ (m : Int) (a : Option Addr) (cap : Nat) (xs : List TriT) (c : Option Addr) (cup : Nat) (ys : List TriT), v = tabV m a xs.length cap c ys.length cup ∧ TrisAt W a xs ∧ TrisAt W c ys ∧ WfT xs ∧ WfT ys := by
  obtain ⟨cs, rfl, hsz⟩ := okWide_struct Try.underlying28 hv
  obtain ⟨c0, c1, c2, rfl⟩ := array3 (hsz.trans (by kernel_rfl : Try.prog.cellsOf 28 = 3))
  obtain ⟨fuel, hf⟩ := h
  obtain ⟨zs, n, hf, _, _, hxl, hfs⟩ := DataW.trod_struct Try.underlying28 hf
  match zs, hxl with
  | [y0, y1, y2], _ =>
    have h0 := hfs 0 _ rfl
    have h1 := hfs 1 _ rfl
    have h2 := hfs 2 _ rfl
    have k1 : Try.prog.cellsOf 3 = 1 := by kernel_rfl
    have k2 : Try.prog.cellsOf 25 = 1 := by kernel_rfl
    have k3 : Try.prog.cellsOf 26 = 1 := by kernel_rfl
    simp [Value.cells, k1] at h0
    simp [Value.cells, k2] at h1
    simp [Value.cells, k3] at h2
    obtain ⟨m, e0, _, _⟩ := DataW.trod_int Try.underlying3 h0
    obtain ⟨a, cap, xs, rfl, hx, wx⟩ := open_MoveS h1
    obtain ⟨c, cup, ys, rfl, hy, wy⟩ := open_EndS h2
    obtain rfl : c0 = .int .i64 m := by simpa using e0
    exact ⟨m, a, cap, xs, c, cup, ys, rfl, hx, hy, wx, wy⟩
theorem open_table {r : Reach} {b0 : Nat} {v : Value} {d : DataW H} {p : List MemPlace} (hv : Value.okWide Try.prog W r b0 28 v) (h : DataW.Trod enc Try.prog W base spare held 28 v d p) :
    ∃ (m : Int) (a : Option Addr) (cap : Nat) (xs : List TriT) (c : Option Addr) (cup : Nat) (ys : List TriT), v = tabV m a xs.length cap c ys.length cup ∧ TrisAt W a xs ∧ TrisAt W c ys := by
  obtain ⟨m, a, cap, xs, c, cup, ys, e, hx, hy, _⟩ := open_tableW hv h
  exact ⟨m, a, cap, xs, c, cup, ys, e, hx, hy⟩
end
end Go.Proofs.Ytiloalbjcmpljaa
