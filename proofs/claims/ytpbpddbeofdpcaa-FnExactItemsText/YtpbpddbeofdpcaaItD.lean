/- Rows of items in memory; szItemS, toItemS, eqItemS of the exact laws; a row of items that came in as an argument. -/
import Derived.Test.YtpbpddbeofdpcaaItC
import Derived.Deep.Slices
namespace Go.Proofs.Ytpbpddbeofdpcaa
open Go.ChangeShapes Go.WideShapes Go.ChangeAt Go.RowKit Go.Joins Go.Deep
set_option maxRecDepth 100000
abbrev ItemT := Int × Int × ByteArray
/-- a slice of items lies there -/
def ItemsAt (w : World) (a : Option Addr) (xs : List ItemT) : Prop :=
  xs.length ≤ maxLen ∧ ∀ i (h : i < xs.length), xs[i].2.2.size ≤ maxLen ∧ ∃ b off, a = some ⟨b, off, none⟩ ∧ b < w.heap.size ∧ w.cell? ⟨b, off + i * 3, none⟩ = some (.int .i64 xs[i].1) ∧ w.cell? ⟨b, off + i * 3 + 1, none⟩ = some (.int .i64 xs[i].2.1) ∧ w.cell? ⟨b, off + i * 3 + 2, none⟩ = some (.string xs[i].2.2)
theorem ItemsAt.below {w w' : World} {a : Option Addr} {xs : List ItemT} {B : Nat} (h : ItemsAt w a xs) (hb : Below B w w') (hB : w.heap.size ≤ B) : ItemsAt w' a xs := by
  refine ⟨h.1, fun i hi => ?_⟩
  obtain ⟨z, b, off, e, hl, c0, c1, c2⟩ := h.2 i hi
  exact ⟨z, b, off, e, Nat.lt_of_lt_of_le hl hb.size, (hb.cell (p := ⟨b, _, none⟩) (by show b < B; omega)).trans c0, (hb.cell (p := ⟨b, _, none⟩) (by show b < B; omega)).trans c1, (hb.cell (p := ⟨b, _, none⟩) (by show b < B; omega)).trans c2⟩
theorem ItemsAt.drew {w : World} {a : Option Addr} {xs : List ItemT} (h : ItemsAt w a xs) : ItemsAt w.drew a xs := h
def itemCells (xs : List ItemT) (i : Nat) : Value := match xs[i / 3]? with
  | some x => if i % 3 = 0 then .int .i64 x.1 else if i % 3 = 1 then .int .i64 x.2.1 else .string x.2.2
  | none => undef
theorem itemCells_0 (xs : List ItemT) (i : Nat) (h : i < xs.length) : itemCells xs (i * 3) = .int .i64 xs[i].1 := by
  unfold itemCells
  rw [show i * 3 / 3 = i from by omega, List.getElem?_eq_getElem h]
  simp
theorem itemCells_1 (xs : List ItemT) (i : Nat) (h : i < xs.length) : itemCells xs (i * 3 + 1) = .int .i64 xs[i].2.1 := by
  unfold itemCells
  rw [show (i * 3 + 1) / 3 = i from by omega, List.getElem?_eq_getElem h]
  simp [show (i * 3 + 1) % 3 = 1 from by omega]
theorem itemCells_2 (xs : List ItemT) (i : Nat) (h : i < xs.length) : itemCells xs (i * 3 + 2) = .string xs[i].2.2 := by
  unfold itemCells
  rw [show (i * 3 + 2) / 3 = i from by omega, List.getElem?_eq_getElem h]
  simp [show (i * 3 + 2) % 3 = 2 from by omega]
def FitsI (xs : List ItemT) : Prop := xs.length ≤ maxLen ∧ ∀ i (h : i < xs.length), xs[i].2.2.size ≤ maxLen
theorem ItemsAt.fits {w : World} {a : Option Addr} {xs : List ItemT} (h : ItemsAt w a xs) : FitsI xs := ⟨h.1, fun i hi => (h.2 i hi).1⟩
theorem itemsAt_of_row {w : World} {b : Nat} {T : TypeId} {xs : List ItemT} (h : w.rowIs b T (xs.length * 3) (itemCells xs)) (hf : FitsI xs) : ItemsAt w (some ⟨b, 0, none⟩) xs := by
  refine ⟨hf.1, fun i hi => ⟨hf.2 i hi, b, 0, rfl, h.lt, ?_, ?_, ?_⟩⟩
  · rw [Nat.zero_add, h.cell (by omega), itemCells_0 xs i hi]
  · rw [Nat.zero_add, h.cell (by omega), itemCells_1 xs i hi]
  · rw [Nat.zero_add, h.cell (by omega), itemCells_2 xs i hi]
def zeroI (i : Nat) : Value := if i % 3 = 0 then .int .i64 0 else if i % 3 = 1 then .int .i64 0 else .string ByteArray.empty
def partI (xs : List ItemT) (k i : Nat) : Value := if i < 3 * k then itemCells xs i else zeroI i
theorem run_make_items (n : Nat) (hn : n ≤ 1048576) (w : World) : (Instr.makeSlice 42 (.int .i64 (n : Int)) (.int .i64 (n : Int))).run Try.prog w = .ok (.slice (some ⟨w.heap.size, 0, none⟩) n n) (w.alloc (.cells (madeCells #[.int .i64 0, .int .i64 0, .string ByteArray.empty] (n * 3)) 34)) := by
  have hinfo : (Try.prog.info? 34).map (fun i => (i.zero, i.size, i.bytes)) = some (some (.agg #[.int .i64 0, .int .i64 0, .string ByteArray.empty]), 3, 32) := by kernel_rfl
  obtain ⟨i, hi, hzz⟩ := Option.map_eq_some_iff.1 hinfo
  simp only [Prod.mk.injEq] at hzz
  obtain ⟨hz, hs, hb⟩ := hzz
  have hr := run_make (P := Try.prog) w 42 34 i _ Try.underlying42 hi hz .i64 .i64 n n (by omega) (Int.le_refl _) (by rw [hb]; omega) (by omega)
  rw [hs] at hr
  simpa [Value.cells] using hr
theorem made_at3 (n i : Nat) (h : i < n) : (madeCells #[.int .i64 0, .int .i64 0, .string ByteArray.empty] n)[i]? = some (zeroI i) := by
  have : i % 3 = 0 ∨ i % 3 = 1 ∨ i % 3 = 2 := by omega
  rcases this with e | e | e <;> simp [madeCells, h, e, zeroI]
/-- a new slice with just these items, in memory of its own -/
def FreshItems (xs : List ItemT) (w : World) (e : Ending) (w' : World) : Prop := ∃ b, e = .returned (.slice (some ⟨b, 0, none⟩) xs.length xs.length) ∧ w.heap.size ≤ b ∧ w'.rowIs b 34 (xs.length * 3) (itemCells xs) ∧ Below w.heap.size w w'

def szIFold : List ItemT → Int → Int
  | [], left => left
  | x :: xs, left => if szItemM x.2.2 left < 0 then -1 else szIFold xs (szItemM x.2.2 left)
def szItemsM (xs : List ItemT) (left : Int) : Int := if left - xs.length < 0 then -1 else szIFold xs (left - xs.length)
theorem szIFold_le (xs : List ItemT) : ∀ left : Int, 0 ≤ left → szIFold xs left ≤ left ∧ -1 ≤ szIFold xs left := by
  induction xs with
  | nil => intro left h; simp [szIFold]; omega
  | cons r rs ih =>
    intro left h
    have h1 := szItemM_le r.2.2 left h
    unfold szIFold
    split
    · omega
    · have := ih (szItemM r.2.2 left) (by omega); omega
theorem szItemsM_len {xs : List ItemT} {left : Int} (h1 : left ≤ 1048576) (h : 0 ≤ szItemsM xs left) : xs.length ≤ 1048576 := by
  unfold szItemsM at h
  split at h
  · omega
  · omega

set_option maxHeartbeats 400000 in
theorem szItemS_any (a : Option Addr) (cap : Nat) (xs : List ItemT) (left : Int) (w : World) (H : ItemsAt w a xs) (h0 : 0 ≤ left) (h1 : left ≤ 1048576) :
    Calls Try.prog 16 #[.slice a xs.length cap, .int .i64 left] w fun e w' => e = .returned (.int .i64 (szItemsM xs left)) ∧ Below w.heap.size w w' := by
  have hn := H.1
  unfold maxLen at hn
  by_cases c1 : left - (xs.length : Int) < 0
  · go_enter Try.func16, Try.ntmps16
    go_wp2
    go_ret
    exact ⟨ret_int (by unfold szItemsM; rw [if_pos c1]), Below.refl _ _⟩
  · have c1' : decide (left - (xs.length : Int) < 0) = false := by simpa using c1
    go_enter Try.func16, Try.ntmps16
    go_wp2
    go_loopw [1, 5] (fun s i wr => ∃ (k : Nat) (v : Int), k ≤ xs.length ∧ i = .int .i64 k ∧ s = .int .i64 v ∧ 0 ≤ v ∧ v ≤ left ∧ Hid (szIFold (xs.drop k) v = szIFold xs (left - xs.length)) ∧ Below w.heap.size w wr) (fun _ i _ => xs.length - (intOf i).toNat)
    case atStart => exact ⟨0, left - xs.length, Nat.zero_le _, rfl, rfl, by omega, by omega, rfl, Below.refl _ _⟩
    case round =>
      obtain ⟨k, v, hk, rfl, rfl, hv0, hv1, HS, hb⟩ := hrel
      by_cases hlt : k < xs.length
      · obtain ⟨z, b, off, e, hbb, c0, c1, c2⟩ := H.2 k hlt
        subst e
        have d0 : wr.cell? ⟨b, off + k * 3, none⟩ = some (.int .i64 xs[k].1) := by rw [hb.cell (p := ⟨b, _, none⟩) hbb, c0]
        have d1 : wr.cell? ⟨b, off + k * 3 + 1, none⟩ = some (.int .i64 xs[k].2.1) := by rw [hb.cell (p := ⟨b, _, none⟩) hbb, c1]
        have d2 : wr.cell? ⟨b, off + k * 3 + 2, none⟩ = some (.string xs[k].2.2) := by rw [hb.cell (p := ⟨b, _, none⟩) hbb, c2]
        have hle := szItemM_le xs[k].2.2 v hv0
        have HD : Hid (szIFold (xs.drop k) v = if szItemM xs[k].2.2 v < 0 then -1 else szIFold (xs.drop (k + 1)) (szItemM xs[k].2.2 v)) := by
          show _ = _; rw [List.drop_eq_getElem_cons hlt]; rfl
        go_wp2_with (go_at_call 8; refine (szItem_any _ _ _ _ _ hv0 (by omega) z).mono ?_; rintro e w' ⟨rfl, hb'⟩)
        · have hneg : szItemM xs[k].2.2 v < 0 := by assumption
          go_ret
          exact ⟨ret_int (by unfold szItemsM; rw [if_neg (by omega), ← HS.out, HD.out, if_pos hneg]), hb.trans (hb'.mono hb.size)⟩
        · have hpos : 0 ≤ szItemM xs[k].2.2 v := by assumption
          go_roundw
          case rel => exact ⟨k + 1, szItemM xs[k].2.2 v, by omega, by go_num, rfl, hpos, by omega, by show _ = _; rw [← HS.out, HD.out, if_neg (by omega)], hb.trans (hb'.mono hb.size)⟩
          case measure => simp [intOf]; omega
      · go_wp2
        go_ret
        exact ⟨ret_int (by unfold szItemsM; rw [if_neg (by omega), ← HS.out, List.drop_eq_nil_of_le (by omega)]; rfl), hb⟩

set_option maxHeartbeats 400000 in
theorem toItemS_any (a : Option Addr) (cap : Nat) (xs : List ItemT) (w : World) (H : ItemsAt w a xs) (hn : xs.length ≤ 1048576) :
    Calls Try.prog 18 #[.slice a xs.length cap] w (FreshItems xs w) := by
  have hmk := run_make_items xs.length hn
  go_enter Try.func18, Try.ntmps18
  go_wp2
  clear hmk
  go_loopw [4] (fun i wr => ∃ k : Nat, k ≤ xs.length ∧ i = .int .i64 k ∧ wr.rowIs w.heap.size 34 (xs.length * 3) (partI xs k) ∧ Below w.heap.size w wr) (fun i _ => xs.length - (intOf i).toNat)
  case atStart =>
    refine ⟨0, Nat.zero_le _, rfl, ?_, (Below.refl _ _).alloc (Nat.le_refl _) _⟩
    have hr := World.rowIs_alloc w (madeCells #[.int .i64 0, .int .i64 0, .string ByteArray.empty] (xs.length * 3)) 34 (partI xs 0) (fun i hi => by rw [made_at3 _ _ (by rwa [size_madeCells] at hi)]; simp [partI])
    rwa [size_madeCells] at hr
  case round =>
    obtain ⟨k, hk, rfl, hrow, hb⟩ := hrel
    by_cases hlt : k < xs.length
    · obtain ⟨z, b, off, e, hbb, c0, c1, c2⟩ := H.2 k hlt
      subst e
      have d0 : wr.cell? ⟨b, off + k * 3, none⟩ = some (.int .i64 xs[k].1) := by rw [hb.cell (p := ⟨b, _, none⟩) hbb, c0]
      have d1 : wr.cell? ⟨b, off + k * 3 + 1, none⟩ = some (.int .i64 xs[k].2.1) := by rw [hb.cell (p := ⟨b, _, none⟩) hbb, c1]
      have d2 : wr.cell? ⟨b, off + k * 3 + 2, none⟩ = some (.string xs[k].2.2) := by rw [hb.cell (p := ⟨b, _, none⟩) hbb, c2]
      go_wp2_with fail
      refine (toItem_any _ _ _ _).mono ?_
      rintro e w' ⟨rfl, hb'⟩
      have hrow' := hrow.of_block (hb'.block _ hrow.lt)
      have e0 := hrow'.cell (i := k * 3) (by omega)
      have e1 := hrow'.cell (i := k * 3 + 1) (by omega)
      have e2 := hrow'.cell (i := k * 3 + 2) (by omega)
      have f0 := hrow'.frozen (k * 3)
      have f1 := hrow'.frozen (k * 3 + 1)
      have f2 := hrow'.frozen (k * 3 + 2)
      go_wp2
      go_roundw
      case rel =>
        refine ⟨k + 1, by omega, by go_num, (((hrow'.set _ _).set _ _).set _ _).congr (fun i hi => ?_), (((hb.trans (hb'.mono hb.size)).setCell (Nat.le_refl _) _).setCell (Nat.le_refl _) _).setCell (Nat.le_refl _) _⟩
        unfold partI
        by_cases i2 : i = k * 3 + 2
        · subst i2; rw [if_pos rfl, if_pos (by omega), itemCells_2 xs k hlt]
        · rw [if_neg i2]
          by_cases i1 : i = k * 3 + 1
          · subst i1; rw [if_pos rfl, if_pos (by omega), itemCells_1 xs k hlt]
          · rw [if_neg i1]
            by_cases i0 : i = k * 3
            · subst i0; rw [if_pos rfl, if_pos (by omega), itemCells_0 xs k hlt]
            · rw [if_neg i0]
              by_cases i3 : i < 3 * k
              · rw [if_pos i3, if_pos (by omega)]
              · rw [if_neg i3, if_neg (by omega)]
      case measure => simp [intOf]; omega
    · go_wp2
      go_ret
      exact ⟨w.heap.size, rfl, Nat.le_refl _, hrow.congr (fun i hi => by unfold partI; rw [if_pos (by omega)]), hb⟩

theorem eqItem_any (r d : Int) (s : ByteArray) (w : World) :
    Calls Try.prog 34 #[.agg #[.int .i64 r, .int .i64 d, .string s], .agg #[.int .i64 r, .int .i64 d, .string s]] w fun e w' => e = .returned (.bool true) ∧ Below w.heap.size w w' := by
  go_enter Try.func34, Try.ntmps34
  go_wp2
  go_ret
  exact ⟨rfl, ((Below.refl _ _).alloc (Nat.le_refl _) _).alloc (by simp) _⟩
set_option maxHeartbeats 400000 in
theorem eqItemS_any (a a' : Option Addr) (cap cap' : Nat) (xs : List ItemT) (w : World) (HA : ItemsAt w a xs) (HB : ItemsAt w a' xs) :
    Calls Try.prog 20 #[.slice a xs.length cap, .slice a' xs.length cap'] w fun e w' => e = .returned (.bool true) ∧ Below w.heap.size w w' := by
  have hn := HA.1
  unfold maxLen at hn
  go_enter Try.func20, Try.ntmps20
  go_wp2
  go_loopw [5] (fun i wr => ∃ k : Nat, k ≤ xs.length ∧ i = .int .i64 k ∧ Below w.heap.size w wr) (fun i _ => xs.length - (intOf i).toNat)
  case atStart => exact ⟨0, Nat.zero_le _, rfl, Below.refl _ _⟩
  case round =>
    obtain ⟨k, hk, rfl, hb⟩ := hrel
    by_cases hlt : k < xs.length
    · obtain ⟨z, b, off, e, hbb, c0, c1, c2⟩ := HA.2 k hlt
      obtain ⟨z', b', off', e', hbb', c0', c1', c2'⟩ := HB.2 k hlt
      subst e e'
      have hsz := hb.size
      have g0 : ∀ x, (grow wr x).cell? ⟨b, off + k * 3, none⟩ = some (.int .i64 xs[k].1) := fun x => by rw [grow_cell _ _ _ _ (by omega), hb.cell (p := ⟨b, _, none⟩) hbb, c0]
      have g1 : ∀ x, (grow wr x).cell? ⟨b, off + k * 3 + 1, none⟩ = some (.int .i64 xs[k].2.1) := fun x => by rw [grow_cell _ _ _ _ (by omega), hb.cell (p := ⟨b, _, none⟩) hbb, c1]
      have g2 : ∀ x, (grow wr x).cell? ⟨b, off + k * 3 + 2, none⟩ = some (.string xs[k].2.2) := fun x => by rw [grow_cell _ _ _ _ (by omega), hb.cell (p := ⟨b, _, none⟩) hbb, c2]
      have g3 : ∀ x, (grow wr x).cell? ⟨b', off' + k * 3, none⟩ = some (.int .i64 xs[k].1) := fun x => by rw [grow_cell _ _ _ _ (by omega), hb.cell (p := ⟨b', _, none⟩) hbb', c0']
      have g4 : ∀ x, (grow wr x).cell? ⟨b', off' + k * 3 + 1, none⟩ = some (.int .i64 xs[k].2.1) := fun x => by rw [grow_cell _ _ _ _ (by omega), hb.cell (p := ⟨b', _, none⟩) hbb', c1']
      have g5 : ∀ x, (grow wr x).cell? ⟨b', off' + k * 3 + 2, none⟩ = some (.string xs[k].2.2) := fun x => by rw [grow_cell _ _ _ _ (by omega), hb.cell (p := ⟨b', _, none⟩) hbb', c2']
      have hkl : (k : Int) < (xs.length : Int) := by omega
      go_wp2
      refine wp_region_grow (by kernel_rfl) (by kernel_rfl) ?_
      repeat (go_big_quiet_step ((go_at_call 34; exact Calls.grow_of (eqItem_any _ _ _ _))))
      refine wpQuiet_nil ?_
      rintro _ ⟨x, rfl⟩
      have hfin : Below w.heap.size w (grow wr x) := hb.trans ((below_grow _ _).mono hsz)
      go_wp2
      go_roundw
      case rel => exact ⟨k + 1, by omega, by go_num, hfin⟩
      case measure => simp [intOf]; omega
    · go_wp2
      go_ret
      exact ⟨rfl, hb⟩
section
variable {H : Type} {enc : TypeId × Value → H} {W : World} {base : Nat} {spare : Nat → Bool} {held : Bool}
theorem open_items {r : Reach} {b0 : Nat} {v : Value} {d : DataW H} {p : List MemPlace} (hv : Value.okWide Try.prog W r b0 39 v) (h : DataW.Trod enc Try.prog W base spare held 39 v d p) :
    ∃ (a : Option Addr) (cap : Nat) (xs : List ItemT), v = .slice a xs.length cap ∧ ItemsAt W a xs := by
  obtain ⟨a0, l0, c0, rfl⟩ := okWide_slice Try.underlying39 hv
  obtain ⟨fuel, hf⟩ := h
  have k3 : Try.prog.cellsOf 26 = 3 := by kernel_rfl
  rcases DataW.trod_slice Try.underlying39 hf with ⟨hc, _⟩ | ⟨a, len, cap, elems, rest, m, hm, hc, _, _, hl, hcm, hel, hk, _, _⟩
  · simp [Value.cells] at hc
    obtain ⟨rfl, rfl, rfl⟩ := hc
    exact ⟨none, 0, [], rfl, Nat.zero_le _, fun i hi => absurd hi (Nat.not_lt_zero _)⟩
  · simp [Value.cells] at hc
    obtain ⟨rfl, rfl, rfl⟩ := hc
    have hsp : 0 < l0 → a.spot = none := by
      intro h0
      have hb := hk 0 h0
      rw [List.getElem?_eq_getElem (by omega : 0 < elems.length)] at hb
      obtain ⟨cs, hcs, _⟩ := Option.bind_eq_some_iff.1 hb
      rw [k3] at hcs
      obtain ⟨_, hlen, hcell⟩ := World.cells?_some hcs
      match cs, hlen with
      | [u0, u1, u2], _ =>
        have c0 := hcell 0 (by omega)
        simpa [Addr.add] using World.cell?_spot c0
    have each : ∀ i : Nat, ∃ q : ItemT, i < l0 → q.2.2.size ≤ maxLen ∧ ∃ b off, some a = some ⟨b, off, none⟩ ∧ b < W.heap.size ∧ W.cell? ⟨b, off + i * 3, none⟩ = some (.int .i64 q.1) ∧ W.cell? ⟨b, off + i * 3 + 1, none⟩ = some (.int .i64 q.2.1) ∧ W.cell? ⟨b, off + i * 3 + 2, none⟩ = some (.string q.2.2) := by
      intro i
      by_cases hi : i < l0
      · have hb := hk i hi
        rw [List.getElem?_eq_getElem (by omega : i < elems.length)] at hb
        obtain ⟨cs, hcs, htr⟩ := Option.bind_eq_some_iff.1 hb
        rw [k3] at hcs
        obtain ⟨_, hlen, hcell⟩ := World.cells?_some hcs
        match cs, hlen with
        | [u0, u1, u2], _ =>
          obtain ⟨r', d', s', rfl, rfl, rfl, hs'⟩ := open_item_cells htr
          have e0 := hcell 0 (by omega)
          have e1 := hcell 1 (by omega)
          have e2 := hcell 2 (by omega)
          rw [add_add] at e0 e1 e2
          have hspot := hsp (by omega)
          obtain ⟨g, off, spot⟩ := a
          subst hspot
          rw [add_plain] at e0 e1 e2
          have d0 : W.cell? ⟨g, off + i * 3, none⟩ = some (.int .i64 r') := by simpa using e0
          exact ⟨(r', d', s'), fun _ => ⟨hs', g, off, rfl, World.block_lt_of_cell? _ _ d0, d0, by simpa [Nat.add_assoc] using e1, by simpa [Nat.add_assoc] using e2⟩⟩
      · exact ⟨(0, 0, ByteArray.empty), fun h => absurd h hi⟩
    obtain ⟨q, hq⟩ := Classical.axiomOfChoice each
    refine ⟨some a, c0, (List.range l0).map q, by simp, by simp; omega, fun i hi => ?_⟩
    have hil : i < l0 := by simpa using hi
    simpa using hq i hil
end
end Go.Proofs.Ytpbpddbeofdpcaa
