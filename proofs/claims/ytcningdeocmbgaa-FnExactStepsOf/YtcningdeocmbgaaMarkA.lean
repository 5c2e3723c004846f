/- The marks that the exact laws write into rules, and look at again. -/
import Derived.Test.YtcningdeocmbgaaOwnN
namespace Go.Proofs.Ytcningdeocmbgaa
open Go.ChangeShapes Go.WideShapes Go.ChangeAt Go.RowKit
set_option maxRecDepth 100000
/-- the digits of a number, none for 0 -/
def decL (k : Nat) : List UInt8 := if _h : k = 0 then [] else decL (k / 10) ++ [UInt8.ofNat (48 + k % 10)]
termination_by k
decreasing_by omega
theorem decL_len (k : Nat) : (decL k).length ≤ k := by
  induction k using Nat.strongRecOn with
  | ind k ih =>
    rw [decL]
    split
    · simp
    · have := ih (k / 10) (by omega)
      simp; omega
theorem decL_zero : decL 0 = [] := by rw [decL]; simp
theorem decL_pos {j : Nat} (h : 0 < j) : decL j = decL (j / 10) ++ [UInt8.ofNat (48 + j % 10)] := by
  rw [decL, dif_neg (by omega)]
def markB (k : Nat) : ByteArray := bytesOf (109 :: decL k)
theorem markB_size (k : Nat) : (markB k).size ≤ k + 1 := by unfold markB; rw [bytesOf_size]; have := decL_len k; simp; omega
theorem convM (c : UInt8) (w : World) : (convert 97 9 (.slice (some ⟨w.heap.size, 0, none⟩) 1 1)).run Try.prog (w.alloc (.cells #[.int .u8 (c.toNat : Int)] 5)) = .ok (.string ⟨#[c]⟩) (w.alloc (.cells #[.int .u8 (c.toNat : Int)] 5)) :=
  run_convert_bytes_back _ _ _ 5 ⟨w.heap.size, 0, none⟩ 1 [c] Try.underlying97 Try.underlying5 Try.underlying9 (fun j hj => by
    match j, hj with
    | 0, _ => simp [Addr.add])
theorem run_add_front {P : Program} (c : UInt8) (l : List UInt8) (h : l.length ≤ 5000000) (w : World) : (Op.stringOp .add ⟨#[c]⟩ (bytesOf l)).run P w = .ok (.string (bytesOf (c :: l))) w := by
  have := run_add_bytes (P := P) [c] (bytesOf l) (by rw [bytesOf_size]; simp; omega) w
  rwa [show cat [c] (bytesOf l) = c :: l from by simp [cat, bytesOf]] at this
set_option maxHeartbeats 800000 in
theorem markText_any (k : Nat) (w : World) (hk : 0 < k) (hk2 : k ≤ 5000000) :
    Calls Try.prog 62 #[.int .i64 (k : Int)] w fun e w' => e = .returned (.string (markB k)) ∧ Below w.heap.size w w' := by
  go_enter Try.func62, Try.ntmps62
  go_wp2
  go_loopw [0, 3] (fun kv ov wr => ∃ (j : Nat) (l : List UInt8), j ≤ k ∧ kv = .int .i64 (j : Nat) ∧ ov = .string (bytesOf l) ∧ Hid (decL k = decL j ++ l) ∧ l.length ≤ 5000000 ∧ Below w.heap.size w wr) (fun kv _ _ => (intOf kv).toNat)
  case atStart => exact ⟨k, [], Nat.le_refl _, rfl, rfl, by show _ = _; simp, by simp, Below.refl _ _⟩
  case round =>
    obtain ⟨j, l, hj, rfl, rfl, HD, hl, hb⟩ := hrel
    by_cases hlt : 0 < j
    · obtain ⟨c, hc⟩ : ∃ c : UInt8, c = UInt8.ofNat (48 + j % 10) := ⟨_, rfl⟩
      have hcn : (c.toNat : Int) = 48 + (j : Int) % 10 := by rw [hc]; simp; omega
      have hcv := convM c wr
      rw [hcn] at hcv
      have hadd := run_add_front (P := Try.prog) c l (by omega)
      have HD2 : Hid (decL k = decL (j / 10) ++ (c :: l)) := by show _ = _; rw [HD.out, decL_pos hlt, ← hc]; simp
      have hl2 : (c :: l).length ≤ 5000000 := by have := congrArg List.length HD2.out; have h2 := decL_len k; rw [List.length_append] at this; omega
      clear hc
      go_wp2
      go_roundw
      case rel => exact ⟨j / 10, c :: l, by omega, by go_num, rfl, HD2, hl2, hb.alloc hb.size _⟩
      case measure => simp [intOf]; omega
    · obtain rfl : j = 0 := by omega
      have hm := run_add_front (P := Try.prog) 109 l (by omega)
      have HM : Hid (markB k = bytesOf (109 :: l)) := by show _ = _; unfold markB; rw [HD.out, decL_zero]; rfl
      go_wp2
      go_ret
      exact ⟨by rw [HM.out]; rfl, hb⟩
/-- the first q cells of block b hold the marks from k on, and no other block of w has changed -/
def MarkTo (w w' : World) (b k C q : Nat) : Prop :=
  Only b w w' ∧ ∃ cur : Array Value, w'.heap[b]? = some (.cells cur 84) ∧ cur.size = C ∧ ∀ j, j < q → cur[j]? = some (.string (markB (k + j)))
theorem MarkTo.put {w w' : World} {b k C q : Nat} (h : MarkTo w w' b k C q) (hq : q < C) : MarkTo w (w'.setCell ⟨b, q, none⟩ (.string (markB (k + q)))) b k C (q + 1) := by
  obtain ⟨h1, cur, h2, h3, h4⟩ := h
  refine ⟨h1.trans ⟨rfl, rfl, rfl, by simp [World.setCell], fun j _ hj => Below.heap_setCell _ _ _ _ hj⟩, cur.setIfInBounds q (.string (markB (k + q))), by simp [World.setCell, Array.getElem?_modify, h2], by simpa using h3, fun j hj => ?_⟩
  by_cases e : j = q
  · subst e
    rw [Array.getElem?_setIfInBounds_self, if_pos (by omega)]
  · rw [Array.getElem?_setIfInBounds_ne (fun h => e h.symm)]
    exact h4 j (by omega)
theorem MarkTo.below {w w' u : World} {b k C q : Nat} (h : MarkTo w w' b k C q) (hb : Below w'.heap.size w' u) : MarkTo w u b k C q := by
  obtain ⟨h1, cur, h2, h3⟩ := h
  exact ⟨h1.trans (Only.of_below hb), cur, by rw [hb.block b (Array.getElem?_eq_some_iff.1 h2).1]; exact h2, h3⟩
theorem MarkTo.cell {w w' : World} {b k C q : Nat} (h : MarkTo w w' b k C q) {j : Nat} (hj : j < C) : (∃ v, w'.cell? ⟨b, j, none⟩ = some v) ∧ w'.frozen? ⟨b, j, none⟩ = false := by
  obtain ⟨h1, cur, h2, h3, _⟩ := h
  refine ⟨⟨cur[j]'(by omega), ?_⟩, frozen_of_block h2 j⟩
  rw [cell_of_block h2 j]
  simp [h3 ▸ hj]
/-- a row of n rules of which the marks may be written: none, or the beginning of block b -/
def RowB (w : World) (a : Option Addr) (b n : Nat) : Prop := n = 0 ∨ (a = some ⟨b, 0, none⟩ ∧ ∃ cur : Array Value, w.heap[b]? = some (.cells cur 84) ∧ n * 2 ≤ cur.size)
/-- the row holds the marks from k on -/
def MarkAt (w : World) (a : Option Addr) (n k : Nat) : Prop := ∀ j, j < n * 2 → ∃ b, a = some ⟨b, 0, none⟩ ∧ b < w.heap.size ∧ w.cell? ⟨b, j, none⟩ = some (.string (markB (k + j)))
theorem MarkAt.below {w w' : World} {a : Option Addr} {n k : Nat} (h : MarkAt w a n k) (hb : Below w.heap.size w w') : MarkAt w' a n k := fun j hj => by
  obtain ⟨b, e, hlt, hc⟩ := h j hj
  exact ⟨b, e, Nat.lt_of_lt_of_le hlt hb.size, by rw [hb.cell (p := ⟨b, j, none⟩) hlt, hc]⟩
set_option maxHeartbeats 1600000 in
theorem markRuleS_any (a : Option Addr) (b n cap k : Nat) (w : World) (H : RowB w a b n) (hn : n ≤ 1048576) (hk : 0 < k) (hk2 : k ≤ 10) :
    Calls Try.prog 38 #[.slice a n cap, .int .i64 (k : Int)] w fun e w' => e = .returned (.int .i64 ((k + n * 2 : Nat) : Int)) ∧ Only b w w' ∧ MarkAt w' a n k := by
  rcases H with rfl | ⟨rfl, cur, hcur, hsz⟩
  · go_enter Try.func38, Try.ntmps38
    go_wp2
    go_loopw [1, 5] (fun kv iv wr => iv = .int .i64 0 ∧ kv = .int .i64 (k : Nat) ∧ wr = w) (fun _ _ _ => 0)
    case atStart => exact ⟨rfl, rfl, rfl⟩
    case round =>
      obtain ⟨rfl, rfl, rfl⟩ := hrel
      go_wp2
      go_ret
      exact ⟨by simp, Only.refl _ _, fun j hj => by omega⟩
  · go_enter Try.func38, Try.ntmps38
    go_wp2
    go_loopw [1, 5] (fun kv iv wr => ∃ q : Nat, q ≤ n ∧ iv = .int .i64 (q : Nat) ∧ kv = .int .i64 ((k + q * 2 : Nat) : Int) ∧ MarkTo w wr b k cur.size (q * 2)) (fun _ iv _ => n - (intOf iv).toNat)
    case atStart => exact ⟨0, Nat.zero_le _, rfl, by simp, Only.refl _ _, cur, hcur, rfl, fun j hj => by omega⟩
    case round =>
      obtain ⟨q, hq, rfl, rfl, hM⟩ := hrel
      by_cases hlt : q < n
      · have hlt' : (q : Int) < (n : Int) := by omega
        go_wp2_with fail
        refine (markText_any (k + q * 2) _ (by omega) (by omega)).mono ?_
        rintro e w2 ⟨rfl, hb2⟩
        have hM2 := hM.below hb2
        obtain ⟨⟨u0, c0⟩, f0⟩ := hM2.cell (j := q * 2) (by omega)
        have hM3 := hM2.put (by omega)
        have HM3 := Lib.hid hM3
        clear hM hb2 hM3
        go_wp2_with fail
        refine (markText_any (k + q * 2 + 1) _ (by omega) (by omega)).mono ?_
        rintro e w4 ⟨rfl, hb4⟩
        have hM4 := HM3.out.below hb4
        obtain ⟨⟨u1, c1⟩, f1⟩ := hM4.cell (j := q * 2 + 1) (by omega)
        have hM5 := hM4.put (by omega)
        have HM5 := Lib.hid hM5
        clear hM2 hb4 hM4 hM5 c0 f0
        go_wp2
        go_roundw
        case rel => exact ⟨q + 1, by omega, by go_num, by go_num, by have := HM5.out; rwa [show (q + 1) * 2 = q * 2 + 1 + 1 from by omega]⟩
        case measure => simp [intOf]; omega
      · obtain rfl : q = n := by omega
        go_wp2
        go_ret
        obtain ⟨h1, cur', h2, h3, h4⟩ := hM
        exact ⟨rfl, h1, fun j hj => ⟨b, rfl, (Array.getElem?_eq_some_iff.1 h2).1, by rw [cell_of_block h2 j, h4 j hj]⟩⟩
/-- a row of n rules that may be marked: none, or the beginning of a block from B on and below U -/
def OwnRow (w : World) (B U : Nat) (a : Option Addr) (n : Nat) : Prop := n = 0 ∨ ∃ b, B ≤ b ∧ b < U ∧ a = some ⟨b, 0, none⟩ ∧ ∃ cur : Array Value, w.heap[b]? = some (.cells cur 84) ∧ n * 2 ≤ cur.size
theorem OwnRow.keep {w w' : World} {B U : Nat} {a : Option Addr} {n : Nat} (h : OwnRow w B U a n) (hk : ∀ b, B ≤ b → b < U → b < w.heap.size → w'.heap[b]? = w.heap[b]?) : OwnRow w' B U a n := by
  rcases h with h | ⟨b, h1, h2, h3, cur, h4, h5⟩
  · exact .inl h
  · exact .inr ⟨b, h1, h2, h3, cur, (hk b h1 h2 (Array.getElem?_eq_some_iff.1 h4).1).trans h4, h5⟩
theorem OwnRow.below {w w' : World} {B U : Nat} {a : Option Addr} {n : Nat} (h : OwnRow w B U a n) (hb : Below w.heap.size w w') : OwnRow w' B U a n := h.keep fun b _ _ hl => hb.block b hl
theorem OwnRow.only {R : Nat} {w w' : World} {B U : Nat} {a : Option Addr} {n : Nat} (h : OwnRow w B U a n) (hb : Only R w w') (hR : R < B ∨ U ≤ R) : OwnRow w' B U a n := h.keep fun b h1 h2 hl => hb.block b hl (by omega)
set_option maxHeartbeats 800000 in
theorem markGram_any (st : ByteArray) (a : Option Addr) (n cap k B U : Nat) (w : World) (H : OwnRow w B U a n) (hB : B ≤ w.heap.size) (hn : n ≤ 1048576) (hk : 0 < k) (hk2 : k ≤ 10) :
    Calls Try.prog 14 #[.agg #[.string st, .slice a n cap], .int .i64 (k : Int)] w fun e w' => e = .returned (.int .i64 ((k + n * 2 : Nat) : Int)) ∧ MarkAt w' a n k ∧ ∃ b, B ≤ b ∧ (b < U ∨ w.heap.size ≤ b) ∧ Only b w w' := by
  have hbw := (Below.refl w.heap.size w).alloc (Nat.le_refl _) (.cells #[.string st, .slice a n cap] 35)
  obtain ⟨b, h1, h2, hR⟩ : ∃ b, B ≤ b ∧ (b < U ∨ w.heap.size ≤ b) ∧ RowB (w.alloc (.cells #[.string st, .slice a n cap] 35)) a b n := by
    rcases H with h | ⟨b, h1, h2, h3, cur, h4, h5⟩
    · exact ⟨w.heap.size, hB, .inr (Nat.le_refl _), .inl h⟩
    · exact ⟨b, h1, .inl h2, .inr ⟨h3, cur, (blk_old _ _ (Array.getElem?_eq_some_iff.1 h4).1).trans h4, h5⟩⟩
  go_enter Try.func14, Try.ntmps14
  go_wp2_with fail
  refine (markRuleS_any a b n cap k _ hR hn hk hk2).mono ?_
  rintro e w2 ⟨rfl, ho, hM⟩
  go_wp2
  go_ret
  exact ⟨rfl, hM, b, h1, h2, (Only.of_below hbw).trans ho⟩
/-- a variable of two cells, a string and a row of rules -/
def GB (w : World) (b : Nat) (T : TypeId) (st : ByteArray) (v : Value) : Prop := w.heap[b]? = some (.cells #[.string st, v] T)
theorem GB.lt {w : World} {b : Nat} {T : TypeId} {st : ByteArray} {v : Value} (h : GB w b T st v) : b < w.heap.size := (Array.getElem?_eq_some_iff.1 h).1
theorem GB.below {w w' : World} {b : Nat} {T : TypeId} {st : ByteArray} {v : Value} (h : GB w b T st v) (hb : Below w.heap.size w w') : GB w' b T st v := (hb.block b h.lt).trans h
theorem GB.only {R : Nat} {w w' : World} {b : Nat} {T : TypeId} {st : ByteArray} {v : Value} (h : GB w b T st v) (hb : Only R w w') (hR : b ≠ R) : GB w' b T st v := (hb.block b h.lt hR).trans h
theorem GB.cells {w : World} {b : Nat} {T : TypeId} {st : ByteArray} {v : Value} (h : GB w b T st v) : w.cell? ⟨b, 0, none⟩ = some (.string st) ∧ w.cell? ⟨b, 1, none⟩ = some v := ⟨by rw [cell_of_block h 0]; rfl, by rw [cell_of_block h 1]; rfl⟩
theorem OwnN.row' {w : World} {B : Nat} {rs : List RuleT} {a : Option Addr} {cap n : Nat} (h : OwnN w B (.slice a n cap) rs) (hn : n = rs.length) : OwnRow w B w.heap.size a n := by
  subst hn
  rcases h.2 with ⟨_, h0⟩ | ⟨g, cap', cur, hv, hg, hh, hlc, _, hsz, _⟩
  · exact .inl h0
  · simp only [Value.slice.injEq] at hv
    exact .inr ⟨g, hg, (Array.getElem?_eq_some_iff.1 hh).1, hv.1, cur, hh, by omega⟩
theorem OwnRow.of_row {w : World} {b n B : Nat} {f : Nat → Value} (h : w.rowIs b 84 (n * 2) f) (hB : B ≤ b) : OwnRow w B w.heap.size (some ⟨b, 0, none⟩) n := by
  obtain ⟨c, h1, h2, _⟩ := h
  exact .inr ⟨b, hB, (Array.getElem?_eq_some_iff.1 h1).1, rfl, c, h1, by omega⟩
end Go.Proofs.Ytcningdeocmbgaa
