/- Rows of structs in general: cells of a row, rows that may be marked, the marks; the text of a mark. -/
import Derived.Test.YtpkejcjjbkgomaaDoorBox
import Derived.Maps.AppendAt
namespace Go.Proofs.YtpkejcjjbkgomaaDoor
open Go.ChangeShapes Go.WideShapes Go.ChangeAt Go.RowKit
set_option maxRecDepth 100000
/-- what a step leaves: only block R of the older ones may have changed -/
structure OnlyG (R : Nat) (w w' : World) : Prop where
  os : w'.os = w.os
  tape : w'.tape = w.tape
  output : w'.output = w.output
  size : w.heap.size ≤ w'.heap.size
  block : ∀ k, k < w.heap.size → k ≠ R → w'.heap[k]? = w.heap[k]?
theorem OnlyG.refl (R : Nat) (w : World) : OnlyG R w w := ⟨rfl, rfl, rfl, Nat.le_refl _, fun _ _ _ => rfl⟩
theorem OnlyG.trans {R : Nat} {a b c : World} (h : OnlyG R a b) (k : OnlyG R b c) : OnlyG R a c :=
  ⟨k.os.trans h.os, k.tape.trans h.tape, k.output.trans h.output, Nat.le_trans h.size k.size, fun j hj hR => (k.block j (Nat.lt_of_lt_of_le hj h.size) hR).trans (h.block j hj hR)⟩
theorem OnlyG.of_below {R : Nat} {w w' : World} (h : Below w.heap.size w w') : OnlyG R w w' := ⟨h.os, h.tape, h.output, h.size, fun k hk _ => h.block k hk⟩
theorem OnlyG.below {R : Nat} {w w' : World} (h : OnlyG R w w') (B : Nat) (hB : B ≤ R) (hs : B ≤ w.heap.size) : Below B w w' := ⟨h.os, h.tape, h.output, h.size, fun k hk => h.block k (by omega) (by omega)⟩
theorem OnlyG.cell {R : Nat} {w w' : World} (h : OnlyG R w w') {p : Addr} (hp : p.block < w.heap.size) (hR : p.block ≠ R) : w'.cell? p = w.cell? p := World.cell?_of_block (w := w) (h.block p.block hp hR)
/-- n cells from address a on -/
def RowV (w : World) (a : Option Addr) (n : Nat) (f : Nat → Value) : Prop := ∀ j, j < n → ∃ b off, a = some ⟨b, off, none⟩ ∧ b < w.heap.size ∧ w.cell? ⟨b, off + j, none⟩ = some (f j)
theorem RowV.keep {w w' : World} {a : Option Addr} {n : Nat} {f : Nat → Value} (h : RowV w a n f) (hs : w.heap.size ≤ w'.heap.size) (hk : ∀ b off, a = some ⟨b, off, none⟩ → b < w.heap.size → w'.heap[b]? = w.heap[b]?) : RowV w' a n f := fun j hj => by
  obtain ⟨b, off, e, hl, hc⟩ := h j hj
  exact ⟨b, off, e, Nat.lt_of_lt_of_le hl hs, (World.cell?_of_block (w := w) (hk b off e hl)).trans hc⟩
theorem RowV.below {w w' : World} {a : Option Addr} {n : Nat} {f : Nat → Value} (h : RowV w a n f) (hb : Below w.heap.size w w') : RowV w' a n f := h.keep hb.size fun b _ _ hl => hb.block b hl
theorem RowV.drew {w : World} {a : Option Addr} {n : Nat} {f : Nat → Value} (h : RowV w a n f) : RowV w.drew a n f := h
theorem RowV.congr {w : World} {a : Option Addr} {n : Nat} {f g : Nat → Value} (h : RowV w a n f) (hg : ∀ j, j < n → f j = g j) : RowV w a n g := fun j hj => by
  obtain ⟨b, off, e, hl, hc⟩ := h j hj
  exact ⟨b, off, e, hl, by rw [hc, hg j hj]⟩
theorem RowV.nil (w : World) (a : Option Addr) (f : Nat → Value) : RowV w a 0 f := fun _ hj => absurd hj (Nat.not_lt_zero _)
theorem RowV.of_row {w : World} {b n : Nat} {T : TypeId} {f : Nat → Value} (h : w.rowIs b T n f) : RowV w (some ⟨b, 0, none⟩) n f := fun j hj => ⟨b, 0, rfl, h.lt, by rw [Nat.zero_add, h.cell hj]⟩
/-- a row of n cells that may be marked: none, or the beginning of a block from B on and below U -/
def OwnG (T : TypeId) (w : World) (B U : Nat) (a : Option Addr) (n : Nat) : Prop := n = 0 ∨ ∃ b, B ≤ b ∧ b < U ∧ a = some ⟨b, 0, none⟩ ∧ ∃ cur : Array Value, w.heap[b]? = some (.cells cur T) ∧ n ≤ cur.size
theorem OwnG.keep {T : TypeId} {w w' : World} {B U : Nat} {a : Option Addr} {n : Nat} (h : OwnG T w B U a n) (hk : ∀ b, B ≤ b → b < U → b < w.heap.size → w'.heap[b]? = w.heap[b]?) : OwnG T w' B U a n := by
  rcases h with h | ⟨b, h1, h2, h3, cur, h4, h5⟩
  · exact .inl h
  · exact .inr ⟨b, h1, h2, h3, cur, (hk b h1 h2 (Array.getElem?_eq_some_iff.1 h4).1).trans h4, h5⟩
theorem OwnG.below {T : TypeId} {w w' : World} {B U : Nat} {a : Option Addr} {n : Nat} (h : OwnG T w B U a n) (hb : Below w.heap.size w w') : OwnG T w' B U a n := h.keep fun b _ _ hl => hb.block b hl
theorem OwnG.only {T : TypeId} {R : Nat} {w w' : World} {B U : Nat} {a : Option Addr} {n : Nat} (h : OwnG T w B U a n) (hb : OnlyG R w w') (hR : R < B ∨ U ≤ R) : OwnG T w' B U a n := h.keep fun b h1 h2 hl => hb.block b hl (by omega)
theorem OwnG.of_row {T : TypeId} {w : World} {b n B : Nat} {f : Nat → Value} (h : w.rowIs b T n f) (hB : B ≤ b) : OwnG T w B w.heap.size (some ⟨b, 0, none⟩) n := by
  obtain ⟨c, h1, h2, _⟩ := h
  exact .inr ⟨b, hB, (Array.getElem?_eq_some_iff.1 h1).1, rfl, c, h1, by omega⟩
/-- a slice of the call's own, as it lies -/
theorem owns_at {w : World} {B : Nat} {T : TypeId} {m : Nat} {v : Value} {n : Nat} {xs : List Value} (h : w.ownsRow B T m v n xs) : ∃ a cap, v = .slice a n cap ∧ n ≤ cap ∧ RowV w a (n * m) (fun j => xs.getD j undef) ∧ OwnG T w B w.heap.size a (n * m) := by
  rcases h.2 with ⟨rfl, h0⟩ | ⟨g, cap, cur, rfl, hg, hh, hlc, hm, hs, ht⟩
  · subst h0
    exact ⟨none, 0, rfl, Nat.le_refl _, by rw [Nat.zero_mul]; exact RowV.nil _ _ _, .inl (Nat.zero_mul _)⟩
  · have hlt := (Array.getElem?_eq_some_iff.1 hh).1
    have hle : n * m ≤ cur.size := by rw [hs]; exact Nat.mul_le_mul_right _ hlc
    refine ⟨_, cap, rfl, hlc, fun j hj => ⟨g, 0, rfl, hlt, ?_⟩, .inr ⟨g, hg, hlt, rfl, cur, hh, hle⟩⟩
    rw [cell_of_block hh (0 + j), Nat.zero_add]
    have e := congrArg (fun l => l[j]?) ht
    simp only [List.getElem?_take] at e
    rw [if_pos hj] at e
    have hx : j < xs.length := by rw [h.1]; exact hj
    rw [List.getElem?_eq_getElem hx] at e
    show cur[j]? = some (xs.getD j undef)
    rw [List.getD_eq_getElem?_getD, List.getElem?_eq_getElem hx]
    simpa using e
theorem owns_below {w w' : World} {B : Nat} {T : TypeId} {m : Nat} {v : Value} {n : Nat} {xs : List Value} (h : w.ownsRow B T m v n xs) (hb : Below w.heap.size w w') : w'.ownsRow B T m v n xs := by
  refine ⟨h.1, ?_⟩
  rcases h.2 with h0 | ⟨g, cap, cur, hv, hg, hh, hl, hm, hs, ht⟩
  · exact .inl h0
  · exact .inr ⟨g, cap, cur, hv, hg, by rw [hb.block g (Array.getElem?_eq_some_iff.1 hh).1]; exact hh, hl, hm, hs, ht⟩
/-- the digits of a number, none for 0 -/
def decG (k : Nat) : List UInt8 := if _h : k = 0 then [] else decG (k / 10) ++ [UInt8.ofNat (48 + k % 10)]
termination_by k
decreasing_by omega
theorem decG_len (k : Nat) : (decG k).length ≤ k := by
  induction k using Nat.strongRecOn with
  | ind k ih =>
    rw [decG]
    split
    · simp
    · have := ih (k / 10) (by omega)
      simp; omega
theorem decG_zero : decG 0 = [] := by rw [decG]; simp
theorem decG_pos {j : Nat} (h : 0 < j) : decG j = decG (j / 10) ++ [UInt8.ofNat (48 + j % 10)] := by
  rw [decG, dif_neg (by omega)]
def bsG (l : List UInt8) : ByteArray := ⟨l.toArray⟩
theorem bsG_size (l : List UInt8) : (bsG l).size = l.length := by simp [bsG, ByteArray.size]
def mB (k : Nat) : ByteArray := bsG (109 :: decG k)
theorem mB_size (k : Nat) : (mB k).size ≤ k + 1 := by unfold mB; rw [bsG_size]; have := decG_len k; simp; omega
theorem convG (c : UInt8) (w : World) : (convert 53 9 (.slice (some ⟨w.heap.size, 0, none⟩) 1 1)).run Tryd.prog (w.alloc (.cells #[.int .u8 (c.toNat : Int)] 5)) = .ok (.string ⟨#[c]⟩) (w.alloc (.cells #[.int .u8 (c.toNat : Int)] 5)) :=
  run_convert_bytes_back _ _ _ 5 ⟨w.heap.size, 0, none⟩ 1 [c] Tryd.underlying53 Tryd.underlying5 Tryd.underlying9 (fun j hj => by
    match j, hj with
    | 0, _ => simp [Addr.add])
theorem run_front {P : Program} (c : UInt8) (l : List UInt8) (h : l.length ≤ 5000000) (w : World) : (Op.stringOp .add ⟨#[c]⟩ (bsG l)).run P w = .ok (.string (bsG (c :: l))) w := by
  have e : (⟨#[c]⟩ : ByteArray) ++ bsG l = bsG (c :: l) := by
    apply ByteArray.ext
    rw [ByteArray.data_append]
    simp [bsG]
  have h63 : ¬ ((((⟨#[c]⟩ : ByteArray).size + (bsG l).size : Nat) : Int) > IntKind.i64.max) := by rw [bsG_size, show IntKind.i64.max = 9223372036854775807 from rfl]; simp [ByteArray.size]; omega
  simp only [Op.stringOp]
  rw [if_neg h63, e]
  rfl
set_option maxHeartbeats 800000 in
theorem markTextG_any (k : Nat) (w : World) (hk : 0 < k) (hk2 : k ≤ 5000000) :
    Calls Tryd.prog 55 #[.int .i64 (k : Int)] w fun e w' => e = .returned (.string (mB k)) ∧ Below w.heap.size w w' := by
  go_enter Tryd.func55, Tryd.ntmps55
  go_wp2
  go_loopw [0, 3] (fun kv ov wr => ∃ (j : Nat) (l : List UInt8), j ≤ k ∧ kv = .int .i64 (j : Nat) ∧ ov = .string (bsG l) ∧ Hid (decG k = decG j ++ l) ∧ l.length ≤ 5000000 ∧ Below w.heap.size w wr) (fun kv _ _ => (intOf kv).toNat)
  case atStart => exact ⟨k, [], Nat.le_refl _, rfl, rfl, by show _ = _; simp, by simp, Below.refl _ _⟩
  case round =>
    obtain ⟨j, l, hj, rfl, rfl, HD, hl, hb⟩ := hrel
    by_cases hlt : 0 < j
    · obtain ⟨c, hc⟩ : ∃ c : UInt8, c = UInt8.ofNat (48 + j % 10) := ⟨_, rfl⟩
      have hcn : (c.toNat : Int) = 48 + (j : Int) % 10 := by rw [hc]; simp; omega
      have hcv := convG c wr
      rw [hcn] at hcv
      have hadd := run_front (P := Tryd.prog) c l (by omega)
      have HD2 : Hid (decG k = decG (j / 10) ++ (c :: l)) := by show _ = _; rw [HD.out, decG_pos hlt, ← hc]; simp
      have hl2 : (c :: l).length ≤ 5000000 := by have := congrArg List.length HD2.out; have h2 := decG_len k; rw [List.length_append] at this; omega
      clear hc
      go_wp2
      go_roundw
      case rel => exact ⟨j / 10, c :: l, by omega, by go_num, rfl, HD2, hl2, hb.alloc hb.size _⟩
      case measure => simp [intOf]; omega
    · obtain rfl : j = 0 := by omega
      have hm := run_front (P := Tryd.prog) 109 l (by omega)
      have HM : Hid (mB k = bsG (109 :: l)) := by show _ = _; unfold mB; rw [HD.out, decG_zero]; rfl
      go_wp2
      go_ret
      exact ⟨by rw [HM.out]; rfl, hb⟩
/-- cell j of a row of structs whose fields are strings (true) or numbers (false), marked from k on -/
def mkC (ks : List Bool) (k j : Nat) : Value := if ks.getD (j % ks.length) false then .string (mB (k + j)) else .int .i64 ((k + j : Nat) : Int)
/-- the first q cells of block b hold the marks from k on, and no other block of w has changed -/
def MarkW (T : TypeId) (w w' : World) (b C q : Nat) (mk : Nat → Value) : Prop :=
  OnlyG b w w' ∧ ∃ cur : Array Value, w'.heap[b]? = some (.cells cur T) ∧ cur.size = C ∧ ∀ j, j < q → cur[j]? = some (mk j)
theorem MarkW.put {T : TypeId} {w w' : World} {b C q : Nat} {mk : Nat → Value} (h : MarkW T w w' b C q mk) (hq : q < C) {v : Value} (hv : mk q = v) : MarkW T w (w'.setCell ⟨b, q, none⟩ v) b C (q + 1) mk := by
  obtain ⟨h1, cur, h2, h3, h4⟩ := h
  refine ⟨h1.trans ⟨rfl, rfl, rfl, by simp [World.setCell], fun j _ hj => Below.heap_setCell _ _ _ _ hj⟩, cur.setIfInBounds q v, by simp [World.setCell, Array.getElem?_modify, h2], by simpa using h3, fun j hj => ?_⟩
  by_cases e : j = q
  · subst e
    rw [Array.getElem?_setIfInBounds_self, if_pos (by omega), hv]
  · rw [Array.getElem?_setIfInBounds_ne (fun h => e h.symm)]
    exact h4 j (by omega)
theorem MarkW.below {T : TypeId} {w w' u : World} {b C q : Nat} {mk : Nat → Value} (h : MarkW T w w' b C q mk) (hb : Below w'.heap.size w' u) : MarkW T w u b C q mk := by
  obtain ⟨h1, cur, h2, h3⟩ := h
  exact ⟨h1.trans (OnlyG.of_below hb), cur, by rw [hb.block b (Array.getElem?_eq_some_iff.1 h2).1]; exact h2, h3⟩
theorem MarkW.cell {T : TypeId} {w w' : World} {b C q : Nat} {mk : Nat → Value} (h : MarkW T w w' b C q mk) {j : Nat} (hj : j < C) : (∃ v, w'.cell? ⟨b, j, none⟩ = some v) ∧ w'.frozen? ⟨b, j, none⟩ = false := by
  obtain ⟨h1, cur, h2, h3, _⟩ := h
  refine ⟨⟨cur[j]'(by omega), ?_⟩, frozen_of_block h2 j⟩
  rw [cell_of_block h2 j]
  simp [h3 ▸ hj]
end Go.Proofs.YtpkejcjjbkgomaaDoor
