/- Rows of structs in general: cells of a row, rows that may be marked, the marks; the text of a mark. -/
import Derived.Test.YtpkejcjjbkgomaaDoorBox
import Derived.Maps.AppendAt
import Derived.WideKeyEntry
import Derived.DeepKeys4
namespace Go.Proofs.YtpkejcjjbkgomaaDoor
open Go.ChangeShapes Go.WideShapes Go.ChangeAt Go.RowKit
set_option maxRecDepth 100000
/-- what a step leaves: only block R of the older ones may have changed -/
structure OnlyG (R : Nat) (w w' : World) : Prop where
  os : w'.os = w.os
  tape : w'.tape = w.tape
  output : w'.output = w.output
  size : w.heap.size ≤ w'.heap.size
  block : ∀ k, k < w.heap.size → k ≠ R → w'.heap[k]? = w.heap[k]?
theorem OnlyG.refl (R : Nat) (w : World) : OnlyG R w w := ⟨rfl, rfl, rfl, Nat.le_refl _, fun _ _ _ => rfl⟩
theorem OnlyG.trans {R : Nat} {a b c : World} (h : OnlyG R a b) (k : OnlyG R b c) : OnlyG R a c :=
  ⟨k.os.trans h.os, k.tape.trans h.tape, k.output.trans h.output, Nat.le_trans h.size k.size, fun j hj hR => (k.block j (Nat.lt_of_lt_of_le hj h.size) hR).trans (h.block j hj hR)⟩
theorem OnlyG.of_below {R : Nat} {w w' : World} (h : Below w.heap.size w w') : OnlyG R w w' := ⟨h.os, h.tape, h.output, h.size, fun k hk _ => h.block k hk⟩
theorem OnlyG.below {R : Nat} {w w' : World} (h : OnlyG R w w') (B : Nat) (hB : B ≤ R) (hs : B ≤ w.heap.size) : Below B w w' := ⟨h.os, h.tape, h.output, h.size, fun k hk => h.block k (by omega) (by omega)⟩
theorem OnlyG.cell {R : Nat} {w w' : World} (h : OnlyG R w w') {p : Addr} (hp : p.block < w.heap.size) (hR : p.block ≠ R) : w'.cell? p = w.cell? p := World.cell?_of_block (w := w) (h.block p.block hp hR)
/-- n cells from address a on -/
def RowV (w : World) (a : Option Addr) (n : Nat) (f : Nat → Value) : Prop := ∀ j, j < n → ∃ b off, a = some ⟨b, off, none⟩ ∧ b < w.heap.size ∧ w.cell? ⟨b, off + j, none⟩ = some (f j)
theorem RowV.keep {w w' : World} {a : Option Addr} {n : Nat} {f : Nat → Value} (h : RowV w a n f) (hs : w.heap.size ≤ w'.heap.size) (hk : ∀ b off, a = some ⟨b, off, none⟩ → b < w.heap.size → w'.heap[b]? = w.heap[b]?) : RowV w' a n f := fun j hj => by
  obtain ⟨b, off, e, hl, hc⟩ := h j hj
  exact ⟨b, off, e, Nat.lt_of_lt_of_le hl hs, (World.cell?_of_block (w := w) (hk b off e hl)).trans hc⟩
theorem RowV.below {w w' : World} {a : Option Addr} {n : Nat} {f : Nat → Value} (h : RowV w a n f) (hb : Below w.heap.size w w') : RowV w' a n f := h.keep hb.size fun b _ _ hl => hb.block b hl
theorem RowV.drew {w : World} {a : Option Addr} {n : Nat} {f : Nat → Value} (h : RowV w a n f) : RowV w.drew a n f := h
theorem RowV.congr {w : World} {a : Option Addr} {n : Nat} {f g : Nat → Value} (h : RowV w a n f) (hg : ∀ j, j < n → f j = g j) : RowV w a n g := fun j hj => by
  obtain ⟨b, off, e, hl, hc⟩ := h j hj
  exact ⟨b, off, e, hl, by rw [hc, hg j hj]⟩
theorem RowV.nil (w : World) (a : Option Addr) (f : Nat → Value) : RowV w a 0 f := fun _ hj => absurd hj (Nat.not_lt_zero _)
theorem RowV.of_row {w : World} {b n : Nat} {T : TypeId} {f : Nat → Value} (h : w.rowIs b T n f) : RowV w (some ⟨b, 0, none⟩) n f := fun j hj => ⟨b, 0, rfl, h.lt, by rw [Nat.zero_add, h.cell hj]⟩
/-- a row of n cells that may be marked: none, or the beginning of a block from B on and below U -/
def OwnG (T : TypeId) (w : World) (B U : Nat) (a : Option Addr) (n : Nat) : Prop := n = 0 ∨ ∃ b, B ≤ b ∧ b < U ∧ a = some ⟨b, 0, none⟩ ∧ ∃ cur : Array Value, w.heap[b]? = some (.cells cur T) ∧ n ≤ cur.size
theorem OwnG.keep {T : TypeId} {w w' : World} {B U : Nat} {a : Option Addr} {n : Nat} (h : OwnG T w B U a n) (hk : ∀ b, B ≤ b → b < U → b < w.heap.size → w'.heap[b]? = w.heap[b]?) : OwnG T w' B U a n := by
  rcases h with h | ⟨b, h1, h2, h3, cur, h4, h5⟩
  · exact .inl h
  · exact .inr ⟨b, h1, h2, h3, cur, (hk b h1 h2 (Array.getElem?_eq_some_iff.1 h4).1).trans h4, h5⟩
theorem OwnG.below {T : TypeId} {w w' : World} {B U : Nat} {a : Option Addr} {n : Nat} (h : OwnG T w B U a n) (hb : Below w.heap.size w w') : OwnG T w' B U a n := h.keep fun b _ _ hl => hb.block b hl
theorem OwnG.only {T : TypeId} {R : Nat} {w w' : World} {B U : Nat} {a : Option Addr} {n : Nat} (h : OwnG T w B U a n) (hb : OnlyG R w w') (hR : R < B ∨ U ≤ R) : OwnG T w' B U a n := h.keep fun b h1 h2 hl => hb.block b hl (by omega)
theorem OwnG.of_row {T : TypeId} {w : World} {b n B : Nat} {f : Nat → Value} (h : w.rowIs b T n f) (hB : B ≤ b) : OwnG T w B w.heap.size (some ⟨b, 0, none⟩) n := by
  obtain ⟨c, h1, h2, _⟩ := h
  exact .inr ⟨b, hB, (Array.getElem?_eq_some_iff.1 h1).1, rfl, c, h1, by omega⟩
/-- a slice of the call's own, as it lies -/
theorem owns_at {w : World} {B : Nat} {T : TypeId} {m : Nat} {v : Value} {n : Nat} {xs : List Value} (h : w.ownsRow B T m v n xs) : ∃ a cap, v = .slice a n cap ∧ n ≤ cap ∧ RowV w a (n * m) (fun j => xs.getD j undef) ∧ OwnG T w B w.heap.size a (n * m) := by
  rcases h.2 with ⟨rfl, h0⟩ | ⟨g, cap, cur, rfl, hg, hh, hlc, hm, hs, ht⟩
  · subst h0
    exact ⟨none, 0, rfl, Nat.le_refl _, by rw [Nat.zero_mul]; exact RowV.nil _ _ _, .inl (Nat.zero_mul _)⟩
  · have hlt := (Array.getElem?_eq_some_iff.1 hh).1
    have hle : n * m ≤ cur.size := by rw [hs]; exact Nat.mul_le_mul_right _ hlc
    refine ⟨_, cap, rfl, hlc, fun j hj => ⟨g, 0, rfl, hlt, ?_⟩, .inr ⟨g, hg, hlt, rfl, cur, hh, hle⟩⟩
    rw [cell_of_block hh (0 + j), Nat.zero_add]
    have e := congrArg (fun l => l[j]?) ht
    simp only [List.getElem?_take] at e
    rw [if_pos hj] at e
    have hx : j < xs.length := by rw [h.1]; exact hj
    rw [List.getElem?_eq_getElem hx] at e
    show cur[j]? = some (xs.getD j undef)
    rw [List.getD_eq_getElem?_getD, List.getElem?_eq_getElem hx]
    simpa using e
theorem owns_below {w w' : World} {B : Nat} {T : TypeId} {m : Nat} {v : Value} {n : Nat} {xs : List Value} (h : w.ownsRow B T m v n xs) (hb : Below w.heap.size w w') : w'.ownsRow B T m v n xs := by
  refine ⟨h.1, ?_⟩
  rcases h.2 with h0 | ⟨g, cap, cur, hv, hg, hh, hl, hm, hs, ht⟩
  · exact .inl h0
  · exact .inr ⟨g, cap, cur, hv, hg, by rw [hb.block g (Array.getElem?_eq_some_iff.1 hh).1]; exact hh, hl, hm, hs, ht⟩
/-- the digits of a number, none for 0 -/
def decG (k : Nat) : List UInt8 := if _h : k = 0 then [] else decG (k / 10) ++ [UInt8.ofNat (48 + k % 10)]
termination_by k
decreasing_by omega
theorem decG_len (k : Nat) : (decG k).length ≤ k := by
  induction k using Nat.strongRecOn with
  | ind k ih =>
    rw [decG]
    split
    · simp
    · have := ih (k / 10) (by omega)
      simp; omega
theorem decG_zero : decG 0 = [] := by rw [decG]; simp
theorem decG_pos {j : Nat} (h : 0 < j) : decG j = decG (j / 10) ++ [UInt8.ofNat (48 + j % 10)] := by
  rw [decG, dif_neg (by omega)]
def bsG (l : List UInt8) : ByteArray := ⟨l.toArray⟩
theorem bsG_size (l : List UInt8) : (bsG l).size = l.length := by simp [bsG, ByteArray.size]
def mB (k : Nat) : ByteArray := bsG (109 :: decG k)
theorem mB_size (k : Nat) : (mB k).size ≤ k + 1 := by unfold mB; rw [bsG_size]; have := decG_len k; simp; omega
theorem convG (c : UInt8) (w : World) : (convert 53 9 (.slice (some ⟨w.heap.size, 0, none⟩) 1 1)).run Tryd.prog (w.alloc (.cells #[.int .u8 (c.toNat : Int)] 5)) = .ok (.string ⟨#[c]⟩) (w.alloc (.cells #[.int .u8 (c.toNat : Int)] 5)) :=
  run_convert_bytes_back _ _ _ 5 ⟨w.heap.size, 0, none⟩ 1 [c] Tryd.underlying53 Tryd.underlying5 Tryd.underlying9 (fun j hj => by
    match j, hj with
    | 0, _ => simp [Addr.add])
theorem run_front {P : Program} (c : UInt8) (l : List UInt8) (h : l.length ≤ 5000000) (w : World) : (Op.stringOp .add ⟨#[c]⟩ (bsG l)).run P w = .ok (.string (bsG (c :: l))) w := by
  have e : (⟨#[c]⟩ : ByteArray) ++ bsG l = bsG (c :: l) := by
    apply ByteArray.ext
    rw [ByteArray.data_append]
    simp [bsG]
  have h63 : ¬ ((((⟨#[c]⟩ : ByteArray).size + (bsG l).size : Nat) : Int) > IntKind.i64.max) := by rw [bsG_size, show IntKind.i64.max = 9223372036854775807 from rfl]; simp [ByteArray.size]; omega
  simp only [Op.stringOp]
  rw [if_neg h63, e]
  rfl
set_option maxHeartbeats 800000 in
theorem markTextG_any (k : Nat) (w : World) (hk : 0 < k) (hk2 : k ≤ 5000000) :
    Calls Tryd.prog 55 #[.int .i64 (k : Int)] w fun e w' => e = .returned (.string (mB k)) ∧ Below w.heap.size w w' := by
  go_enter Tryd.func55, Tryd.ntmps55
  go_wp2
  go_loopw [0, 3] (fun kv ov wr => ∃ (j : Nat) (l : List UInt8), j ≤ k ∧ kv = .int .i64 (j : Nat) ∧ ov = .string (bsG l) ∧ Hid (decG k = decG j ++ l) ∧ l.length ≤ 5000000 ∧ Below w.heap.size w wr) (fun kv _ _ => (intOf kv).toNat)
  case atStart => exact ⟨k, [], Nat.le_refl _, rfl, rfl, by show _ = _; simp, by simp, Below.refl _ _⟩
  case round =>
    obtain ⟨j, l, hj, rfl, rfl, HD, hl, hb⟩ := hrel
    by_cases hlt : 0 < j
    · obtain ⟨c, hc⟩ : ∃ c : UInt8, c = UInt8.ofNat (48 + j % 10) := ⟨_, rfl⟩
      have hcn : (c.toNat : Int) = 48 + (j : Int) % 10 := by rw [hc]; simp; omega
      have hcv := convG c wr
      rw [hcn] at hcv
      have hadd := run_front (P := Tryd.prog) c l (by omega)
      have HD2 : Hid (decG k = decG (j / 10) ++ (c :: l)) := by show _ = _; rw [HD.out, decG_pos hlt, ← hc]; simp
      have hl2 : (c :: l).length ≤ 5000000 := by have := congrArg List.length HD2.out; have h2 := decG_len k; rw [List.length_append] at this; omega
      clear hc
      go_wp2
      go_roundw
      case rel => exact ⟨j / 10, c :: l, by omega, by go_num, rfl, HD2, hl2, hb.alloc hb.size _⟩
      case measure => simp [intOf]; omega
    · obtain rfl : j = 0 := by omega
      have hm := run_front (P := Tryd.prog) 109 l (by omega)
      have HM : Hid (mB k = bsG (109 :: l)) := by show _ = _; unfold mB; rw [HD.out, decG_zero]; rfl
      go_wp2
      go_ret
      exact ⟨by rw [HM.out]; rfl, hb⟩
/-- cell j of a row of structs whose fields are strings (true) or numbers (false), marked from k on -/
def mkC (ks : List Bool) (k j : Nat) : Value := if ks.getD (j % ks.length) false then .string (mB (k + j)) else .int .i64 ((k + j : Nat) : Int)
/-- the first q cells of block b hold the marks from k on, and no other block of w has changed -/
def MarkW (T : TypeId) (w w' : World) (b C q : Nat) (mk : Nat → Value) : Prop :=
  OnlyG b w w' ∧ ∃ cur : Array Value, w'.heap[b]? = some (.cells cur T) ∧ cur.size = C ∧ ∀ j, j < q → cur[j]? = some (mk j)
theorem MarkW.put {T : TypeId} {w w' : World} {b C q : Nat} {mk : Nat → Value} (h : MarkW T w w' b C q mk) (hq : q < C) {v : Value} (hv : mk q = v) : MarkW T w (w'.setCell ⟨b, q, none⟩ v) b C (q + 1) mk := by
  obtain ⟨h1, cur, h2, h3, h4⟩ := h
  refine ⟨h1.trans ⟨rfl, rfl, rfl, by simp [World.setCell], fun j _ hj => Below.heap_setCell _ _ _ _ hj⟩, cur.setIfInBounds q v, by simp [World.setCell, Array.getElem?_modify, h2], by simpa using h3, fun j hj => ?_⟩
  by_cases e : j = q
  · subst e
    rw [Array.getElem?_setIfInBounds_self, if_pos (by omega), hv]
  · rw [Array.getElem?_setIfInBounds_ne (fun h => e h.symm)]
    exact h4 j (by omega)
theorem MarkW.below {T : TypeId} {w w' u : World} {b C q : Nat} {mk : Nat → Value} (h : MarkW T w w' b C q mk) (hb : Below w'.heap.size w' u) : MarkW T w u b C q mk := by
  obtain ⟨h1, cur, h2, h3⟩ := h
  exact ⟨h1.trans (OnlyG.of_below hb), cur, by rw [hb.block b (Array.getElem?_eq_some_iff.1 h2).1]; exact h2, h3⟩
theorem MarkW.cell {T : TypeId} {w w' : World} {b C q : Nat} {mk : Nat → Value} (h : MarkW T w w' b C q mk) {j : Nat} (hj : j < C) : (∃ v, w'.cell? ⟨b, j, none⟩ = some v) ∧ w'.frozen? ⟨b, j, none⟩ = false := by
  obtain ⟨h1, cur, h2, h3, _⟩ := h
  refine ⟨⟨cur[j]'(by omega), ?_⟩, frozen_of_block h2 j⟩
  rw [cell_of_block h2 j]
  simp [h3 ▸ hj]
end Go.Proofs.YtpkejcjjbkgomaaDoor
namespace Go.Proofs.YtpkejcjjbkgomaaDoor
open Go.ChangeShapes Go.WideShapes Go.ChangeAt Go.RowKit
open Go.WideMaps (KeyLaw)
open Go.ChangeMaps (modify_eq_set)
open Classical
set_option maxRecDepth 100000
section
variable {P : Program} {k t e : TypeId} {w : World} {b : Nat} {F : Value → Option Value}
/-- block b is a map, and it holds just what F says -/
def MapF (P : Program) (k : TypeId) (w : World) (b : Nat) (F : Value → Option Value) : Prop :=
  ∃ es ck, w.heap[b]? = some (.map es ck) ∧ MapKept.Stamped es ck ∧ (∀ x ∈ es.toList, ∃ l, Go.keyOf P k x.key = some l) ∧ ∀ x v, F x = some v ↔ ∃ y ∈ es.toList, y.key = x ∧ y.val = v
noncomputable def putF (F : Value → Option Value) (x v : Value) : Value → Option Value := fun y => if y = x then some v else F y
theorem putF_same (F : Value → Option Value) (x v : Value) : putF F x v x = some v := if_pos rfl
theorem putF_other (F : Value → Option Value) {x y : Value} (v : Value) (h : y ≠ x) : putF F x v y = F y := if_neg h
theorem MapF.lt (h : MapF P k w b F) : b < w.heap.size := by
  obtain ⟨es, ck, hb, _⟩ := h
  exact (Array.getElem?_eq_some_iff.1 hb).1
theorem MapF.keep {w' : World} (h : MapF P k w b F) (hk : w'.heap[b]? = w.heap[b]?) : MapF P k w' b F := by
  obtain ⟨es, ck, hb, h⟩ := h
  exact ⟨es, ck, hk.trans hb, h⟩
theorem MapF.below {w' : World} (h : MapF P k w b F) (hb : Below w.heap.size w w') : MapF P k w' b F := h.keep (hb.block b h.lt)
theorem MapF.made (w : World) : MapF P k (w.alloc (.map #[] 0)) w.heap.size (fun _ => none) :=
  ⟨#[], 0, (MapKept.heap_alloc w _).1, MapKept.stamped_empty 0, by simp, by simp⟩
theorem stamped_key {es : Array MapEntry} {ck : Nat} (h : MapKept.Stamped es ck) {x y : MapEntry} (hx : x ∈ es.toList) (hy : y ∈ es.toList) (he : x.key = y.key) : x = y := by
  have hp := ((MapKept.stamped_iff es ck).1 h).2.2
  obtain ⟨i, hi, rfl⟩ := List.getElem_of_mem hx
  obtain ⟨j, hj, rfl⟩ := List.getElem_of_mem hy
  rw [List.pairwise_iff_getElem] at hp
  rcases Nat.lt_trichotomy i j with h1 | h1 | h1
  · exact absurd he (hp i j hi hj h1)
  · subst h1; rfl
  · exact absurd he.symm (hp j i hj hi h1)
theorem MapF.find (h : MapF P k w b F) (K : KeyLaw P k) {x : Value} {l : Lit} (hx : Go.keyOf P k x = some l) :
    ∃ es ck, w.heap[b]? = some (.map es ck) ∧ MapKept.Stamped es ck ∧ (∀ x ∈ es.toList, ∃ l, Go.keyOf P k x.key = some l) ∧ (∀ x v, F x = some v ↔ ∃ y ∈ es.toList, y.key = x ∧ y.val = v) ∧
      ((F x = none ∧ (Instr.findKey k x es.toList).run P w = .ok none w ∧ ∀ y ∈ es.toList, y.key ≠ x) ∨ ∃ j y, F x = some y.val ∧ (Instr.findKey k x es.toList).run P w = .ok (some (j, y.val)) w ∧ es.toList[j]? = some y ∧ y.key = x) := by
  obtain ⟨es, ck, hb, hs, hk, hF⟩ := h
  refine ⟨es, ck, hb, hs, hk, hF, ?_⟩
  rcases K.find w hx es.toList hk with ⟨h1, h2⟩ | ⟨j, y, h1, h2, h3⟩
  · refine .inl ⟨?_, h1, h2⟩
    cases hf : F x with
    | none => rfl
    | some v =>
      obtain ⟨y, hy, e1, _⟩ := (hF x v).1 hf
      exact absurd e1 (h2 y hy)
  · exact .inr ⟨j, y, (hF x y.val).2 ⟨y, List.mem_of_getElem? h2, h3, rfl⟩, h1, h2, h3⟩
theorem MapF.lookup (h : MapF P k w b F) (K : KeyLaw P k) (ht : P.underlying t = some (.map k e)) {z : Value} (hz : (zeroValue e).run P w = .ok z w) {x : Value} {l : Lit} (hx : Go.keyOf P k x = some l) :
    (Instr.lookup t (.map (some b)) x false).run P w = .ok ((F x).getD z) w := by
  obtain ⟨es, ck, hb, _, _, _, h | ⟨j, y, h0, h1, _⟩⟩ := h.find K hx
  · simp [Instr.lookup, run_underlying ht, MapKept.run_getObj_map hb, K.check w _ hx, h.1, h.2.1, hz]
  · simp [Instr.lookup, run_underlying ht, MapKept.run_getObj_map hb, K.check w _ hx, h0, h1]
theorem MapF.lookup2 (h : MapF P k w b F) (K : KeyLaw P k) (ht : P.underlying t = some (.map k e)) {z : Value} (hz : (zeroValue e).run P w = .ok z w) {x : Value} {l : Lit} (hx : Go.keyOf P k x = some l) :
    (Instr.lookup t (.map (some b)) x true).run P w = .ok (.tuple #[(F x).getD z, .bool (F x).isSome]) w := by
  obtain ⟨es, ck, hb, _, _, _, h | ⟨j, y, h0, h1, _⟩⟩ := h.find K hx
  · simp [Instr.lookup, run_underlying ht, MapKept.run_getObj_map hb, K.check w _ hx, h.1, h.2.1, hz]
  · simp [Instr.lookup, run_underlying ht, MapKept.run_getObj_map hb, K.check w _ hx, h0, h1]
/-- the world with another map at block b -/
def setM (w : World) (b : Nat) (es : Array MapEntry) (ck : Nat) : World := { w with heap := w.heap.setIfInBounds b (.map es ck) }
theorem setM_only {es0 : Array MapEntry} {ck0 : Nat} (_ : w.heap[b]? = some (.map es0 ck0)) (es : Array MapEntry) (ck : Nat) : OnlyG b w (setM w b es ck) :=
  ⟨rfl, rfl, rfl, by simp [setM], fun j _ hR => by simp only [setM]; rw [Array.getElem?_setIfInBounds_ne (fun e => hR e.symm)]⟩
theorem setM_at {es0 : Array MapEntry} {ck0 : Nat} (hb : w.heap[b]? = some (.map es0 ck0)) (es : Array MapEntry) (ck : Nat) : (setM w b es ck).heap[b]? = some (.map es ck) := by
  have := (Array.getElem?_eq_some_iff.1 hb).1
  simp only [setM]
  rw [Array.getElem?_setIfInBounds_self, if_pos this]
theorem push_F {es : Array MapEntry} {ck : Nat} (hs : MapKept.Stamped es ck) (hk : ∀ x ∈ es.toList, ∃ l, Go.keyOf P k x.key = some l) (hF : ∀ x v, F x = some v ↔ ∃ y ∈ es.toList, y.key = x ∧ y.val = v) {x v : Value} {l : Lit} (hx : Go.keyOf P k x = some l) (hn : ∀ y ∈ es.toList, y.key ≠ x) :
    MapKept.Stamped (es.push ⟨x, v, ck⟩) (ck + 1) ∧ (∀ x' ∈ (es.push ⟨x, v, ck⟩).toList, ∃ l, Go.keyOf P k x'.key = some l) ∧ ∀ x' v', putF F x v x' = some v' ↔ ∃ y ∈ (es.push ⟨x, v, ck⟩).toList, y.key = x' ∧ y.val = v' := by
  refine ⟨MapKept.stamped_push hs hn, fun y hy => ?_, fun x' v' => ?_⟩
  · rw [Array.toList_push, List.mem_append, List.mem_singleton] at hy
    rcases hy with hy | rfl
    · exact hk y hy
    · exact ⟨l, hx⟩
  · rw [Array.toList_push]
    simp only [List.mem_append, List.mem_singleton]
    by_cases e : x' = x
    · subst e
      rw [putF_same]
      constructor
      · intro h; cases h; exact ⟨_, .inr rfl, rfl, rfl⟩
      · rintro ⟨y, hy | rfl, e1, e2⟩
        · exact absurd e1 (hn y hy)
        · subst e2; rfl
    · rw [putF_other F v e, hF]
      constructor
      · rintro ⟨y, hy, h⟩; exact ⟨y, .inl hy, h⟩
      · rintro ⟨y, hy | rfl, e1, e2⟩
        · exact ⟨y, hy, e1, e2⟩
        · exact absurd e1.symm e
theorem modify_F {es : Array MapEntry} {ck : Nat} (hs : MapKept.Stamped es ck) (hk : ∀ x ∈ es.toList, ∃ l, Go.keyOf P k x.key = some l) (hF : ∀ x v, F x = some v ↔ ∃ y ∈ es.toList, y.key = x ∧ y.val = v) {x v : Value} {j : Nat} {y : MapEntry} (hj : es.toList[j]? = some y) (hy : y.key = x) (f : MapEntry → MapEntry) (hf : f y = ⟨x, v, y.born⟩) (hf2 : ∀ z, (f z).born = z.born) :
    MapKept.Stamped (es.modify j f) ck ∧ (∀ x' ∈ (es.modify j f).toList, ∃ l, Go.keyOf P k x'.key = some l) ∧ ∀ x' v', putF F x v x' = some v' ↔ ∃ z ∈ (es.modify j f).toList, z.key = x' ∧ z.val = v' := by
  have hl : (es.modify j f).toList = es.toList.set j ⟨x, v, y.born⟩ := by rw [Array.toList_modify, modify_eq_set _ _ _ _ hj, hf]
  have hjl : j < es.toList.length := (List.getElem?_eq_some_iff.1 hj).1
  have hyj : es.toList[j] = y := (List.getElem?_eq_some_iff.1 hj).2
  have hmem : ∀ z, z ∈ (es.modify j f).toList ↔ z = ⟨x, v, y.born⟩ ∨ (z ∈ es.toList ∧ z.key ≠ x) := by
    intro z
    rw [hl, List.mem_iff_getElem]
    constructor
    · rintro ⟨i, hi, rfl⟩
      rw [List.length_set] at hi
      by_cases e : j = i
      · subst e; left; simp
      · right
        rw [List.getElem_set_ne e]
        refine ⟨List.getElem_mem hi, fun e1 => e ?_⟩
        have hp := ((MapKept.stamped_iff es ck).1 hs).2.2
        rw [List.pairwise_iff_getElem] at hp
        rcases Nat.lt_trichotomy i j with h1 | h1 | h1
        · exact absurd (by rw [hyj]; rw [e1, hy]) (hp i j hi hjl h1)
        · exact h1.symm
        · exact absurd (by rw [hyj]; rw [e1, hy]) (hp j i hjl hi h1)
    · rintro (rfl | ⟨h1, h2⟩)
      · exact ⟨j, by simpa using hjl, by simp⟩
      · obtain ⟨i, hi, rfl⟩ := List.getElem_of_mem h1
        have e : j ≠ i := by
          rintro rfl
          exact h2 (by rw [hyj, hy])
        exact ⟨i, by simpa using hi, by rw [List.getElem_set_ne e]⟩
  refine ⟨MapKept.stamped_modify hs j f (fun z _ => hf2 z) (fun z _ hz => ?_), fun z hz => ?_, fun x' v' => ?_⟩
  · rw [← Array.getElem?_toList, hj] at hz
    cases hz
    rw [hf, hy]
  · rcases (hmem z).1 hz with rfl | h
    · obtain ⟨l, hl⟩ := hk y (List.mem_of_getElem? hj)
      exact ⟨l, by rw [← hl, hy]⟩
    · exact hk z h.1
  · by_cases e : x' = x
    · subst e
      rw [putF_same]
      constructor
      · intro h; cases h; exact ⟨_, (hmem _).2 (.inl rfl), rfl, rfl⟩
      · rintro ⟨z, hz, e1, e2⟩
        rcases (hmem z).1 hz with rfl | h
        · subst e2; rfl
        · exact absurd e1 h.2
    · rw [putF_other F v e, hF]
      constructor
      · rintro ⟨z, hz, e1, e2⟩; exact ⟨z, (hmem z).2 (.inr ⟨hz, by rw [e1]; exact e⟩), e1, e2⟩
      · rintro ⟨z, hz, e1, e2⟩
        rcases (hmem z).1 hz with rfl | h
        · exact absurd e1.symm e
        · exact ⟨z, h.1, e1, e2⟩
theorem MapF.update (h : MapF P k w b F) (K : KeyLaw P k) (ht : P.underlying t = some (.map k e)) {x : Value} {l : Lit} (hx : Go.keyOf P k x = some l) (v : Value) :
    ∃ w', (Instr.mapUpdate t (.map (some b)) x v).run P w = .ok () w' ∧ MapF P k w' b (putF F x v) ∧ OnlyG b w w' ∧ w'.heap.size = w.heap.size := by
  obtain ⟨es, ck, hb, hs, hk, hF, ⟨_, h1, h2⟩ | ⟨j, y, _, h1, h2, h3⟩⟩ := h.find K hx
  · refine ⟨setM w b (es.push ⟨x, v, ck⟩) (ck + 1), ?_, ⟨_, _, setM_at hb _ _, push_F hs hk hF hx h2⟩, setM_only hb _ _, by simp [setM]⟩
    simp [Instr.mapUpdate, run_underlying ht, MapKept.run_getObj_map hb, K.check w false hx, h1, MapKept.run_setObj_map _ hb, setM]
  · have hj : es[j]? = some y := by simpa using h2
    refine ⟨setM w b (es.modify j fun z => { z with key := x, val := v }) ck, ?_, ⟨_, _, setM_at hb _ _, modify_F hs hk hF h2 h3 _ (by cases y; rfl) (fun _ => rfl)⟩, setM_only hb _ _, by simp [setM]⟩
    simp [Instr.mapUpdate, run_underlying ht, MapKept.run_getObj_map hb, K.check w false hx, h1, hj, h3, K.stays w hx, MapKept.run_setObj_map _ hb, setM]
theorem MapF.entry (h : MapF P k w b F) (K : KeyLaw P k) (ht : P.underlying t = some (.map k e)) {z : Value} (hz : ∀ u : World, (zeroValue e).run P u = .ok z u) {x : Value} {l : Lit} (hx : Go.keyOf P k x = some l) :
    ∃ (st : Nat) (w1 : World), (Instr.mapEntry t (.map (some b)) x).run P w = .ok (.tuple #[(F x).getD z, .int .i64 st]) w1 ∧ MapF P k w1 b (putF F x ((F x).getD z)) ∧ OnlyG b w w1 ∧ w1.heap.size = w.heap.size ∧
      ∀ (w2 : World) (v : Value), w2.heap[b]? = w1.heap[b]? → ∃ w3, (Instr.entryStore t (.map (some b)) (.int .i64 st) v).run P w2 = .ok () w3 ∧ MapF P k w3 b (putF F x v) ∧ OnlyG b w2 w3 ∧ w3.heap.size = w2.heap.size := by
  obtain ⟨es, ck, hb, hs, hk, hF, ⟨h0, h1, h2⟩ | ⟨j, y, h0, h1, h2, h3⟩⟩ := h.find K hx
  · obtain ⟨s1, s2, _⟩ := (MapKept.stamped_iff es ck).1 hs
    refine ⟨ck, setM w b (es.push ⟨x, z, ck⟩) (ck + 1), ?_, ⟨_, _, setM_at hb _ _, by rw [h0]; exact push_F hs hk hF hx h2⟩, setM_only hb _ _, by simp [setM], fun w2 v hw2 => ?_⟩
    · simp [Instr.mapEntry, run_underlying ht, MapKept.run_getObj_map hb, K.check w false hx, h1, hz, h0, MapKept.run_setObj_map _ hb, setM, goInt]
    · rw [setM_at hb] at hw2
      have hidx : (es.push ⟨x, z, ck⟩).findIdx? (fun e => ((e.born : Nat) : Int) == ((ck : Nat) : Int)) = some es.size := by
        rw [WideElems.findIdx_arr]
        have := WideElems.findIdx_born (l := (es.push ⟨x, z, ck⟩).toList) (j := es.size) (e0 := ⟨x, z, ck⟩) (by
          simp only [Array.toList_push, List.map_append, List.map_cons, List.map_nil]
          refine List.nodup_append.2 ⟨s2, by simp, fun a ha c hc e1 => ?_⟩
          simp only [List.mem_singleton] at hc
          obtain ⟨x, hx, rfl⟩ := List.mem_map.1 ha
          have := s1 x hx
          omega) (by simp)
        exact this
      have hmod : (es.push ⟨x, z, ck⟩).modify es.size (fun e => { e with val := v }) = es.push ⟨x, v, ck⟩ := by
        apply Array.ext'
        rw [Array.toList_modify, Array.toList_push, Array.toList_push, ← Array.length_toList, WideElems.modify_last]
      refine ⟨setM w2 b (es.push ⟨x, v, ck⟩) (ck + 1), ?_, ⟨_, _, setM_at hw2 _ _, push_F hs hk hF hx h2⟩, setM_only hw2 _ _, by simp [setM]⟩
      simp [Instr.entryStore, MapKept.run_getObj_map hw2, asInt, asIntOf, hidx, hmod, MapKept.run_setObj_map _ hw2, setM]
  · obtain ⟨s1, s2, _⟩ := (MapKept.stamped_iff es ck).1 hs
    have hj : es[j]? = some y := by simpa using h2
    have hsame : es.modify j (fun e => { e with key := x }) = es := by
      apply Array.ext'
      rw [Array.toList_modify, modify_eq_set _ _ _ _ h2]
      have : ({ y with key := x } : MapEntry) = y := by rw [← h3]
      rw [this]
      exact WideElems.set_self _ _ _ h2
    have hput : ∀ x' v', putF F x y.val x' = some v' ↔ F x' = some v' := by
      intro x' v'
      by_cases e : x' = x
      · subst e; rw [putF_same, h0]
      · rw [putF_other F _ e]
    refine ⟨y.born, setM w b es ck, ?_, ⟨es, ck, setM_at hb _ _, hs, hk, fun x' v' => by rw [h0]; exact (hput x' v').trans (hF x' v')⟩, setM_only hb _ _, by simp [setM], fun w2 v hw2 => ?_⟩
    · simp [Instr.mapEntry, run_underlying ht, MapKept.run_getObj_map hb, K.check w false hx, h1, hj, h0, h3, K.stays w hx, hsame, MapKept.run_setObj_map _ hb, setM, goInt]
    · rw [setM_at hb] at hw2
      have hidx : es.findIdx? (fun e => ((e.born : Nat) : Int) == ((y.born : Nat) : Int)) = some j := by
        rw [WideElems.findIdx_arr]
        exact WideElems.findIdx_born s2 h2
      refine ⟨setM w2 b (es.modify j fun e => { e with val := v }) ck, ?_, ⟨_, _, setM_at hw2 _ _, modify_F hs hk hF h2 h3 _ (by rw [← h3]) (fun _ => rfl)⟩, setM_only hw2 _ _, by simp [setM]⟩
      simp [Instr.entryStore, MapKept.run_getObj_map hw2, asInt, asIntOf, hidx, MapKept.run_setObj_map _ hw2, setM]
end
end Go.Proofs.YtpkejcjjbkgomaaDoor
