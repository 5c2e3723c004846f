/- What the program's TreeYield writes over the events of a walk. -/
import Derived.Test.YtngekjbdjnfhmaaDoorEndB
import Derived.Test.YtngekjbdjnfhmaaDoorSizA
import Derived.Test.YtngekjbdjnfhmaaDoorTextB
import Derived.Test.YtngekjbdjnfhmaaDoorBldF
import Derived.Test.YtngekjbdjnfhmaaDoorTreF
import Derived.Test.YtngekjbdjnfhmaaDoorTokV
namespace Go.Proofs.YtngekjbdjnfhmaaDoor
open Go.ChangeShapes Go.WideShapes Go.ChangeAt Go.RowKit Go.Deep Go.Shelf
set_option maxRecDepth 100000
/-- the small signs of a tree -/
def yieldL : Tr → List UInt8
  | .node s _ ks => if isSmallS s = true then s.data.toList else ks.flatMap yieldL
/-- what is still written: none: no terminal is open; some j: j nodes are open within it -/
def yRun : Option Nat → List (PT × Bool) → List UInt8
  | _, [] => []
  | none, (t, true) :: es => if isSmallS t.s = true then t.s.data.toList ++ yRun (some 0) es else yRun none es
  | none, (_, false) :: es => yRun none es
  | some j, (_, true) :: es => yRun (some (j + 1)) es
  | some 0, (_, false) :: es => yRun none es
  | some (j + 1), (_, false) :: es => yRun (some j) es
theorem yRun_in_kids : ∀ (l : List PT), (∀ t ∈ l, ∀ j rest, yRun (some j) (t.evs ++ rest) = yRun (some j) rest) → ∀ j rest, yRun (some j) (l.flatMap PT.evs ++ rest) = yRun (some j) rest
  | [], _, j, rest => rfl
  | t :: l, h, j, rest => by
    rw [List.flatMap_cons, List.append_assoc, h t (List.mem_cons_self ..), yRun_in_kids l (fun x hx => h x (List.mem_cons_of_mem _ hx))]
theorem yRun_in (m : Nat) : ∀ (t : PT), t.sz ≤ m → ∀ j rest, yRun (some j) (t.evs ++ rest) = yRun (some j) rest := by
  induction m with
  | zero => intro t h; have := t.sz_pos; omega
  | succ m ih =>
    intro t h j rest
    rw [t.evs_eq, List.cons_append, yRun, List.append_assoc, yRun_in_kids t.ks (fun k hk => ih k (by have := PT.sz_kid hk; omega))]
    rfl
theorem yRun_kids : ∀ (l : List PT), (∀ t ∈ l, ∀ rest, yRun none (t.evs ++ rest) = yieldL t.tr ++ yRun none rest) → ∀ rest, yRun none (l.flatMap PT.evs ++ rest) = (l.map PT.tr).flatMap yieldL ++ yRun none rest
  | [], _, rest => rfl
  | t :: l, h, rest => by
    rw [List.flatMap_cons, List.append_assoc, h t (List.mem_cons_self ..), yRun_kids l (fun x hx => h x (List.mem_cons_of_mem _ hx)), List.map_cons, List.flatMap_cons, List.append_assoc]
theorem yRun_evs (m : Nat) : ∀ (t : PT), t.sz ≤ m → ∀ rest, yRun none (t.evs ++ rest) = yieldL t.tr ++ yRun none rest := by
  induction m with
  | zero => intro t h; have := t.sz_pos; omega
  | succ m ih =>
    intro t h rest
    have hk := yRun_kids t.ks (fun k hk => ih k (by have := PT.sz_kid hk; omega))
    rw [t.evs_eq, List.cons_append, yRun, List.append_assoc, t.tr_eq, yieldL]
    by_cases hs : isSmallS t.s = true
    · rw [if_pos hs, if_pos hs, yRun_in_kids t.ks (fun k _ => yRun_in _ k (Nat.le_refl _))]
      rfl
    · rw [if_neg hs, if_neg hs, hk]
      rfl
theorem yRun_all (t : PT) : yRun none t.evs = yieldL t.tr := by
  have h := yRun_evs _ t (Nat.le_refl _) []
  rw [List.append_nil] at h
  rw [h]; simp [yRun]
theorem yield_len (m : Nat) : ∀ (T : Tr), T.sz ≤ m → (yieldL T).length ≤ T.sz := by
  induction m with
  | zero =>
    intro T hT
    cases T with
    | node s r ks => rw [Tr.sz] at hT; omega
  | succ m ih =>
    intro T hT
    cases T with
    | node s r ks =>
      have hk : ∀ k ∈ ks, (yieldL k).length ≤ k.sz := fun k hk => ih k (by have := Tr.sz_kid (s := s) (r := r) hk; omega)
      rw [yieldL, Tr.sz]
      split
      · rename_i hs
        have : s.size = 1 := by unfold isSmallS at hs; simp at hs; exact hs.1
        show s.data.toList.length ≤ _
        rw [Array.length_toList, show s.data.size = s.size from rfl, this]; omega
      · have : ∀ l : List Tr, (∀ k ∈ l, (yieldL k).length ≤ k.sz) → (l.flatMap yieldL).length ≤ (l.map Tr.sz).sum := by
          intro l
          induction l with
          | nil => intro _; simp
          | cons x xs ih2 =>
            intro h
            have h1 := h x (List.mem_cons_self ..)
            have h2 := ih2 (fun k hk => h k (List.mem_cons_of_mem _ hk))
            simp only [List.flatMap_cons, List.length_append, List.map_cons, List.sum_cons]
            omega
        have := this ks hk
        omega
end Go.Proofs.YtngekjbdjnfhmaaDoor
namespace Go.Proofs.YtngekjbdjnfhmaaDoor
open Go.ChangeShapes Go.WideShapes Go.ChangeAt Go.RowKit Go.Deep
attribute [local go_sem] Oper.semAt_some
set_option maxRecDepth 100000
/-- what stands in the variable terminal -/
def termV (opn : List PT) : Option Nat → Value
  | none => .pointer none
  | some j => match opn[j]? with
    | some t => .pointer (some ⟨t.b, t.o, none⟩)
    | none => .pointer none
/-- what one event may turn: the loop's record, the builder, terminal, rows of bytes -/
structure Turns (nb : Nat) (W W' : World) : Prop where
  os : W'.os = W.os
  tape : W'.tape = W.tape
  output : W'.output = W.output
  size : W.heap.size ≤ W'.heap.size
  low : ∀ k, k < nb → W'.heap[k]? = W.heap[k]?
  high : ∀ k o, W.heap[k]? = some o → k ≠ nb → k ≠ nb + 1 → k ≠ nb + 4 → (∀ c fz, o ≠ .cells c 5 fz) → W'.heap[k]? = some o
theorem Turns.refl (nb : Nat) (W : World) : Turns nb W W := ⟨rfl, rfl, rfl, Nat.le_refl _, fun _ _ => rfl, fun _ _ h _ _ _ _ => h⟩
theorem Turns.trans {nb : Nat} {a b c : World} (h : Turns nb a b) (k : Turns nb b c) : Turns nb a c :=
  ⟨k.os.trans h.os, k.tape.trans h.tape, k.output.trans h.output, Nat.le_trans h.size k.size, fun i hi => (k.low i hi).trans (h.low i hi), fun i o hi h1 h2 h3 h4 => k.high i o (h.high i o hi h1 h2 h3 h4) h1 h2 h3 h4⟩
theorem Turns.put (nb : Nat) (W : World) (o : Obj) : Turns nb W (W.putObj (nb + 4) o) :=
  ⟨rfl, rfl, rfl, by simp, fun k hk => World.putObj_heap_other (by omega), fun k _ h _ _ h3 _ => (World.putObj_heap_other h3).trans h⟩
theorem Turns.set (nb : Nat) (W : World) (v : Value) : Turns nb W (W.setCell ⟨nb + 1, 0, none⟩ v) :=
  ⟨rfl, rfl, rfl, by simp, fun k hk => Below.heap_setCell W _ v k (by show k ≠ nb + 1; omega), fun k _ h _ h2 _ _ => (Below.heap_setCell W _ v k h2).trans h⟩
theorem Turns.write {nb : Nat} {W W' : World} (hb : Below nb W W') (ho : Lib.OthersKept 5 (some nb) W W') : Turns nb W W' :=
  ⟨hb.os, hb.tape, hb.output, hb.size, hb.block, fun k o h h1 _ _ h4 => ho k o h (by simpa using h1) h4⟩
theorem termV_some {opn : List PT} {j : Nat} (h : j < opn.length) : termV opn (some j) = .pointer (some ⟨opn[j].b, opn[j].o, none⟩) := by
  show (match opn[j]? with
    | some t => Value.pointer (some ⟨t.b, t.o, none⟩)
    | none => .pointer none) = _
  rw [List.getElem?_eq_getElem h]
theorem others_one1 {e : TypeId} {b k : Nat} {v : Value} {T : TypeId} {W W' : World} (ho : Lib.OthersKept e (some b) W W') (h : one1 W k v T) (hb : k ≠ b) (hT : T ≠ e) : one1 W' k v T := ho k _ h (by simpa using hb) (fun c fz e => by simp at e; exact hT e.2.1)
end Go.Proofs.YtngekjbdjnfhmaaDoor
namespace Go.Proofs.YtngekjbdjnfhmaaDoor
open Go.ChangeShapes Go.WideShapes Go.ChangeAt Go.RowKit Go.Deep
set_option maxRecDepth 100000
def szTo (ks : List Tr) (i : Nat) : Nat := ((ks.take i).map Tr.sz).sum
theorem szTo_succ {ks : List Tr} {i : Nat} (h : i < ks.length) : szTo ks (i + 1) = szTo ks i + ks[i].sz := by
  unfold szTo
  rw [List.take_succ_eq_append_getElem h, List.map_append, List.sum_append]
  simp
theorem sum_take_le (l : List Nat) : ∀ i, (l.take i).sum ≤ l.sum := fun i => by
  have : l.sum = (l.take i).sum + (l.drop i).sum := by rw [← List.sum_append, List.take_append_drop]
  omega
theorem szTo_le {ks : List Tr} (i : Nat) : szTo ks i ≤ (ks.map Tr.sz).sum := by
  unfold szTo
  rw [List.map_take]
  exact sum_take_le _ i
end Go.Proofs.YtngekjbdjnfhmaaDoor
namespace Go.Proofs.YtngekjbdjnfhmaaDoor
open Go.ChangeShapes Go.WideShapes Go.ChangeAt Go.RowKit Go.Deep
set_option maxRecDepth 100000
theorem MadeTree.trP {T : Tr} {w w' : World} {u : Value} (h1 : TrIn w' w.heap.size u T) (h2 : PlainFrom w.heap.size w') : TrP w' w.heap.size u T := TrP.of_plain h1 h2
end Go.Proofs.YtngekjbdjnfhmaaDoor
namespace Go.Proofs.YtngekjbdjnfhmaaDoor
open Go.ChangeShapes Go.WideShapes Go.ChangeAt Go.RowKit Go.Deep
set_option maxRecDepth 100000
def yieldTo (ks : List Tr) (i : Nat) : List UInt8 := (ks.take i).flatMap yieldL
theorem yieldTo_succ {ks : List Tr} {i : Nat} (h : i < ks.length) : yieldTo ks (i + 1) = cat (yieldTo ks i) (bytesOf (yieldL ks[i])) := by
  unfold yieldTo cat
  rw [List.take_succ_eq_append_getElem h, List.flatMap_append]
  simp [bytesOf]
theorem yieldTo_len {s : ByteArray} {r : Int} {ks : List Tr} (i : Nat) : (yieldTo ks i).length ≤ (Tr.node s r ks).sz := by
  rw [Tr.sz]
  have h1 : ∀ l : List Tr, (l.flatMap yieldL).length ≤ (l.map Tr.sz).sum := by
    intro l
    induction l with
    | nil => simp
    | cons x xs ih =>
      have := yield_len _ x (Nat.le_refl _)
      simp only [List.flatMap_cons, List.length_append, List.map_cons, List.sum_cons]
      omega
  have h2 := h1 (ks.take i)
  have h3 := szTo_le (ks := ks) i
  unfold szTo at h3
  unfold yieldTo
  omega
set_option maxHeartbeats 2000000 in
theorem l3Yield_any (m : Nat) : ∀ (T : Tr), T.sz ≤ m → T.sz ≤ 2000000 → ∀ v w, TrIn w 0 v T →
    Calls Tryd.prog 53 #[v] w fun e w' => e = .returned (.string (bytesOf (yieldL T))) ∧ Below w.heap.size w w' := by
  induction m with
  | zero =>
    intro T hT
    cases T with
    | node s r ks => rw [Tr.sz] at hT; omega
  | succ m ih =>
    intro T hT hW v w HT
    obtain ⟨s, r, ks, a, cap, rfl, rfl, hs, hr, hn, hc, HK⟩ := HT.open
    have hkid : ∀ k ∈ ks, k.sz < (Tr.node s r ks).sz := fun k hk => Tr.sz_kid hk
    have HIH := Lib.hid ih
    have HKD := Lib.hid hkid
    have HTT := Lib.hid hT
    have HWW := Lib.hid hW
    have hbA := (Below.refl w.heap.size w).alloc (Nat.le_refl _) (.cells #[.string s, .int .i64 r, .slice a ks.length cap] 56)
    have hB0 : BoxT (w.alloc (.cells #[.string s, .int .i64 r, .slice a ks.length cap] 56)) w.heap.size (.string s) (.int .i64 r) (.slice a ks.length cap) := blk_new _ _ rfl
    unfold maxLen at hn
    clear ih hkid hT HT hW
    obtain ⟨o0, o1, o2, of0, of1, of2⟩ := hB0.cells
    cases hsm : isSmallS s with
    | true =>
      have HY : Hid (yieldL (.node s r ks) = s.data.toList) := by show _ = _; rw [yieldL, if_pos hsm]
      go_enter Tryd.func53, Tryd.ntmps53
      go_wp2_with (go_at_call 67; refine (sSignSmall_any _ _).mono ?_; rintro e w' ⟨rfl, rfl⟩; rw [hsm])
      go_ret
      exact ⟨ret_string (by rw [HY.out, bytesOf_self]), hbA⟩
    | false =>
      have HY : Hid (yieldL (.node s r ks) = ks.flatMap yieldL) := by show _ = _; rw [yieldL, if_neg (by rw [hsm]; simp)]
      go_enter Tryd.func53, Tryd.ntmps53
      go_wp2_with (go_at_call 67; refine (sSignSmall_any _ _).mono ?_; rintro e w' ⟨rfl, rfl⟩; rw [hsm])
      clear o0 o1 o2 of0 of1 of2
      go_loopg [3, 4] (ks.length + 1) (fun gk nv iv wr => ∃ i : Nat, gk = ks.length + 1 - i ∧ i ≤ ks.length ∧ iv = .int .i64 (i : Int) ∧ nv = .string (bytesOf (yieldTo ks i)) ∧ BoxT wr w.heap.size (.string s) (.int .i64 r) (.slice a ks.length cap) ∧ Below w.heap.size w wr)
      case atStart => exact ⟨0, rfl, Nat.zero_le _, rfl, rfl, hB0, hbA⟩
      case round =>
        clear hB0 hbA
        obtain ⟨i, hgk, hi, rfl, rfl, hB, hb⟩ := hrel
        have HG := Lib.hid hgk
        obtain ⟨o0, o1, o2, of0, of1, of2⟩ := hB.cells
        clear hgk
        by_cases hlt : i < ks.length
        · have hil : (i : Int) < (ks.length : Int) := by omega
          obtain ⟨g, off, s', r', x, rfl, _, hg, c0, c1, c2, ht⟩ := (HK.below hb) i hlt
          obtain ⟨a3, n3, cap3, rfl⟩ := ht.third
          have HMS := Lib.hid (yieldTo_succ hlt)
          have hadd : ∀ W : World, (Op.stringOp .add (bytesOf (yieldTo ks i)) (bytesOf (yieldL ks[i]))).run Tryd.prog W = .ok (.string (bytesOf (cat (yieldTo ks i) (bytesOf (yieldL ks[i]))))) W := fun W => run_add_bytes _ _ (by have h1 := yieldTo_len (s := s) (r := r) (ks := ks) i; have h2 := yield_len _ ks[i] (Nat.le_refl _); have h3 := HKD.out ks[i] (List.getElem_mem hlt); have := HWW.out; rw [bytesOf_size]; omega) W
          go_wp2_with fail
          refine (HIH.out ks[i] (by have := HKD.out ks[i] (List.getElem_mem hlt); have := HTT.out; omega) (by have := HKD.out ks[i] (List.getElem_mem hlt); have := HWW.out; omega) _ _ ht).mono ?_
          rintro e w3 ⟨rfl, hb3⟩
          have hB3 := hB.below hb3
          have hBB := hb.trans (hb3.mono hb.size)
          clear hB hb hb3 c0 c1 c2 ht o0 o1 o2 of0 of1 of2
          go_wp2_with fail
          go_roundg (ks.length + 1 - (i + 1))
          case measure => have := HG.out; omega
          case rel => exact ⟨i + 1, rfl, by omega, by go_num, by rw [HMS.out], hB3, hBB⟩
        · have hil : ¬ (i : Int) < (ks.length : Int) := by omega
          obtain rfl : i = ks.length := by omega
          have hfin : yieldTo ks ks.length = ks.flatMap yieldL := by unfold yieldTo; rw [List.take_length]
          have HF := Lib.hid hfin
          clear hfin
          go_wp2_with fail
          go_ret
          exact ⟨ret_string (by rw [HY.out, ← HF.out]), hb⟩
end Go.Proofs.YtngekjbdjnfhmaaDoor
