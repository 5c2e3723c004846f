/- What the program's TreeYield writes over the events of a walk. -/
import Derived.Test.YtngekjbdjnfhmaaEndB
import Derived.Test.YtngekjbdjnfhmaaSizA
import Derived.Test.YtngekjbdjnfhmaaTextB
import Derived.Test.YtngekjbdjnfhmaaBldF
import Derived.Test.YtngekjbdjnfhmaaTreF
import Derived.Test.YtngekjbdjnfhmaaTokV
namespace Go.Proofs.Ytngekjbdjnfhmaa
open Go.ChangeShapes Go.WideShapes Go.ChangeAt Go.RowKit Go.Deep Go.Shelf
set_option maxRecDepth 100000
/-- the small signs of a tree -/
def yieldL : Tr → List UInt8
  | .node s _ ks => if isSmallS s = true then s.data.toList else ks.flatMap yieldL
/-- what is still written: none: no terminal is open; some j: j nodes are open within it -/
def yRun : Option Nat → List (PT × Bool) → List UInt8
  | _, [] => []
  | none, (t, true) :: es => if isSmallS t.s = true then t.s.data.toList ++ yRun (some 0) es else yRun none es
  | none, (_, false) :: es => yRun none es
  | some j, (_, true) :: es => yRun (some (j + 1)) es
  | some 0, (_, false) :: es => yRun none es
  | some (j + 1), (_, false) :: es => yRun (some j) es
theorem yRun_in_kids : ∀ (l : List PT), (∀ t ∈ l, ∀ j rest, yRun (some j) (t.evs ++ rest) = yRun (some j) rest) → ∀ j rest, yRun (some j) (l.flatMap PT.evs ++ rest) = yRun (some j) rest
  | [], _, j, rest => rfl
  | t :: l, h, j, rest => by
    rw [List.flatMap_cons, List.append_assoc, h t (List.mem_cons_self ..), yRun_in_kids l (fun x hx => h x (List.mem_cons_of_mem _ hx))]
theorem yRun_in (m : Nat) : ∀ (t : PT), t.sz ≤ m → ∀ j rest, yRun (some j) (t.evs ++ rest) = yRun (some j) rest := by
  induction m with
  | zero => intro t h; have := t.sz_pos; omega
  | succ m ih =>
    intro t h j rest
    rw [t.evs_eq, List.cons_append, yRun, List.append_assoc, yRun_in_kids t.ks (fun k hk => ih k (by have := PT.sz_kid hk; omega))]
    rfl
theorem yRun_kids : ∀ (l : List PT), (∀ t ∈ l, ∀ rest, yRun none (t.evs ++ rest) = yieldL t.tr ++ yRun none rest) → ∀ rest, yRun none (l.flatMap PT.evs ++ rest) = (l.map PT.tr).flatMap yieldL ++ yRun none rest
  | [], _, rest => rfl
  | t :: l, h, rest => by
    rw [List.flatMap_cons, List.append_assoc, h t (List.mem_cons_self ..), yRun_kids l (fun x hx => h x (List.mem_cons_of_mem _ hx)), List.map_cons, List.flatMap_cons, List.append_assoc]
theorem yRun_evs (m : Nat) : ∀ (t : PT), t.sz ≤ m → ∀ rest, yRun none (t.evs ++ rest) = yieldL t.tr ++ yRun none rest := by
  induction m with
  | zero => intro t h; have := t.sz_pos; omega
  | succ m ih =>
    intro t h rest
    have hk := yRun_kids t.ks (fun k hk => ih k (by have := PT.sz_kid hk; omega))
    rw [t.evs_eq, List.cons_append, yRun, List.append_assoc, t.tr_eq, yieldL]
    by_cases hs : isSmallS t.s = true
    · rw [if_pos hs, if_pos hs, yRun_in_kids t.ks (fun k _ => yRun_in _ k (Nat.le_refl _))]
      rfl
    · rw [if_neg hs, if_neg hs, hk]
      rfl
theorem yRun_all (t : PT) : yRun none t.evs = yieldL t.tr := by
  have h := yRun_evs _ t (Nat.le_refl _) []
  rw [List.append_nil] at h
  rw [h]; simp [yRun]
theorem yield_len (m : Nat) : ∀ (T : Tr), T.sz ≤ m → (yieldL T).length ≤ T.sz := by
  induction m with
  | zero =>
    intro T hT
    cases T with
    | node s r ks => rw [Tr.sz] at hT; omega
  | succ m ih =>
    intro T hT
    cases T with
    | node s r ks =>
      have hk : ∀ k ∈ ks, (yieldL k).length ≤ k.sz := fun k hk => ih k (by have := Tr.sz_kid (s := s) (r := r) hk; omega)
      rw [yieldL, Tr.sz]
      split
      · rename_i hs
        have : s.size = 1 := by unfold isSmallS at hs; simp at hs; exact hs.1
        show s.data.toList.length ≤ _
        rw [Array.length_toList, show s.data.size = s.size from rfl, this]; omega
      · have : ∀ l : List Tr, (∀ k ∈ l, (yieldL k).length ≤ k.sz) → (l.flatMap yieldL).length ≤ (l.map Tr.sz).sum := by
          intro l
          induction l with
          | nil => intro _; simp
          | cons x xs ih2 =>
            intro h
            have h1 := h x (List.mem_cons_self ..)
            have h2 := ih2 (fun k hk => h k (List.mem_cons_of_mem _ hk))
            simp only [List.flatMap_cons, List.length_append, List.map_cons, List.sum_cons]
            omega
        have := this ks hk
        omega
theorem eql_same (a : Addr) (w : World) : (binOp .eql 44 (.pointer (some a)) (.pointer (some a))).run Try.prog w = .ok (.bool true) w := by
  simp only [binOp]
  simp [equal_same]
theorem eql_other {a b : Addr} {w : World} (hne : a ≠ b) (ha : PlainB w a.block) (hb : PlainB w b.block) : (binOp .eql 44 (.pointer (some a)) (.pointer (some b))).run Try.prog w = .ok (.bool false) w := by
  simp only [binOp]
  simp [equal_other hne ha hb]
end Go.Proofs.Ytngekjbdjnfhmaa
namespace Go.Proofs.Ytngekjbdjnfhmaa
open Go.ChangeShapes Go.WideShapes Go.ChangeAt Go.RowKit Go.Deep
attribute [local go_sem] Oper.semAt_some
set_option maxRecDepth 100000
/-- what stands in the variable terminal -/
def termV (opn : List PT) : Option Nat → Value
  | none => .pointer none
  | some j => match opn[j]? with
    | some t => .pointer (some ⟨t.b, t.o, none⟩)
    | none => .pointer none
/-- what TreeYield holds between two events: the builder in nb, terminal in nb + 1, the tree's root in nb + 2 -/
structure YldJ (w0 : World) (nb : Nat) (M : Nat → Prop) (rec : LoopState → Option Code → Loop) (total : List UInt8) (S : List Nat) (opn : List PT) (es : List (PT × Bool)) (W : World) : Prop where
  bel : Below w0.heap.size w0 W
  st : ∃ acc k, BuildsF nb acc W ∧ one1 W (nb + 1) (termV opn k) 44 ∧ acc ++ yRun k es = total ∧ ∀ j, k = some j → j < opn.length
  loop : W.heap[nb + 4]? = some (.loop (rec .ready none))
  defs : W.heap[nb + 3]? = some (.deferred (some []))
  box : ∃ c, W.heap[nb + 2]? = some (.cells c 28 (0, 0))
  own : ∀ k ∈ S, nb + 4 < k ∧ k < W.heap.size
  typ : ∀ k ∈ S, PlaceB W k
  pts : ∀ a ∈ opn, PtIn W M a
  chain : opn.Pairwise (fun a b => a.sz < b.sz)
  pl : ∀ k, M k → PlainB W k
  low : ∀ k, M k → TM w0.heap.size (nb + 2) k
  pos : w0.heap.size ≤ nb
theorem place_not_row {w : World} {k : Nat} {c : Array Value} {fz : Nat × Nat} (h : PlaceB w k) (h2 : w.heap[k]? = some (.cells c 5 fz)) : False := by
  obtain ⟨c', h⟩ := h
  rw [h] at h2
  simp at h2
theorem YldJ.apart {w0 : World} {nb : Nat} {M : Nat → Prop} {rec : LoopState → Option Code → Loop} {total : List UInt8} {S S' : List Nat} {opn : List PT} {es : List (PT × Bool)} {W W' : World} (h : YldJ w0 nb M rec total S opn es W) (ha : Apart S S' W W') (ht : (∀ k ∈ S, PlaceB W k) → ∀ k ∈ S', PlaceB W' k) : YldJ w0 nb M rec total S' opn es W' := by
  have hl : nb + 4 < W.heap.size := (Array.getElem?_eq_some_iff.1 h.loop).1
  have hpos := h.pos
  have same : ∀ k, k ≤ nb + 4 → W'.heap[k]? = W.heap[k]? := fun k hk => ha.block k (by omega) (fun hm => by have := h.own k hm; omega)
  have sameM : ∀ k, M k → W'.heap[k]? = W.heap[k]? := fun k hk => same k (by rcases h.low k hk with h | h <;> omega)
  have row : ∀ (k : Nat) c fz, W.heap[k]? = some (.cells c 5 fz) → W'.heap[k]? = W.heap[k]? := fun k c fz hk => ha.block k (Array.getElem?_eq_some_iff.1 hk).1 (fun hm => place_not_row (h.typ k hm) hk)
  obtain ⟨acc, k, h1, h2, h3, h4⟩ := h.st
  obtain ⟨cb, hb⟩ := h.box
  refine ⟨ha.belowOf h.bel (fun k hk => by have := h.own k hk; omega) h.bel.size, ⟨acc, k, h1.stay (same _ (by omega)) row, (same _ (by omega)).trans h2, h3, h4⟩, (same _ (by omega)).trans h.loop, (same _ (by omega)).trans h.defs, ⟨cb, (same _ (by omega)).trans hb⟩, ?_, ht h.typ, fun a hm => (h.pts a hm).stay sameM (fun _ h => h), h.chain, fun k hk => (h.pl k hk).of_block (sameM k hk), h.low, h.pos⟩
  intro k hk
  rcases ha.own k hk with h' | h'
  · have := h.own k h'; have := ha.size; omega
  · omega
/-- what one event may turn: the loop's record, the builder, terminal, rows of bytes -/
structure Turns (nb : Nat) (W W' : World) : Prop where
  os : W'.os = W.os
  tape : W'.tape = W.tape
  output : W'.output = W.output
  size : W.heap.size ≤ W'.heap.size
  low : ∀ k, k < nb → W'.heap[k]? = W.heap[k]?
  high : ∀ k o, W.heap[k]? = some o → k ≠ nb → k ≠ nb + 1 → k ≠ nb + 4 → (∀ c fz, o ≠ .cells c 5 fz) → W'.heap[k]? = some o
theorem Turns.refl (nb : Nat) (W : World) : Turns nb W W := ⟨rfl, rfl, rfl, Nat.le_refl _, fun _ _ => rfl, fun _ _ h _ _ _ _ => h⟩
theorem Turns.trans {nb : Nat} {a b c : World} (h : Turns nb a b) (k : Turns nb b c) : Turns nb a c :=
  ⟨k.os.trans h.os, k.tape.trans h.tape, k.output.trans h.output, Nat.le_trans h.size k.size, fun i hi => (k.low i hi).trans (h.low i hi), fun i o hi h1 h2 h3 h4 => k.high i o (h.high i o hi h1 h2 h3 h4) h1 h2 h3 h4⟩
theorem Turns.put (nb : Nat) (W : World) (o : Obj) : Turns nb W (W.putObj (nb + 4) o) :=
  ⟨rfl, rfl, rfl, by simp, fun k hk => World.putObj_heap_other (by omega), fun k _ h _ _ h3 _ => (World.putObj_heap_other h3).trans h⟩
theorem Turns.set (nb : Nat) (W : World) (v : Value) : Turns nb W (W.setCell ⟨nb + 1, 0, none⟩ v) :=
  ⟨rfl, rfl, rfl, by simp, fun k hk => Below.heap_setCell W _ v k (by show k ≠ nb + 1; omega), fun k _ h _ h2 _ _ => (Below.heap_setCell W _ v k h2).trans h⟩
theorem Turns.write {nb : Nat} {W W' : World} (hb : Below nb W W') (ho : Lib.OthersKept 5 (some nb) W W') : Turns nb W W' :=
  ⟨hb.os, hb.tape, hb.output, hb.size, hb.block, fun k o h h1 _ _ h4 => ho k o h (by simpa using h1) h4⟩
theorem YldJ.upd {w0 : World} {nb : Nat} {M : Nat → Prop} {rec : LoopState → Option Code → Loop} {total : List UInt8} {S : List Nat} {opn opn' : List PT} {es es' : List (PT × Bool)} {W W' : World} (h : YldJ w0 nb M rec total S opn es W) (ht : Turns nb W W')
    (hs : ∃ acc k, BuildsF nb acc W' ∧ one1 W' (nb + 1) (termV opn' k) 44 ∧ acc ++ yRun k es' = total ∧ ∀ j, k = some j → j < opn'.length) (hl : W'.heap[nb + 4]? = some (.loop (rec .ready none))) (hp : ∀ a ∈ opn', PtIn W M a) (hc : opn'.Pairwise (fun a b => a.sz < b.sz)) :
    YldJ w0 nb M rec total S opn' es' W' ∧ Keeps S M W W' := by
  have hlt : nb + 4 < W.heap.size := (Array.getElem?_eq_some_iff.1 h.loop).1
  have hpos := h.pos
  obtain ⟨cb, hbx⟩ := h.box
  have sameM : ∀ k, M k → W'.heap[k]? = W.heap[k]? := fun k hk => by
    rcases h.low k hk with h' | h'
    · exact ht.low k (by omega)
    · subst h'
      rw [hbx]
      exact ht.high _ _ hbx (by omega) (by omega) (by omega) (fun c fz => by simp)
  have sameS : ∀ k ∈ S, W'.heap[k]? = W.heap[k]? := fun k hk => by
    obtain ⟨c, hc⟩ := h.typ k hk
    have := h.own k hk
    rw [hc]
    exact ht.high _ _ hc (by omega) (by omega) (by omega) (fun c fz => by simp)
  obtain ⟨acc, k, h1, h2, h3, h4⟩ := hs
  refine ⟨⟨h.bel.trans ⟨ht.os, ht.tape, ht.output, ht.size, fun k hk => ht.low k (by omega)⟩, ⟨acc, k, h1, h2, h3, h4⟩, hl, ht.high _ _ h.defs (by omega) (by omega) (by omega) (fun c fz => by simp), ⟨cb, ht.high _ _ hbx (by omega) (by omega) (by omega) (fun c fz => by simp)⟩, fun k hk => ⟨(h.own k hk).1, Nat.lt_of_lt_of_le (h.own k hk).2 ht.size⟩, fun k hk => ?_, fun a hm => (hp a hm).stay sameM (fun _ h => h), hc, fun k hk => (h.pl k hk).of_block (sameM k hk), h.low, h.pos⟩, fun k hk => ?_, ht.size⟩
  · obtain ⟨c, hc⟩ := h.typ k hk
    exact ⟨c, (sameS k hk).trans hc⟩
  · rcases hk with hk | hk
    · exact sameS k hk
    · exact sameM k hk
theorem termV_some {opn : List PT} {j : Nat} (h : j < opn.length) : termV opn (some j) = .pointer (some ⟨opn[j].b, opn[j].o, none⟩) := by
  show (match opn[j]? with
    | some t => Value.pointer (some ⟨t.b, t.o, none⟩)
    | none => .pointer none) = _
  rw [List.getElem?_eq_getElem h]
theorem equalIn_none (d : Nat) (a : Option Addr) (w : World) : (Op.equalIn (d + 1) 44 (.pointer a) (.pointer none)).run Try.prog w = .ok a.isNone w := by
  cases a <;> simp [Op.equalIn, run_underlying Try.underlying44]
theorem eql_none (a : Option Addr) (w : World) : (binOp .eql 44 (.pointer a) (.pointer none)).run Try.prog w = .ok (.bool a.isNone) w := by
  simp only [binOp]
  simp [show (Op.equal 44 (.pointer a) (.pointer none)).run Try.prog w = .ok a.isNone w from equalIn_none 9999 a w]
theorem others_one1 {e : TypeId} {b k : Nat} {v : Value} {T : TypeId} {W W' : World} (ho : Lib.OthersKept e (some b) W W') (h : one1 W k v T) (hb : k ≠ b) (hT : T ≠ e) : one1 W' k v T := ho k _ h (by simpa using hb) (fun c fz e => by simp at e; exact hT e.2.1)
set_option maxHeartbeats 4000000 in
theorem treeYield_any (T : Tr) (v : Value) (w : World) (B0 : Nat) (HT : TrP w B0 v T) (hz : T.sz ≤ 2000000) :
    Calls Try.prog 7 #[v] w fun e w' => e = .returned (.string (bytesOf (yieldL T))) ∧ Below w.heap.size w w' := by
  obtain ⟨s, r, ks, a, cap, rfl, hTe, _⟩ := HT.tr.open
  clear hTe
  have hb1 := (Below.refl w.heap.size w).alloc (Nat.le_refl _) (.cells #[.string s, .int .i64 r, .slice a ks.length cap] 28)
  have hT1 : BoxT (w.alloc (.cells #[.string s, .int .i64 r, .slice a ks.length cap] 28)) w.heap.size (.string s) (.int .i64 r) (.slice a ks.length cap) := blk_new _ _ rfl
  obtain ⟨o0, o1, o2, of0, of1, of2⟩ := hT1.cells
  refine (callsIn_wide (n := 3)).1 ?_
  refine callsIn_of_wp_marks Try.func7 rfl trivial ?_ rfl
  simp only [Try.ntmps7, List.size_toArray, List.length_cons, List.length_nil, Nat.reduceAdd, Nat.reduceSub, Array.replicate_succ, Array.replicate_zero, List.push_toArray, List.append_toArray, List.nil_append, List.cons_append]
  gi_wp2
  refine ⟨trivial, (callsIn_wide.2 (endless_any T _ _ B0 (HT.keep hb1) hz)).mono ?_⟩
  rintro e w3 ⟨rfl, hb3⟩
  have hB3 := hb1.trans (hb3.mono hb1.size)
  have hT3 := hT1.below hb3
  have hz3 : w.heap.size + 1 ≤ w3.heap.size := by have := hb3.size; simpa using this
  clear o0 o1 o2 of0 of1 of2 hb1 hT1 hb3
  have hT4 := (hT3.below ((Below.refl _ _).alloc (Nat.le_refl _) (.cells #[.pointer none, .slice none 0 0] 51))).below ((Below.refl _ _).alloc (Nat.le_refl _) (.cells #[.pointer none] 44))
  obtain ⟨o0, o1, o2, of0, of1, of2⟩ := hT4.cells
  gi_wp2
  refine ⟨trivial, (callsIn_wide.2 (walk_any s r _ _)).mono ?_⟩
  rintro e w5 ⟨rfl, rfl⟩
  clear o0 o1 o2 of0 of1 of2
  gi_wp2
  refine wpIn_rangeFunc_open rfl (by omega) rfl trivial (enters_of Try.func35 (by kernel_rfl) rfl) ?_
  intro fn hfn
  simp only [World.size_alloc, Nat.add_assoc, Nat.reduceAdd]
  generalize hrec : recOf fn _ _ _ _ _ = rec
  have hold : ∀ g, g < w3.heap.size → (((((w3.alloc (.cells #[.pointer none, .slice none 0 0] 51)).alloc (.cells #[.pointer none] 44)).alloc (.cells #[.string s, .int .i64 r, .slice a ks.length cap] 28)).alloc (.deferred (some []))).alloc (.loop (rec .ready none))).heap[g]? = w3.heap[g]? := fun g hg => by
    rw [blk_old _ _ (by simp; omega), blk_old _ _ (by simp; omega), blk_old _ _ (by simp; omega), blk_old _ _ (by simp; omega), blk_old _ _ hg]
  have hbox : (((((w3.alloc (.cells #[.pointer none, .slice none 0 0] 51)).alloc (.cells #[.pointer none] 44)).alloc (.cells #[.string s, .int .i64 r, .slice a ks.length cap] 28)).alloc (.deferred (some []))).alloc (.loop (rec .ready none))).heap[w3.heap.size + 2]? = some (.cells #[.string s, .int .i64 r, .slice a ks.length cap] 28) := (blk_old _ _ (by simp)).trans ((blk_old _ _ (by simp)).trans (blk_new _ _ (by simp)))
  have hbl0 : Builds w3.heap.size w3.heap.size [] (w3.alloc (.cells #[.pointer none, .slice none 0 0] 51)) := Lib.fresh_isBuilder _ _ _
  have hbl : BuildsF w3.heap.size [] (((((w3.alloc (.cells #[.pointer none, .slice none 0 0] 51)).alloc (.cells #[.pointer none] 44)).alloc (.cells #[.string s, .int .i64 r, .slice a ks.length cap] 28)).alloc (.deferred (some []))).alloc (.loop (rec .ready none))) := Lib.IsBuilderF.of ((((hbl0.alloc _).alloc _).alloc _).alloc _)
  obtain ⟨t0, M, ht1, ht2, ht3, ht4, hpl0, hlow0⟩ := HT.root (tb := w3.heap.size + 2) (fun g hg => (hold g (by omega)).trans (hB3.block g hg)) hbox
  have htot : yRun none t0.evs = yieldL T := by rw [yRun_all, ht3]
  have hylen := yield_len _ T (Nat.le_refl _)
  refine (walk1_in 2 (w3.heap.size + 4) (w3.heap.size + 2) M t0 (YldJ w w3.heap.size M rec (yieldL T)) (fun _ => False) (by unfold PT.sz; rw [ht3]; exact hz) ht1 ht2 ?l1 ?l2 ?l3 _ (fun k hk => (hpl0 k hk).lt) ?l4 ht4).mono ?_
  case l1 => exact fun S S' o es W W' h ha ht => h.apart ha ht
  case l4 =>
    refine ⟨?_, ⟨[], none, hbl, ?_, htot, fun j h => by cases h⟩, blk_new _ _ (by simp), (blk_old _ _ (by simp)).trans (blk_new _ _ (by simp)), ⟨_, hbox⟩, (fun k h => by cases h), (fun k h => by cases h), (fun a h => by cases h), .nil, ?_, fun k hk => ?_, by omega⟩
    · exact ((((hB3.alloc (by omega) _).alloc (by simp; omega) _).alloc (by simp; omega) _).alloc (by simp; omega) _).alloc (by simp; omega) _
    · exact (((one1.alloc (show one1 _ (w3.heap.size + 1) _ _ from blk_new _ _ (by simp)) _).alloc _).alloc _)
    · exact hpl0
    · exact hlow0 k hk
  case l2 =>
    clear hold hbox hbl hbl0 ht1 ht2 ht3 ht4 hT4 hT3 hB3 htot hpl0 hlow0
    intro S opn es W t hJ hpt hdec
    have j3 := hJ.loop
    have hl := (Array.getElem?_eq_some_iff.1 j3).1
    have HJ := Lib.hid hJ
    obtain ⟨acc, k, hac, htm, hrun, hkk⟩ := hJ.st
    have T1 := Turns.put w3.heap.size W (.loop (rec .busy none))
    have pl : (W.putObj (w3.heap.size + 4) (.loop (rec .busy none))).heap[w3.heap.size + 4]? = some (.loop (rec .busy none)) := World.putObj_heap_same hl
    have htm1 := htm.put (c := w3.heap.size + 4) (by omega) (.loop (rec .busy none))
    have hac1 : BuildsF w3.heap.size acc (W.putObj (w3.heap.size + 4) (.loop (rec .busy none))) := hac.stay (World.putObj_heap_other (by omega)) (fun k c fz hk => World.putObj_heap_other (fun e => by rw [e, j3] at hk; simp at hk))
    have hM1 : ∀ k, M k → (W.putObj (w3.heap.size + 4) (.loop (rec .busy none))).heap[k]? = W.heap[k]? := fun k hk => World.putObj_heap_other (by rcases hJ.low k hk with h | h <;> have := hJ.pos <;> omega)
    have hpl1 : ∀ k, M k → PlainB (W.putObj (w3.heap.size + 4) (.loop (rec .busy none))) k := fun k hk => (hJ.pl k hk).of_block (hM1 k hk)
    obtain ⟨_, _, hMt, k0, _⟩ := (hpt.stay hM1 (fun _ h => h)).open
    rw [← hrec] at j3
    refine YieldAt.mono (R := fun e W' => ∃ j, e = .returned (.bool j.isNone) ∧ (j = none ∧ YldJ w w3.heap.size M rec (yieldL T) S (t :: opn) es W' ∧ Keeps S M W W')) (yieldAt_open hfn j3 rfl ?_) ?_
    rotate_left
    · rintro e W' ⟨j, rfl, rfl, h, hk⟩
      exact ⟨hk, .inl ⟨rfl, h⟩⟩
    · rw [hrec] at j3 ⊢
      clear hrec
      gi_wp2
      refine ⟨j3, ?_⟩
      have hpp : ∀ a ∈ t :: opn, PtIn W M a := fun a ha => by
        rcases List.mem_cons.1 ha with rfl | h
        · exact hpt
        · exact hJ.pts a h
      have HPP := Lib.hid hpp
      have HCH := Lib.hid (List.pairwise_cons.2 ⟨hdec, hJ.chain⟩)
      have hpos := hJ.pos
      cases k with
      | none =>
        obtain ⟨c1, f1⟩ := htm1.cell
        rw [show termV opn none = .pointer none from rfl] at c1
        have hn0 := eql_none none (W.putObj (w3.heap.size + 4) (.loop (rec .busy none)))
        have hn1 := eql_none (some ⟨t.b, t.o, none⟩) (W.putObj (w3.heap.size + 4) (.loop (rec .busy none)))
        rw [show (none : Option Addr).isNone = true from rfl] at hn0
        rw [show (some (⟨t.b, t.o, none⟩ : Addr)).isNone = false from rfl] at hn1
        rw [yRun] at hrun
        have HRUN := Lib.hid hrun
        have hal : acc.length ≤ 2000000 := by have := congrArg List.length hrun; rw [List.length_append] at this; omega
        cases hsm : isSmallS t.s with
        | false =>
          clear hJ hac htm j3 hdec hM1 hpl1 hrun
          generalize W.putObj (w3.heap.size + 4) (.loop (rec .busy none)) = W1 at *
          gi_wp2
          refine ⟨trivial, ((callsIn_wide.2 (signSmall_any t.s _)).inRound _).mono ?_⟩
          rintro e w' ⟨rfl, rfl⟩
          rw [hsm]
          gi_wp2
          obtain ⟨z1, z2⟩ := HJ.out.upd (opn' := t :: opn) (es' := es) (T1.trans (Turns.put _ _ (.loop (rec .ready none)))) ⟨acc, none, hac1.stay (World.putObj_heap_other (by omega)) (fun k c fz hk => World.putObj_heap_other (fun e => by rw [e, pl] at hk; simp at hk)), htm1.put (by omega) _, by have := HRUN.out; rw [hsm, if_neg (by simp)] at this; exact this, fun j h => by cases h⟩ (World.putObj_heap_same (Array.getElem?_eq_some_iff.1 pl).1) HPP.out HCH.out
          exact ⟨pl, rfl, z1, z2⟩
        | true =>
          have hs1 : t.s.size = 1 := by unfold isSmallS at hsm; simp at hsm; exact hsm.1
          clear hJ hac htm j3 hdec hM1 hpl1 hrun
          generalize W.putObj (w3.heap.size + 4) (.loop (rec .busy none)) = W1 at *
          have hnb1 : w3.heap.size ≤ W1.heap.size := by have := (Array.getElem?_eq_some_iff.1 pl).1; omega
          gi_wp2
          refine ⟨trivial, ((callsIn_wide.2 (signSmall_any t.s _)).inRound _).mono ?_⟩
          rintro e w' ⟨rfl, rfl⟩
          rw [hsm]
          gi_wp2
          refine ⟨trivial, ((callsIn_wide.2 (writeF_any _ acc t.s _ hac1 (by omega) hnb1)).inRound _).mono ?_⟩
          rintro e W2 ⟨rfl, hac2, hb2, ho2⟩
          have htm2 := others_one1 ho2 htm1 (by omega) (by decide)
          have pl2 : W2.heap[w3.heap.size + 4]? = some (.loop (rec .busy none)) := ho2 _ _ pl (by simp) (fun c fz => by simp)
          obtain ⟨c2, f2⟩ := htm2.cell
          have T2 := T1.trans (Turns.write hb2 ho2)
          clear c1 f1 hn0 hn1 k0 hac1 htm1 pl T1 hb2 ho2
          gi_wp2
          have htm3 := htm2.set (.pointer (some ⟨t.b, t.o, none⟩))
          have pl3 := blk_set pl2 (p := ⟨w3.heap.size + 1, 0, none⟩) (by show w3.heap.size + 4 ≠ w3.heap.size + 1; omega) (.pointer (some ⟨t.b, t.o, none⟩))
          have hac3 : BuildsF w3.heap.size (acc ++ t.s.data.toList) (W2.setCell ⟨w3.heap.size + 1, 0, none⟩ (.pointer (some ⟨t.b, t.o, none⟩))) := hac2.stay (Below.heap_setCell _ _ _ _ (by show w3.heap.size ≠ w3.heap.size + 1; omega)) (fun k c fz hk => Below.heap_setCell _ _ _ _ (fun e => by rw [show k = w3.heap.size + 1 from e] at hk; rw [show W2.heap[w3.heap.size + 1]? = _ from htm2] at hk; simp at hk))
          obtain ⟨z1, z2⟩ := HJ.out.upd (opn' := t :: opn) (es' := es) ((T2.trans (Turns.set _ _ (.pointer (some ⟨t.b, t.o, none⟩)))).trans (Turns.put _ _ (.loop (rec .ready none)))) ⟨acc ++ t.s.data.toList, some 0, hac3.stay (World.putObj_heap_other (by omega)) (fun k c fz hk => World.putObj_heap_other (fun e => by rw [e, pl3] at hk; simp at hk)), htm3.put (by omega) _, by have := HRUN.out; rw [hsm, if_pos rfl, ← List.append_assoc] at this; exact this, fun j h => by simp at h; subst h; simp⟩ (World.putObj_heap_same (Array.getElem?_eq_some_iff.1 pl3).1) HPP.out HCH.out
          exact ⟨pl3, rfl, z1, z2⟩
      | some j =>
        have hj := hkk j rfl
        rw [termV_some hj] at htm1
        obtain ⟨c1, f1⟩ := htm1.cell
        have hne := key_ne hpt (hJ.pts opn[j] (List.getElem_mem hj)) (hdec opn[j] (List.getElem_mem hj))
        have hn0 := eql_none (some ⟨opn[j].b, opn[j].o, none⟩) (W.putObj (w3.heap.size + 4) (.loop (rec .busy none)))
        rw [show (some (⟨opn[j].b, opn[j].o, none⟩ : Addr)).isNone = false from rfl] at hn0
        have hn1 : (binOp .eql 44 (.pointer (some ⟨t.b, t.o, none⟩)) (.pointer (some ⟨opn[j].b, opn[j].o, none⟩))).run Try.prog (W.putObj (w3.heap.size + 4) (.loop (rec .busy none))) = .ok (.bool false) (W.putObj (w3.heap.size + 4) (.loop (rec .busy none))) := eql_other hne (hpl1 _ hpt.inM) (hpl1 _ (hJ.pts opn[j] (List.getElem_mem hj)).inM)
        rw [yRun] at hrun
        have HRUN := Lib.hid hrun
        have HTM := Lib.hid htm1
        have HHJ := Lib.hid hj
        clear hJ hac htm j3 hdec hM1 hpl1 hrun htm1 hne hkk
        generalize W.putObj (w3.heap.size + 4) (.loop (rec .busy none)) = W1 at *
        gi_wp2
        refine ⟨trivial, ?_⟩
        gi_wp2
        have hj1 : j + 1 < (t :: opn).length := by have := HHJ.out; simp; omega
        obtain ⟨z1, z2⟩ := HJ.out.upd (opn' := t :: opn) (es' := es) (T1.trans (Turns.put _ _ (.loop (rec .ready none)))) ⟨acc, some (j + 1), hac1.stay (World.putObj_heap_other (by omega)) (fun k c fz hk => World.putObj_heap_other (fun e => by rw [e, pl] at hk; simp at hk)), by rw [termV_some hj1]; exact HTM.out.put (by omega) _, HRUN.out, fun i h => by simp at h; subst h; exact hj1⟩ (World.putObj_heap_same (Array.getElem?_eq_some_iff.1 pl).1) HPP.out HCH.out
        exact ⟨pl, rfl, z1, z2⟩
  case l3 =>
    clear hold hbox hbl hbl0 ht1 ht2 ht3 ht4 hT4 hT3 hB3 htot hpl0 hlow0
    intro S opn es W t hJ hpt
    have j3 := hJ.loop
    have hl := (Array.getElem?_eq_some_iff.1 j3).1
    have HJ := Lib.hid hJ
    obtain ⟨acc, k, hac, htm, hrun, hkk⟩ := hJ.st
    have T1 := Turns.put w3.heap.size W (.loop (rec .busy none))
    have pl : (W.putObj (w3.heap.size + 4) (.loop (rec .busy none))).heap[w3.heap.size + 4]? = some (.loop (rec .busy none)) := World.putObj_heap_same hl
    have htm1 := htm.put (c := w3.heap.size + 4) (by omega) (.loop (rec .busy none))
    have hac1 : BuildsF w3.heap.size acc (W.putObj (w3.heap.size + 4) (.loop (rec .busy none))) := hac.stay (World.putObj_heap_other (by omega)) (fun k c fz hk => World.putObj_heap_other (fun e => by rw [e, j3] at hk; simp at hk))
    have hM1 : ∀ k, M k → (W.putObj (w3.heap.size + 4) (.loop (rec .busy none))).heap[k]? = W.heap[k]? := fun k hk => World.putObj_heap_other (by rcases hJ.low k hk with h | h <;> have := hJ.pos <;> omega)
    have hpl1 : ∀ k, M k → PlainB (W.putObj (w3.heap.size + 4) (.loop (rec .busy none))) k := fun k hk => (hJ.pl k hk).of_block (hM1 k hk)
    obtain ⟨hch1, hch2⟩ := List.pairwise_cons.1 hJ.chain
    rw [← hrec] at j3
    refine YieldAt.mono (R := fun e W' => ∃ j, e = .returned (.bool j.isNone) ∧ (j = none ∧ YldJ w w3.heap.size M rec (yieldL T) S opn es W' ∧ Keeps S M W W')) (yieldAt_open hfn j3 rfl ?_) ?_
    rotate_left
    · rintro e W' ⟨j, rfl, rfl, h, hk⟩
      exact ⟨hk, .inl ⟨rfl, h⟩⟩
    · rw [hrec] at j3 ⊢
      clear hrec
      gi_wp2
      refine ⟨j3, ?_⟩
      have hpp : ∀ a ∈ opn, PtIn W M a := fun a ha => hJ.pts a (List.mem_cons_of_mem _ ha)
      have HPP := Lib.hid hpp
      have HCH := Lib.hid hch2
      have hpos := hJ.pos
      cases k with
      | none =>
        obtain ⟨c1, f1⟩ := htm1.cell
        rw [show termV (t :: opn) none = .pointer none from rfl] at c1
        have hn1 := eql_none (some ⟨t.b, t.o, none⟩) (W.putObj (w3.heap.size + 4) (.loop (rec .busy none)))
        rw [show (some (⟨t.b, t.o, none⟩ : Addr)).isNone = false from rfl] at hn1
        rw [yRun] at hrun
        have HRUN := Lib.hid hrun
        clear hJ hac htm j3 hM1 hpl1 hrun hch1 hch2 hpp hkk
        generalize W.putObj (w3.heap.size + 4) (.loop (rec .busy none)) = W1 at *
        gi_wp2
        refine ⟨trivial, ?_⟩
        gi_wp2
        obtain ⟨z1, z2⟩ := HJ.out.upd (opn' := opn) (es' := es) (T1.trans (Turns.put _ _ (.loop (rec .ready none)))) ⟨acc, none, hac1.stay (World.putObj_heap_other (by omega)) (fun k c fz hk => World.putObj_heap_other (fun e => by rw [e, pl] at hk; simp at hk)), htm1.put (by omega) _, HRUN.out, fun j h => by cases h⟩ (World.putObj_heap_same (Array.getElem?_eq_some_iff.1 pl).1) HPP.out HCH.out
        exact ⟨pl, rfl, z1, z2⟩
      | some j =>
        cases j with
        | zero =>
          rw [termV_some (by simp)] at htm1
          simp only [List.getElem_cons_zero] at htm1
          obtain ⟨c1, f1⟩ := htm1.cell
          have hn1 := eql_same ⟨t.b, t.o, none⟩ (W.putObj (w3.heap.size + 4) (.loop (rec .busy none)))
          rw [yRun] at hrun
          have HRUN := Lib.hid hrun
          clear hJ hac htm j3 hM1 hpl1 hrun hch1 hch2 hpp hkk
          generalize W.putObj (w3.heap.size + 4) (.loop (rec .busy none)) = W1 at *
          gi_wp2
          refine ⟨trivial, ?_⟩
          gi_wp2
          have htm3 := htm1.set (.pointer none)
          have pl3 := blk_set pl (p := ⟨w3.heap.size + 1, 0, none⟩) (by show w3.heap.size + 4 ≠ w3.heap.size + 1; omega) (.pointer none)
          have hac3 : BuildsF w3.heap.size acc (W1.setCell ⟨w3.heap.size + 1, 0, none⟩ (.pointer none)) := hac1.stay (Below.heap_setCell _ _ _ _ (by show w3.heap.size ≠ w3.heap.size + 1; omega)) (fun k c fz hk => Below.heap_setCell _ _ _ _ (fun e => by rw [show k = w3.heap.size + 1 from e] at hk; rw [show W1.heap[w3.heap.size + 1]? = _ from htm1] at hk; simp at hk))
          obtain ⟨z1, z2⟩ := HJ.out.upd (opn' := opn) (es' := es) ((T1.trans (Turns.set _ _ (.pointer none))).trans (Turns.put _ _ (.loop (rec .ready none)))) ⟨acc, none, hac3.stay (World.putObj_heap_other (by omega)) (fun k c fz hk => World.putObj_heap_other (fun e => by rw [e, pl3] at hk; simp at hk)), htm3.put (by omega) _, HRUN.out, fun j h => by cases h⟩ (World.putObj_heap_same (Array.getElem?_eq_some_iff.1 pl3).1) HPP.out HCH.out
          exact ⟨pl3, rfl, z1, z2⟩
        | succ j =>
          have hj : j < opn.length := by have := hkk (j + 1) rfl; simpa using this
          rw [termV_some (show j + 1 < (t :: opn).length from Nat.succ_lt_succ hj)] at htm1
          simp only [List.getElem_cons_succ] at htm1
          obtain ⟨c1, f1⟩ := htm1.cell
          have hne := key_ne hpt (hpp opn[j] (List.getElem_mem hj)) (hch1 opn[j] (List.getElem_mem hj))
          have hn1 : (binOp .eql 44 (.pointer (some ⟨t.b, t.o, none⟩)) (.pointer (some ⟨opn[j].b, opn[j].o, none⟩))).run Try.prog (W.putObj (w3.heap.size + 4) (.loop (rec .busy none))) = .ok (.bool false) (W.putObj (w3.heap.size + 4) (.loop (rec .busy none))) := eql_other hne (hpl1 _ hpt.inM) (hpl1 _ (hpp opn[j] (List.getElem_mem hj)).inM)
          rw [yRun] at hrun
          have HRUN := Lib.hid hrun
          have HTM := Lib.hid htm1
          clear hJ hac htm j3 hM1 hpl1 hrun hch1 hch2 hpp hkk htm1 hne
          generalize W.putObj (w3.heap.size + 4) (.loop (rec .busy none)) = W1 at *
          gi_wp2
          refine ⟨trivial, ?_⟩
          gi_wp2
          obtain ⟨z1, z2⟩ := HJ.out.upd (opn' := opn) (es' := es) (T1.trans (Turns.put _ _ (.loop (rec .ready none)))) ⟨acc, some j, hac1.stay (World.putObj_heap_other (by omega)) (fun k c fz hk => World.putObj_heap_other (fun e => by rw [e, pl] at hk; simp at hk)), by rw [termV_some hj]; exact HTM.out.put (by omega) _, HRUN.out, fun i h => by simp at h; subst h; exact hj⟩ (World.putObj_heap_same (Array.getElem?_eq_some_iff.1 pl).1) HPP.out HCH.out
          exact ⟨pl, rfl, z1, z2⟩
  rintro e W ⟨⟨v, rfl⟩, ⟨S, hJ⟩ | hS⟩
  · obtain ⟨acc, k, hac, _, hrun, _⟩ := hJ.st
    have hfin : acc = yieldL T := by
      have : yRun k [] = [] := by cases k <;> rfl
      rw [this, List.append_nil] at hrun
      exact hrun
    have hl := (Array.getElem?_eq_some_iff.1 hJ.loop).1
    have q1 : BuildsF w3.heap.size acc (W.putObj (w3.heap.size + 4) (.loop (rec .exhausted none))) := hac.stay (World.putObj_heap_other (by omega)) (fun k c fz hk => World.putObj_heap_other (fun e => by rw [e, hJ.loop] at hk; simp at hk))
    have q4 : (W.putObj (w3.heap.size + 4) (.loop (rec .exhausted none))).heap[w3.heap.size + 3]? = some (.deferred (some [])) := (World.putObj_heap_other (by omega)).trans hJ.defs
    have q5 := Below.putObj hJ.bel (r := w3.heap.size + 4) (by omega) (.loop (rec .exhausted none))
    have q6 : w3.heap.size ≤ (W.putObj (w3.heap.size + 4) (.loop (rec .exhausted none))).heap.size := by simp; omega
    refine ⟨v, .ready, none, rfl, by simp, hJ.loop, ?_⟩
    unfold afterSeq
    clear hJ ht4 hold hbox hbl hbl0
    generalize W.putObj (w3.heap.size + 4) (.loop (rec .exhausted none)) = W5 at *
    gi_wp2
    refine ⟨trivial, (callsIn_wide.2 (stringF_any _ acc _ q1 q6)).mono ?_⟩
    rintro e W6 ⟨rfl, hb6, ho6⟩
    have q7 : W6.heap[w3.heap.size + 3]? = some (.deferred (some [])) := ho6 _ _ q4 (by simp) (fun c fz => by simp)
    have q8 := q5.trans (hb6.mono (by omega))
    gi_wp2
    refine ⟨by simp, .inl ⟨_, _, rfl, run_takeDeferred q7, ?_⟩⟩
    exact ⟨_, results_tmp rfl _ _ _, by rw [← hfin]; rfl, Below.putObj q8 (by omega) _⟩
  · exact hS.elim
end Go.Proofs.Ytngekjbdjnfhmaa
namespace Go.Proofs.Ytngekjbdjnfhmaa
open Go.ChangeShapes Go.WideShapes Go.ChangeAt Go.RowKit Go.Deep
set_option maxRecDepth 100000
def szTo (ks : List Tr) (i : Nat) : Nat := ((ks.take i).map Tr.sz).sum
theorem szTo_succ {ks : List Tr} {i : Nat} (h : i < ks.length) : szTo ks (i + 1) = szTo ks i + ks[i].sz := by
  unfold szTo
  rw [List.take_succ_eq_append_getElem h, List.map_append, List.sum_append]
  simp
theorem sum_take_le (l : List Nat) : ∀ i, (l.take i).sum ≤ l.sum := fun i => by
  have : l.sum = (l.take i).sum + (l.drop i).sum := by rw [← List.sum_append, List.take_append_drop]
  omega
theorem szTo_le {ks : List Tr} (i : Nat) : szTo ks i ≤ (ks.map Tr.sz).sum := by
  unfold szTo
  rw [List.map_take]
  exact sum_take_le _ i
end Go.Proofs.Ytngekjbdjnfhmaa
namespace Go.Proofs.Ytngekjbdjnfhmaa
open Go.ChangeShapes Go.WideShapes Go.ChangeAt Go.RowKit Go.Deep
set_option maxRecDepth 100000
theorem MadeTree.trP {T : Tr} {w w' : World} {u : Value} (h1 : TrIn w' w.heap.size u T) (h2 : PlainFrom w.heap.size w') : TrP w' w.heap.size u T := TrP.of_plain h1 h2
end Go.Proofs.Ytngekjbdjnfhmaa
namespace Go.Proofs.Ytngekjbdjnfhmaa
open Go.ChangeShapes Go.WideShapes Go.ChangeAt Go.RowKit Go.Deep
set_option maxRecDepth 100000
def yieldTo (ks : List Tr) (i : Nat) : List UInt8 := (ks.take i).flatMap yieldL
theorem yieldTo_succ {ks : List Tr} {i : Nat} (h : i < ks.length) : yieldTo ks (i + 1) = cat (yieldTo ks i) (bytesOf (yieldL ks[i])) := by
  unfold yieldTo cat
  rw [List.take_succ_eq_append_getElem h, List.flatMap_append]
  simp [bytesOf]
theorem yieldTo_len {s : ByteArray} {r : Int} {ks : List Tr} (i : Nat) : (yieldTo ks i).length ≤ (Tr.node s r ks).sz := by
  rw [Tr.sz]
  have h1 : ∀ l : List Tr, (l.flatMap yieldL).length ≤ (l.map Tr.sz).sum := by
    intro l
    induction l with
    | nil => simp
    | cons x xs ih =>
      have := yield_len _ x (Nat.le_refl _)
      simp only [List.flatMap_cons, List.length_append, List.map_cons, List.sum_cons]
      omega
  have h2 := h1 (ks.take i)
  have h3 := szTo_le (ks := ks) i
  unfold szTo at h3
  unfold yieldTo
  omega
end Go.Proofs.Ytngekjbdjnfhmaa
