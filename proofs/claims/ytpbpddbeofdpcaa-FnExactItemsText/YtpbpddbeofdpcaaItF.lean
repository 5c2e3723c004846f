/- itemSetOf and ItemsOk of the program, ItemsOk of the model. -/
import Derived.Test.YtpbpddbeofdpcaaItE
namespace Go.Proofs.Ytpbpddbeofdpcaa
open Go.ChangeShapes Go.WideShapes Go.ChangeAt Go.RowKit
set_option maxRecDepth 100000
def okI (st : ByteArray) (rs : List RuleT) (x : ItemT) : Bool := itemB st rs x.1 x.2.1 x.2.2
/-- the item at i is one, and it comes behind the one before -/
def goodI (st : ByteArray) (rs : List RuleT) (xs : List ItemT) (i : Nat) : Bool := match xs[i]? with
  | some x => okI st rs x && (match i with
    | 0 => true
    | j + 1 => match xs[j]? with
      | some y => lessI y x
      | none => true)
  | none => true
def itemsB (st : ByteArray) (rs : List RuleT) (xs : List ItemT) : Bool := gramOkB st rs && (List.range xs.length).all (goodI st rs xs)
theorem goodI_zero {st : ByteArray} {rs : List RuleT} {xs : List ItemT} (h : 0 < xs.length) : goodI st rs xs 0 = okI st rs xs[0] := by
  unfold goodI; rw [List.getElem?_eq_getElem h]; simp
theorem goodI_succ {st : ByteArray} {rs : List RuleT} {xs : List ItemT} {j : Nat} (h : j + 1 < xs.length) : goodI st rs xs (j + 1) = (okI st rs xs[j + 1] && lessI xs[j] xs[j + 1]) := by
  unfold goodI; rw [List.getElem?_eq_getElem h]; dsimp only; rw [List.getElem?_eq_getElem (show j < xs.length by omega)]
theorem itemsB_bad {st : ByteArray} {rs : List RuleT} {xs : List ItemT} {k : Nat} (h : k < xs.length) (hb : goodI st rs xs k = false) : itemsB st rs xs = false := by
  unfold itemsB
  rw [Bool.and_eq_false_iff]; right
  rw [List.all_eq_false]
  exact ⟨k, by simpa using h, by simp [hb]⟩
theorem itemsB_all {st : ByteArray} {rs : List RuleT} {xs : List ItemT} (h : ∀ k, k < xs.length → goodI st rs xs k = true) : itemsB st rs xs = gramOkB st rs := by
  unfold itemsB
  rw [List.all_eq_true.2 (fun k hk => h k (by simpa using hk)), Bool.and_true]
theorem good_ok {st : ByteArray} {rs : List RuleT} {xs : List ItemT} {k : Nat} (h : k < xs.length) (hg : goodI st rs xs k = true) : okI st rs xs[k] = true := by
  match k, h, hg with
  | 0, h, hg => rwa [goodI_zero h] at hg
  | j + 1, h, hg => rw [goodI_succ h, Bool.and_eq_true] at hg; exact hg.1
theorem gram_right {st : ByteArray} {rs : List RuleT} (h : gramOkB st rs = true) : rs.length ≤ 8 ∧ st.size ≤ 4 ∧ ∀ r : Int, (rightI st rs r).size ≤ 4 := by
  unfold gramOkB at h
  simp only [Bool.and_eq_true, decide_eq_true_eq, List.all_eq_true, List.mem_range] at h
  obtain ⟨h1, h2, h3⟩ := h
  have hs : st.size = 1 := by simp only [isBigS, Bool.and_eq_true, decide_eq_true_eq] at h1; exact h1.1
  refine ⟨h2, by omega, fun r => ?_⟩
  unfold rightI
  split
  · omega
  · by_cases hr : r.toNat < rs.length
    · rw [List.getElem?_eq_getElem hr]
      have h4 := h3 _ hr
      rw [goodB_at hr] at h4
      simp [ruleOkB, isBigS] at h4
      exact h4.1.2.1
    · rw [List.getElem?_eq_none (by omega)]; exact Nat.zero_le _
theorem okI_facts {st : ByteArray} {rs : List RuleT} {x : ItemT} (hg : gramOkB st rs = true) (h : okI st rs x = true) : -1 ≤ x.1 ∧ x.1 < 8 ∧ ∃ d : Nat, x.2.1 = d ∧ d ≤ 4 ∧ aheadB x.2.2 = true ∧ packI x < 225 := by
  obtain ⟨g1, _, g3⟩ := gram_right hg
  unfold okI itemB at h
  simp only [Bool.and_eq_true, decide_eq_true_eq] at h
  obtain ⟨h1, h2, h3, h4, h5, _⟩ := h
  have := g3 x.1
  obtain ⟨c, e, hc⟩ := ahead_one h5
  have b1 := (ahead_idx e hc).2
  refine ⟨h1, by omega, x.2.1.toNat, by omega, by omega, h5, ?_⟩
  unfold packI
  omega
def zeroF : Nat → Nat := fun _ => 0
def setI (xs : List ItemT) : Nat → Nat := xs.foldl (fun f x => addF f (packI x)) zeroF
theorem wordsLt_zero : wordsLt zeroF := fun _ => by unfold zeroF; exact Nat.two_pow_pos _
theorem wordsLt_add {f : Nat → Nat} (h : wordsLt f) (p : Nat) : wordsLt (addF f p) := by
  intro i
  unfold addF
  split
  · exact Nat.or_lt_two_pow (h i) (Nat.pow_lt_pow_right (by omega) (by omega))
  · exact h i
theorem setI_succ {xs : List ItemT} {k : Nat} (h : k < xs.length) : setI (xs.take (k + 1)) = addF (setI (xs.take k)) (packI xs[k]) := by
  unfold setI
  rw [List.take_succ_eq_append_getElem h, List.foldl_append]
  rfl
theorem wordsLt_setI (xs : List ItemT) : ∀ k, k ≤ xs.length → wordsLt (setI (xs.take k)) := by
  intro k
  induction k with
  | zero => intro _; exact wordsLt_zero
  | succ k ih => intro h; rw [setI_succ (by omega)]; exact wordsLt_add (ih (by omega)) _
def agg4 (f : Nat → Nat) : Value := .agg #[.int .u64 (f 0 : Nat), .int .u64 (f 1 : Nat), .int .u64 (f 2 : Nat), .int .u64 (f 3 : Nat)]
/-- where itemSetOf stands: the rules' box, the result's box, the set, and nothing else is written -/
structure StI (w : World) (gv : Array Value) (b6 : Nat) (f : Nat → Nat) (wr : World) : Prop where
  bel : Below w.heap.size w wr
  g : wr.heap[w.heap.size]? = some (.cells gv 32)
  z : Set4 wr (w.heap.size + 1) zeroF
  s : Set4 wr b6 f
  lo : w.heap.size + 2 ≤ b6
theorem StI.below {w : World} {gv : Array Value} {b6 : Nat} {f : Nat → Nat} {wr wr' : World} (h : StI w gv b6 f wr) (hb : Below wr.heap.size wr wr') : StI w gv b6 f wr' :=
  ⟨Below.on h.bel hb (Nat.le_refl _), (hb.block _ (Array.getElem?_eq_some_iff.1 h.g).1).trans h.g, (hb.block _ h.z.lt).trans h.z, (hb.block _ h.s.lt).trans h.s, h.lo⟩
theorem StI.put {w : World} {gv : Array Value} {b6 : Nat} {f f' : Nat → Nat} {wr wr' : World} (h : StI w gv b6 f wr) (hs : Set4 wr' b6 f') (hA : Apart1 b6 wr wr') : StI w gv b6 f' wr' := by
  have hlo := h.lo
  have g1 := (Array.getElem?_eq_some_iff.1 h.g).1
  have z1 := h.z.lt
  obtain ⟨a1, a2, a3, a4, a5⟩ := hA
  refine ⟨⟨a1.trans h.bel.os, a2.trans h.bel.tape, a3.trans h.bel.output, Nat.le_trans h.bel.size a4, fun k hk => ?_⟩, (a5 _ (by omega) g1).trans h.g, (a5 _ (by omega) z1).trans h.z, hs, hlo⟩
  have := h.bel.size
  rw [a5 k (by omega) (by omega), h.bel.block k hk]
theorem ItemsAt.to {w wr : World} {a : Option Addr} {xs : List ItemT} (h : ItemsAt w a xs) (hb : Below w.heap.size w wr) : ItemsAt wr a xs := h.below hb (Nat.le_refl _)
def lastI (xs : List ItemT) : Nat → Int
  | 0 => -1
  | j + 1 => match xs[j]? with
    | some y => (packI y : Nat)
    | none => -1
end Go.Proofs.Ytpbpddbeofdpcaa
