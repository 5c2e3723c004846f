/- Clashes: which they are; the program's TableClash: a map of counts, and a callback that appends. -/
import Derived.Test.YtiloalbjcmpljaaTabB
import Derived.Test.YtiloalbjcmpljaaClA
import Derived.Test.YtiloalbjcmpljaaMapF
namespace Go.Proofs.Ytiloalbjcmpljaa
open Go.ChangeShapes Go.WideShapes Go.ChangeAt Go.RowKit Go.Deep
set_option maxRecDepth 100000
abbrev DuoT := Int × ByteArray
def keyV (x : DuoT) : Value := .agg #[.int .i64 x.1, .string x.2]
def hitD (x : DuoT) (y : TriT) : Bool := hitT y x.1 x.2
theorem hitD_iff (x : DuoT) (y : TriT) : hitD x y = true ↔ (y.1, y.2.1) = x := by
  obtain ⟨n, s⟩ := x
  unfold hitD hitT
  rw [Bool.and_eq_true, beq_iff_eq, beq_iff_eq, Prod.mk.injEq]
  constructor
  · rintro ⟨h1, h2⟩
    exact ⟨h1, by
      apply ByteArray.ext
      apply Array.ext'
      rw [Go.ByteArray.toList_eq, Go.ByteArray.toList_eq] at h2
      exact h2⟩
  · rintro ⟨h1, h2⟩; exact ⟨h1, by rw [h2]⟩
/-- how many actions there are at x, of all moves and the first k ends -/
def cN (xs ys : List TriT) (k : Nat) (x : DuoT) : Nat := (if xs.any (hitD x) then 1 else 0) + (ys.take k).countP (hitD x)
/-- the clashes that the first k ends make -/
def clashTo (xs ys : List TriT) : Nat → List DuoT
  | 0 => []
  | k + 1 => match ys[k]? with
    | some y => if cN xs ys k (y.1, y.2.1) = 1 then clashTo xs ys k ++ [(y.1, y.2.1)] else clashTo xs ys k
    | none => clashTo xs ys k
theorem clashTo_yes {xs ys : List TriT} {k : Nat} (h : k < ys.length) (hc : cN xs ys k (ys[k].1, ys[k].2.1) = 1) : clashTo xs ys (k + 1) = clashTo xs ys k ++ [(ys[k].1, ys[k].2.1)] := by
  unfold clashTo; rw [List.getElem?_eq_getElem h]; simp only; rw [if_pos hc]; cases k <;> rfl
theorem clashTo_no {xs ys : List TriT} {k : Nat} (h : k < ys.length) (hc : ¬ cN xs ys k (ys[k].1, ys[k].2.1) = 1) : clashTo xs ys (k + 1) = clashTo xs ys k := by
  unfold clashTo; rw [List.getElem?_eq_getElem h]; simp only; rw [if_neg hc]; cases k <;> rfl
theorem cN_succ {xs ys : List TriT} {k : Nat} (h : k < ys.length) (x : DuoT) : cN xs ys (k + 1) x = cN xs ys k x + (if hitD x ys[k] then 1 else 0) := by
  unfold cN
  rw [List.take_succ_eq_append_getElem h, List.countP_append]
  simp only [List.countP_cons, List.countP_nil]
  omega
theorem cN_zero (xs ys : List TriT) (x : DuoT) : cN xs ys 0 x = if xs.any (hitD x) then 1 else 0 := by simp [cN]
theorem cN_le (xs ys : List TriT) (k : Nat) (x : DuoT) : cN xs ys k x ≤ 1 + k := by
  unfold cN
  have h1 := List.countP_le_length (p := hitD x) (l := ys.take k)
  have h2 := List.length_take_le k ys
  split <;> omega
theorem clashTo_len (xs ys : List TriT) (k : Nat) : (clashTo xs ys k).length ≤ k := by
  induction k with
  | zero => simp [clashTo]
  | succ k ih =>
    by_cases h : k < ys.length
    · by_cases hc : cN xs ys k (ys[k].1, ys[k].2.1) = 1
      · rw [clashTo_yes h hc]; simp; omega
      · rw [clashTo_no h hc]; omega
    · have : clashTo xs ys (k + 1) = clashTo xs ys k := by
        unfold clashTo; rw [List.getElem?_eq_none (by omega)]; cases k <;> rfl
      rw [this]; omega
theorem mem_clashTo (xs ys : List TriT) (x : DuoT) : ∀ k, k ≤ ys.length → (x ∈ clashTo xs ys k ↔ 2 ≤ cN xs ys k x) := by
  intro k
  induction k with
  | zero => intro _; rw [cN_zero]; simp [clashTo]; split <;> omega
  | succ k ih =>
    intro hk
    have h : k < ys.length := by omega
    have ih := ih (by omega)
    rw [cN_succ h]
    by_cases hc : cN xs ys k (ys[k].1, ys[k].2.1) = 1
    · rw [clashTo_yes h hc, List.mem_append, List.mem_singleton, ih]
      by_cases e : hitD x ys[k] = true
      · have e2 := (hitD_iff _ _).1 e
        rw [if_pos e]
        rw [e2] at hc
        exact ⟨fun _ => by omega, fun _ => .inr e2.symm⟩
      · rw [if_neg e]
        have e2 : ¬ (ys[k].1, ys[k].2.1) = x := fun h => e ((hitD_iff _ _).2 h)
        exact ⟨fun h => h.elim (fun h => by omega) (fun h => absurd h.symm e2), fun h => .inl (by omega)⟩
    · rw [clashTo_no h hc, ih]
      by_cases e : hitD x ys[k] = true
      · have e2 := (hitD_iff _ _).1 e
        rw [if_pos e]
        rw [e2] at hc
        omega
      · rw [if_neg e]; omega
def flatD : List DuoT → List Value
  | [] => []
  | x :: xs => .int .i64 x.1 :: .string x.2 :: flatD xs
theorem flatD_append (a b : List DuoT) : flatD (a ++ b) = flatD a ++ flatD b := by induction a <;> simp_all [flatD]
theorem flatD_len (a : List DuoT) : (flatD a).length = a.length * 2 := by induction a <;> simp_all [flatD]; omega
theorem flatD_at (a : List DuoT) : ∀ i (h : i < a.length), (flatD a)[i * 2]? = some (.int .i64 a[i].1) ∧ (flatD a)[i * 2 + 1]? = some (.string a[i].2) := by
  induction a with
  | nil => intro i h; exact absurd h (Nat.not_lt_zero _)
  | cons x xs ih =>
    intro i h
    cases i with
    | zero => exact ⟨rfl, rfl⟩
    | succ i =>
      have := ih i (by simpa using h)
      rw [show (i + 1) * 2 = i * 2 + 1 + 1 from by omega]
      simpa [flatD] using this
theorem flatD_F (a : List DuoT) : ClashF a.length (fun j => (flatD a).getD j undef) := fun i hi => by
  obtain ⟨h1, h2⟩ := flatD_at a i hi
  exact ⟨a[i].1, a[i].2, by simp only [List.getD_eq_getElem?_getD, h1]; rfl, by simp only [List.getD_eq_getElem?_getD, h2]; rfl⟩
def WfD (x : DuoT) : Prop := (Lit.int .i64 x.1).wf = true ∧ x.2.size ≤ maxLen
theorem clash_law : WideMaps.KeyLaw Try.prog 77 := deep_law_laid laidOutP (m := 2) (by omega) (of_decide_eq_true (by kernel_rfl)) (by kernel_rfl) (by kernel_rfl)
theorem clash_key (x : DuoT) (h : WfD x) : ∃ l, keyOf Try.prog 77 (keyV x) = some l := by
  have hu := Try.underlying77
  have hk : Try.prog.keyType 77 = true := by kernel_rfl
  have hc : Try.prog.cellsOf 77 = 2 := by kernel_rfl
  have c3 : Try.prog.cellsOf 3 = 1 := by kernel_rfl
  have c9 : Try.prog.cellsOf 9 = 1 := by kernel_rfl
  have hf : (keyV x).formed Try.prog 77 = true := by simp [keyV, Value.formed, hu, hc]
  have hpos : 0 < Try.prog.types.size := of_decide_eq_true (by kernel_rfl)
  obtain ⟨m, hm⟩ : ∃ m, Try.prog.types.size = m + 1 := ⟨_, (Nat.succ_pred_eq_of_pos hpos).symm⟩
  unfold keyOf
  rw [hu, hk, hf, hm]
  have h1 := h.1
  have h2 := h.2
  simp [keyV, Value.cells, Program.keyLits, hu, hc, c3, c9, Try.underlying3, Try.underlying9, h1, h2]
theorem keyV_inj {x y : DuoT} (h : keyV x = keyV y) : x = y := by
  obtain ⟨a, b⟩ := x; obtain ⟨c, d⟩ := y
  simp [keyV] at h
  simp [h]
theorem zeroI (w : World) : (zeroValue 3).run Try.prog w = .ok (.int .i64 0) w := by kernel_rfl
/-- a captured slice of clashes, of the call's own from block B on -/
def CapC (w : World) (p B : Nat) (cs : List DuoT) : Prop := p < B ∧ B ≤ w.heap.size ∧ ∃ v, one1 w p v 47 ∧ w.ownsRow B 77 2 v cs.length (flatD cs)
theorem CapC.below {w w' : World} {p B : Nat} {cs : List DuoT} (h : CapC w p B cs) (hb : Below w.heap.size w w') : CapC w' p B cs := by
  obtain ⟨h1, h2, v, h3, h4⟩ := h
  exact ⟨h1, Nat.le_trans h2 hb.size, v, h3.below hb, owns_below h4 hb⟩
theorem infoClash : (Try.prog.info? 77).map (fun i => (i.zero, i.size, i.bytes)) = some (some (.agg #[.int .i64 0, .string ByteArray.empty]), 2, 24) := by kernel_rfl
/-- what changes: block p, and blocks from B on -/
structure Rel1 (p B : Nat) (w w' : World) : Prop where
  os : w'.os = w.os
  tape : w'.tape = w.tape
  output : w'.output = w.output
  size : w.heap.size ≤ w'.heap.size
  block : ∀ k, k < w.heap.size → k < B → k ≠ p → w'.heap[k]? = w.heap[k]?
theorem Rel1.trans {p B : Nat} {a b c : World} (h : Rel1 p B a b) (k : Rel1 p B b c) : Rel1 p B a c :=
  ⟨k.os.trans h.os, k.tape.trans h.tape, k.output.trans h.output, Nat.le_trans h.size k.size, fun j hj hB hp => (k.block j (Nat.lt_of_lt_of_le hj h.size) hB hp).trans (h.block j hj hB hp)⟩
theorem Rel1.of_below {p B : Nat} {w w' : World} (h : Below w.heap.size w w') : Rel1 p B w w' := ⟨h.os, h.tape, h.output, h.size, fun k hk _ _ => h.block k hk⟩
theorem Rel1.of_only {p B R : Nat} {w w' : World} (h : OnlyG R w w') (hR : B ≤ R) : Rel1 p B w w' := ⟨h.os, h.tape, h.output, h.size, fun k hk hB _ => h.block k hk (by omega)⟩
theorem Rel1.low {p B C : Nat} {w w' : World} (h : Rel1 p B w w') (hC : C ≤ B) : Rel1 p C w w' := ⟨h.os, h.tape, h.output, h.size, fun k hk hB hp => h.block k hk (by omega) hp⟩
set_option maxHeartbeats 1000000 in
theorem report_any (x : DuoT) (p B : Nat) (cs : List DuoT) (w : World) (H : CapC w p B cs) (hn : cs.length ≤ 2000000) :
    Calls Try.prog 51 #[keyV x, .pointer (some ⟨p, 0, none⟩)] w fun e w' => e = .returned (.tuple #[]) ∧ CapC w' p B (cs ++ [x]) ∧ (∃ v, one1 w p v 47 ∧ ∀ k, k < w.heap.size → k ≠ p → v.ownBlock ≠ some k → w'.heap[k]? = w.heap[k]?) ∧ Rel1 p B w w' := by
  obtain ⟨i0, hi0, hz0, hz1, hz2⟩ := info_parts infoClash
  obtain ⟨hpB, hB, v, h1, hown⟩ := H
  obtain ⟨n, s⟩ := x
  unfold keyV
  have hb1 := (Below.refl w.heap.size w).alloc (Nat.le_refl _) (.cells #[.int .i64 n, .string s] 77)
  have hb2 := hb1.alloc (by simp) (.cells #[.int .i64 n, .string s] 77)
  have o1 := (h1.alloc (.cells #[.int .i64 n, .string s] 77))
  have hpl := h1.lt
  obtain ⟨c0, f0⟩ := o1.cell
  have hown2 := owns_below hown hb2
  go_enter Try.func51, Try.ntmps51
  go_wp2_with (first | (at_builtin; refine wpList_append_own_at _ rfl _ _ 47 rfl B 77 i0 (.agg #[.int .i64 0, .string ByteArray.empty]) 2 24 Try.underlying47 hi0 hz0 hz1 hz2 rfl (by decide) v cs.length (flatD cs) rfl hown2 ⟨w.heap.size + 1, 0, none⟩ 1 1 (flatD [(n, s)]) rfl rfl ?c1 ?c2 ?c3 ?c4 ?c5 ?_) | fail)
  case c1 =>
    intro q u hq
    match q, hq with
    | 0, hq => simp [flatD] at hq; subst hq; simp [Addr.add]
    | 1, hq => simp [flatD] at hq; subst hq; simp [Addr.add]
  case c2 => intro u hu; simp [flatD] at hu; rcases hu with rfl | rfl <;> rfl
  case c3 => unfold maxLen; omega
  case c4 => omega
  case c5 => simp; omega
  intro v' w6 h5 hg _ hv
  have hne : some p ≠ v.ownBlock := fun e => by have := (hown.lt p e.symm).1; omega
  have o6 : one1 w6 p v 47 := (hg.block p (by simp; omega) hne).trans (o1.alloc _)
  obtain ⟨c6, f6⟩ := o6.cell
  obtain ⟨av, cv, rfl, _⟩ := owns_at h5
  have o7 := o6.set (.slice av (cs.length + 1) cv)
  have h7 : (w6.setCell ⟨p, 0, none⟩ (.slice av (cs.length + 1) cv)).ownsRow B 77 2 (.slice av (cs.length + 1) cv) (cs.length + 1) (flatD cs ++ flatD [(n, s)]) := ownsRow_setCell_below h5 hpB _
  have hs6 : w.heap.size + 2 ≤ w6.heap.size := by have := hg.size; simpa using this
  go_wp2_with fail
  go_end0
  refine ⟨rfl, ⟨hpB, by simp [World.setCell]; omega, _, o7, ?_⟩, ⟨v, h1, fun k hk hkp hkv => ?_⟩, ?_⟩
  · rw [flatD_append, List.length_append]; exact h7
  · rw [Below.heap_setCell w6 _ _ k hkp, hg.block k (by simp; omega) (fun e => hkv e.symm), hb2.block k hk]
  · refine ⟨hg.os.trans hb2.os, hg.tape.trans hb2.tape, hg.output.trans hb2.output, by simp [World.setCell]; omega, fun k hk hkB hkp => ?_⟩
    rw [Below.heap_setCell w6 _ _ k hkp, hg.block k (by simp; omega) (fun e => by have := (hown.lt k e.symm).1; omega), hb2.block k hk]
end Go.Proofs.Ytiloalbjcmpljaa
