/- The model's TableClash; marks of a table. -/
import Derived.Test.YtiloalbjcmpljaaClC
import Derived.Deep.RegionHeld3
namespace Go.Proofs.Ytiloalbjcmpljaa
open Go.ChangeShapes Go.WideShapes Go.ChangeAt Go.RowKit Go.Deep
set_option maxRecDepth 100000
def eqD (x y : DuoT) : Bool := (x.1 == y.1) && (x.2.toList == y.2.toList)
theorem eqD_iff (x y : DuoT) : eqD x y = true ↔ x = y := by
  have := hitD_iff y (x.1, x.2, 0)
  exact this
theorem equalIn_Clash (r r' : Int) (s s' : ByteArray) (w : World) : (Op.equalIn 10000 77 (.agg #[.int .i64 r, .string s]) (.agg #[.int .i64 r', .string s'])).run Try.prog w = .ok (eqD (r, s) (r', s')) w := by
  have u3 := Try.underlying9
  have a3 := Try.isAgg9
  have z3 := Try.sizeOf9
  have u4 := Try.underlying3
  have a4 := Try.isAgg3
  have z4 := Try.sizeOf3
  have hS : Try.prog.underlying 77 = some (.struct (Try.prog.fieldsOf 77)) := by kernel_rfl
  have hp : Try.prog.stoodInHeld 77 = false := by kernel_rfl
  rw [show (10000 : Nat) = 9999 + 1 from rfl, run_equalIn_agg w 9999 77 _ _ hS hp]
  simp only [Program.fieldsOf, Try.underlying77]
  go_simp
  by_cases h1 : r = r' <;> by_cases h2 : s.toList = s'.toList <;> simp [h1, h2, eqD]
theorem eqGuard_Clash (op : BinOp) (x y : Operand) (xs ys : Array Value) (w : World) : (eqGuard op 77 x y (.agg xs) (.agg ys)).run Try.prog w = .ok () w :=
  run_eqGuard_agg w op 77 x y xs ys (by kernel_rfl)
theorem run_eql_Clash (r r' : Int) (s s' : ByteArray) (w : World) : Sem.run Try.prog (binOp .eql 77 (.agg #[.int .i64 r, .string s]) (.agg #[.int .i64 r', .string s'])) w = .ok (.bool (eqD (r, s) (r', s'))) w := by
  rw [run_eql_struct, equalIn_Clash]; rfl
/-- clashes with one more, if it is not there -/
def addD (cs : List DuoT) (x : DuoT) : List DuoT := if cs.any (fun y => eqD y x) = true then cs else cs ++ [x]
theorem any_mem (cs : List DuoT) (x : DuoT) : cs.any (fun y => eqD y x) = true ↔ x ∈ cs := by
  rw [List.any_eq_true]
  constructor
  · rintro ⟨y, hy, h⟩; exact (eqD_iff _ _).1 h ▸ hy
  · intro h; exact ⟨x, h, (eqD_iff _ _).2 rfl⟩
theorem addD_yes {cs : List DuoT} {k : Nat} (h : k < cs.length) {x : DuoT} (he : eqD cs[k] x = true) : addD cs x = cs := by
  unfold addD; rw [if_pos ((any_mem _ _).2 ((eqD_iff _ _).1 he ▸ List.getElem_mem h))]
theorem addD_no {cs : List DuoT} {x : DuoT} (h : ∀ j (hj : j < cs.length), eqD cs[j] x = false) : addD cs x = cs ++ [x] := by
  unfold addD
  rw [if_neg]
  intro hx
  rw [any_mem] at hx
  obtain ⟨j, hj, e⟩ := List.getElem_of_mem hx
  have := h j hj
  rw [(eqD_iff _ _).2 e] at this
  cases this
theorem goT_any (xs : List TriT) (n : Int) (s : ByteArray) : (goT xs n s).2 = xs.any (hitD (n, s)) := by
  induction xs with
  | nil => rfl
  | cons x xs ih =>
    unfold goT
    rw [List.any_cons]
    cases h : hitT x n s with
    | true => rw [if_pos rfl, show hitD (n, s) x = true from h]; rfl
    | false => rw [if_neg (by simp), show hitD (n, s) x = false from h, ih]; rfl
theorem any_cN (xs ys : List TriT) (k : Nat) (x : DuoT) : (xs.any (hitD x) || (ys.take k).any (hitD x)) = decide (1 ≤ cN xs ys k x) := by
  unfold cN
  cases h : xs.any (hitD x) with
  | true => simp
  | false =>
    rw [Bool.false_or]
    cases h2 : (ys.take k).any (hitD x) with
    | true =>
      obtain ⟨y, hy, hh⟩ := List.any_eq_true.1 h2
      have : 0 < (ys.take k).countP (hitD x) := List.countP_pos_iff.2 ⟨y, hy, hh⟩
      symm; rw [decide_eq_true_eq]; split <;> omega
    | false =>
      have : (ys.take k).countP (hitD x) = 0 := by
        rw [List.countP_eq_zero]
        intro y hy hh
        have := List.any_eq_false.1 h2 y hy
        exact this hh
      simp [this]
theorem clashTo_add {xs ys : List TriT} {k : Nat} (h : k < ys.length) (hc : 1 ≤ cN xs ys k (ys[k].1, ys[k].2.1)) : clashTo xs ys (k + 1) = addD (clashTo xs ys k) (ys[k].1, ys[k].2.1) := by
  have hm := mem_clashTo xs ys (ys[k].1, ys[k].2.1) k (by omega)
  unfold addD
  by_cases h1 : cN xs ys k (ys[k].1, ys[k].2.1) = 1
  · rw [clashTo_yes h h1, if_neg (fun e => by have := hm.1 ((any_mem _ _).1 e); omega)]
  · rw [clashTo_no h h1, if_pos ((any_mem _ _).2 (hm.2 (by omega)))]
theorem flat_get (cs : List DuoT) {j : Nat} (h : j < cs.length) : (flatD cs).getD (j * 2) undef = .int .i64 cs[j].1 ∧ (flatD cs).getD (j * 2 + 1) undef = .string cs[j].2 := by
  obtain ⟨h1, h2⟩ := flatD_at cs j h
  exact ⟨by rw [List.getD_eq_getElem?_getD, h1]; rfl, by rw [List.getD_eq_getElem?_getD, h2]; rfl⟩
theorem below_drewN (w : World) (n : Nat) : Below w.heap.size w (w.drewN n) := ⟨rfl, rfl, rfl, Nat.le_refl _, fun _ _ => rfl⟩
set_option maxHeartbeats 2000000 in
theorem l6Add_any (av : Option Addr) (cv : Nat) (cs : List DuoT) (x : DuoT) (B : Nat) (w : World) (H : w.ownsRow B 77 2 (.slice av cs.length cv) cs.length (flatD cs)) (hB : B ≤ w.heap.size) (hn : cs.length ≤ 2000000) :
    Calls Try.prog 49 #[.slice av cs.length cv, keyV x] w fun e w' => (∃ a' c', e = .returned (.slice a' (addD cs x).length c') ∧ w'.ownsRow B 77 2 (.slice a' (addD cs x).length c') (addD cs x).length (flatD (addD cs x))) ∧ Below B w w' := by
  obtain ⟨i0, hi0, hz0, hz1, hz2⟩ := info_parts infoClash
  obtain ⟨n, s⟩ := x
  have heq := run_eql_Clash
  have hgd := eqGuard_Clash
  unfold keyV
  have hb1 := (Below.refl w.heap.size w).alloc (Nat.le_refl _) (.cells #[.int .i64 n, .string s] 77)
  have K1 := Box2.new w (.int .i64 n) (.string s) 77
  have H1 := owns_below H hb1
  go_enter Try.func49, Try.ntmps49
  go_wp2_with fail
  go_loopw [5] (fun i wr => ∃ k : Nat, k ≤ cs.length ∧ i = .int .i64 k ∧ Hid (∀ j (hj : j < cs.length), j < k → eqD cs[j] (n, s) = false) ∧ Below w.heap.size w wr ∧ Box2 wr w.heap.size (.int .i64 n) (.string s) ∧ wr.ownsRow B 77 2 (.slice av cs.length cv) cs.length (flatD cs)) (fun i _ => cs.length - (intOf i).toNat)
  case atStart => exact ⟨0, Nat.zero_le _, rfl, fun j _ h => by omega, hb1, K1, H1⟩
  case round =>
    clear hb1 K1 H1
    obtain ⟨k, hk, rfl, HN, hb, K, HO⟩ := hrel
    have hsz := hb.size
    by_cases hlt : k < cs.length
    · obtain ⟨a', c', e, _, hrow, _⟩ := owns_at HO
      simp only [Value.slice.injEq, true_and] at e
      obtain ⟨rfl, rfl⟩ := e
      obtain ⟨b, off, e, hbl, c0⟩ := hrow (k * 2) (by omega)
      obtain ⟨b', off', e', _, c1⟩ := hrow (k * 2 + 1) (by omega)
      rw [e] at e'
      simp only [Option.some.injEq, Addr.mk.injEq] at e'
      obtain ⟨rfl, rfl, _⟩ := e'
      obtain ⟨g0, g1⟩ := flat_get cs hlt
      replace c0 : wr.cell? ⟨b, off + k * 2, none⟩ = some ((flatD cs).getD (k * 2) undef) := c0
      replace c1 : wr.cell? ⟨b, off + (k * 2 + 1), none⟩ = some ((flatD cs).getD (k * 2 + 1) undef) := c1
      rw [g0] at c0
      rw [g1, ← Nat.add_assoc] at c1
      subst e
      clear g0 g1 hrow
      have hkl : (k : Int) < (cs.length : Int) := by omega
      obtain ⟨k0, k1⟩ := K.2
      have c0d : wr.drew.cell? ⟨b, off + k * 2, none⟩ = some (.int .i64 cs[k].1) := c0
      have c1d : wr.drew.cell? ⟨b, off + k * 2 + 1, none⟩ = some (.string cs[k].2) := c1
      have k0d : wr.drew.cell? ⟨w.heap.size, 0, none⟩ = some (.int .i64 n) := k0
      have k1d : wr.drew.cell? ⟨w.heap.size, 1, none⟩ = some (.string s) := k1
      cases he : eqD (cs[k].1, cs[k].2) (n, s) with
      | true =>
        have HA := Lib.hid (addD_yes hlt he)
        go_wp2_with fail
        go_quiet (fail)
        go_wp2_with fail
        go_ret
        refine ⟨⟨some ⟨b, off, none⟩, cv, by rw [HA.out]; rfl, ?_⟩, (hb.trans ((below_drewN _ _).mono hsz)).mono hB⟩
        rw [HA.out]; exact HO
      | false =>
        have HE := Lib.hid he
        go_wp2_with fail
        go_quiet (fail)
        go_wp2_with fail
        go_roundw
        case rel => exact ⟨k + 1, by omega, by go_num, fun j h1 hj => by
                      by_cases e : j = k
                      · subst e; exact HE.out
                      · exact HN.out j h1 (by omega), hb.trans ((below_drewN _ _).mono hsz), K, HO⟩
        case measure => simp [intOf]; omega
    · have hkl : ¬ (k : Int) < (cs.length : Int) := by omega
      have HA := Lib.hid (addD_no (cs := cs) (x := (n, s)) (fun j hj => HN.out j hj (by omega)))
      obtain ⟨k0, k1⟩ := K.2
      have hb5 := hb.alloc hsz (.cells #[.int .i64 n, .string s] 77)
      have HO5 := HO.alloc (.cells #[.int .i64 n, .string s] 77)
      go_wp2_with (first | (at_builtin; refine wpList_append_own_at _ rfl _ _ 47 rfl B 77 i0 (.agg #[.int .i64 0, .string ByteArray.empty]) 2 24 Try.underlying47 hi0 hz0 hz1 hz2 rfl (by decide) (.slice av cs.length cv) cs.length (flatD cs) rfl HO5 ⟨wr.heap.size, 0, none⟩ 1 1 (flatD [(n, s)]) rfl rfl ?c1 ?c2 ?c3 ?c4 ?c5 ?_) | fail)
      case c1 =>
        intro q u hq
        match q, hq with
        | 0, hq => simp [flatD] at hq; subst hq; simp
        | 1, hq => simp [flatD] at hq; subst hq; simp
      case c2 => intro u hu; simp [flatD] at hu; rcases hu with rfl | rfl <;> rfl
      case c3 => unfold maxLen; omega
      case c4 => omega
      case c5 => first | omega | (simp; omega)
      intro v' w6 h5 hg _ _
      obtain ⟨a', c', rfl, _⟩ := owns_at h5
      have hb6 : Below B w w6 := (hb5.mono hB).trans ((Below.refl B _).grown hg (by simp; omega) (fun j hj => (HO5.lt j hj).1))
      have h6 : w6.ownsRow B 77 2 (.slice a' (addD cs (n, s)).length c') (addD cs (n, s)).length (flatD (addD cs (n, s))) := by
        rw [HA.out, flatD_append, List.length_append]; exact h5
      have hlen : (addD cs (n, s)).length = cs.length + 1 := by rw [HA.out]; simp
      clear h5 hg hb5 HO5
      go_wp2_with fail
      go_ret
      exact ⟨⟨a', c', by rw [hlen]; rfl, h6⟩, hb6⟩
end Go.Proofs.Ytiloalbjcmpljaa
