/- Rules in memory; contracts of slices.Index and slices.Contains over rules, and of the model's l1Place. -/
import Derived.Test.YtpkejcjjbkgomaaDoorOkA
import Derived.Laws.StructEq
namespace Go.Proofs.YtpkejcjjbkgomaaDoor
open Go.ChangeShapes Go.WideShapes Go.ChangeAt Go.RowKit
abbrev RuleT := ByteArray × ByteArray
/-- the slice at a holds the rules rs -/
def RulesAt (w : World) (a : Option Addr) (rs : List RuleT) : Prop :=
  rs.length ≤ maxLen ∧ ∀ i (h : i < rs.length), rs[i].1.size ≤ maxLen ∧ rs[i].2.size ≤ maxLen ∧ ∃ b off, a = some ⟨b, off, none⟩ ∧ b < w.heap.size ∧ w.cell? ⟨b, off + i * 2, none⟩ = some (.string rs[i].1) ∧ w.cell? ⟨b, off + i * 2 + 1, none⟩ = some (.string rs[i].2)
theorem RulesAt.below {w w' : World} {B : Nat} {a : Option Addr} {rs : List RuleT} (h : RulesAt w a rs) (hb : Below B w w') (hB : w.heap.size ≤ B) : RulesAt w' a rs := by
  refine ⟨h.1, fun i hi => ?_⟩
  obtain ⟨h1, h2, b, off, e, hlt, c1, c2⟩ := h.2 i hi
  refine ⟨h1, h2, b, off, e, Nat.lt_of_lt_of_le hlt hb.size, ?_, ?_⟩
  · rw [hb.cell (p := ⟨b, _, none⟩) (Nat.lt_of_lt_of_le hlt hB), c1]
  · rw [hb.cell (p := ⟨b, _, none⟩) (Nat.lt_of_lt_of_le hlt hB), c2]
theorem RulesAt.take {w : World} {a : Option Addr} {rs : List RuleT} (h : RulesAt w a rs) (k : Nat) : RulesAt w a (rs.take k) := by
  refine ⟨by have := h.1; simp; omega, fun i hi => ?_⟩
  have hi' : i < rs.length := by simp at hi; omega
  have := h.2 i hi'
  simpa using this
def eqR (x y : RuleT) : Bool := x.1.toList == y.1.toList && x.2.toList == y.2.toList
theorem eqR_comm (x y : RuleT) : eqR x y = eqR y x := by
  unfold eqR
  rw [Bool.eq_iff_iff]
  simp only [Bool.and_eq_true, beq_iff_eq]
  exact ⟨fun h => ⟨h.1.symm, h.2.symm⟩, fun h => ⟨h.1.symm, h.2.symm⟩⟩
def idxR (rs : List RuleT) (x : RuleT) : Int := match rs.findIdx? (fun y => eqR y x) with
  | some i => (i : Int)
  | none => -1
theorem idxR_some (rs : List RuleT) (x : RuleT) (k : Nat) (hk : k < rs.length) (hn : ∀ j (h : j < rs.length), j < k → eqR rs[j] x = false) (h : eqR rs[k] x = true) : idxR rs x = k := by
  unfold idxR
  rw [(List.findIdx?_eq_some_iff_getElem (p := fun y => eqR y x) (i := k)).2 ⟨hk, h, fun j hj => by simpa using hn j (by omega) hj⟩]
theorem idxR_none (rs : List RuleT) (x : RuleT) (hn : ∀ j (h : j < rs.length), eqR rs[j] x = false) : idxR rs x = -1 := by
  unfold idxR
  rw [List.findIdx?_eq_none_iff.2]
  intro y hy
  obtain ⟨j, hj, rfl⟩ := List.getElem_of_mem hy
  simpa using hn j hj
theorem equalIn_rule (a b c d : ByteArray) (w : World) : (Op.equalIn 10000 159 (.agg #[.string a, .string b]) (.agg #[.string c, .string d])).run Tryd.prog w = .ok (eqR (a, b) (c, d)) w := by
  have u3 := Tryd.underlying9
  have a3 := Tryd.isAgg9
  have z3 := Tryd.sizeOf9
  have hS : Tryd.prog.underlying 159 = some (.struct (Tryd.prog.fieldsOf 159)) := by kernel_rfl
  have hp : Tryd.prog.stoodInHeld 159 = false := by kernel_rfl
  rw [show (10000 : Nat) = 9999 + 1 from rfl, run_equalIn_agg w 9999 159 _ _ hS hp]
  simp only [Program.fieldsOf, Tryd.underlying159]
  go_simp
  by_cases h1 : a.toList = c.toList <;> by_cases h2 : b.toList = d.toList <;> simp [h1, h2, eqR]
theorem eqGuard_rule (op : BinOp) (x y : Operand) (xs ys : Array Value) (w : World) : (eqGuard op 159 x y (.agg xs) (.agg ys)).run Tryd.prog w = .ok () w :=
  run_eqGuard_agg w op 159 x y xs ys (by kernel_rfl)

theorem run_eql_rule (a b c d : ByteArray) (w : World) : Sem.run Tryd.prog (binOp .eql 159 (.agg #[.string a, .string b]) (.agg #[.string c, .string d])) w = .ok (.bool (eqR (a, b) (c, d))) w := by
  rw [run_eql_struct, equalIn_rule]; rfl

theorem below_box (w : World) (o : Obj) (n : Nat) : Below w.heap.size w ((w.alloc o).drewN n) :=
  ((Below.refl _ _).alloc (Nat.le_refl _) _).trans ⟨rfl, rfl, rfl, by simp, fun _ _ => rfl⟩
theorem idx_step {rs : List RuleT} {x : RuleT} {k : Nat} (hn : ∀ j (h : j < rs.length), j < k → eqR rs[j] x = false) (hlt : k < rs.length) (he : eqR rs[k] x = false) : ∀ j (h : j < rs.length), j < k + 1 → eqR rs[j] x = false := by
  intro j h hj
  by_cases e : j = k
  · subst e; exact he
  · exact hn j h (by omega)

set_option maxHeartbeats 400000 in
theorem index_any (a : Option Addr) (cap : Nat) (rs : List RuleT) (l r : ByteArray) (w : World) (H : RulesAt w a rs) :
    Calls Tryd.prog 124 #[.slice a rs.length cap, .agg #[.string l, .string r]] w fun e w' => e = .returned (.int .i64 (idxR rs (l, r))) ∧ Below w.heap.size w w' := by
  have hn := H.1
  unfold maxLen at hn
  have heq := run_eql_rule
  have hgd := eqGuard_rule
  go_enter Tryd.func124, Tryd.ntmps124
  go_wp2
  go_loopw [8] (fun i wr => ∃ k : Nat, k ≤ rs.length ∧ i = .int .i64 k ∧ Hid (∀ j (h : j < rs.length), j < k → eqR rs[j] (l, r) = false) ∧ ∃ n, wr = (w.alloc (.cells #[.string l, .string r] 159)).drewN n) (fun i _ => rs.length - (intOf i).toNat)
  case atStart => exact ⟨0, Nat.zero_le _, rfl, fun j _ h => by omega, 0, rfl⟩
  case round =>
    obtain ⟨k, hk, rfl, HN, n, rfl⟩ := hrel
    by_cases hlt : k < rs.length
    · obtain ⟨h1, h2, b, off, e, hb, c1, c2⟩ := H.2 k hlt
      subst e
      go_wp2
      go_quiet (fail)
      go_wp2
      · have he : eqR (l, r) (rs[k].fst, rs[k].snd) = true := by assumption
        go_ret
        refine ⟨?_, ?_⟩
        · rw [idxR_some rs (l, r) k hlt HN.out (by rw [eqR_comm]; exact he)]; rfl
        · rw [World.drewN_drewN]; exact below_box _ _ _
      · have he : eqR (l, r) (rs[k].fst, rs[k].snd) = false := by assumption
        have HE : Hid (eqR rs[k] (l, r) = false) := by rw [eqR_comm] at he; exact he
        clear he
        go_roundw
        case rel => exact ⟨k + 1, by omega, by go_num, idx_step HN.out hlt HE.out, _, rfl⟩
        case measure => simp [intOf]; omega
    · go_wp2
      go_ret
      refine ⟨?_, ?_⟩
      · rw [idxR_none rs (l, r) (fun j hj => HN.out j hj (by omega))]; rfl
      · exact below_box _ _ _

set_option maxHeartbeats 400000 in
theorem l1Place_any (a : Option Addr) (cap : Nat) (rs : List RuleT) (l r : ByteArray) (w : World) (H : RulesAt w a rs) :
    Calls Tryd.prog 105 #[.slice a rs.length cap, .agg #[.string l, .string r]] w fun e w' => e = .returned (.int .i64 (idxR rs (l, r))) ∧ Below w.heap.size w w' := by
  have hn := H.1
  unfold maxLen at hn
  have heq := run_eql_rule
  have hgd := eqGuard_rule
  go_enter Tryd.func105, Tryd.ntmps105
  go_wp2
  go_loopw [5] (fun i wr => ∃ k : Nat, k ≤ rs.length ∧ i = .int .i64 k ∧ Hid (∀ j (h : j < rs.length), j < k → eqR rs[j] (l, r) = false) ∧ ∃ n, wr = (w.alloc (.cells #[.string l, .string r] 159)).drewN n) (fun i _ => rs.length - (intOf i).toNat)
  case atStart => exact ⟨0, Nat.zero_le _, rfl, fun j _ h => by omega, 0, rfl⟩
  case round =>
    obtain ⟨k, hk, rfl, HN, n, rfl⟩ := hrel
    by_cases hlt : k < rs.length
    · obtain ⟨h1, h2, b, off, e, hb, c1, c2⟩ := H.2 k hlt
      subst e
      go_wp2
      go_quiet (fail)
      go_wp2
      · have he : eqR (rs[k].fst, rs[k].snd) (l, r) = true := by assumption
        go_ret
        refine ⟨?_, ?_⟩
        · rw [idxR_some rs (l, r) k hlt HN.out he]; rfl
        · rw [World.drewN_drewN]; exact below_box _ _ _
      · have HE : Hid (eqR rs[k] (l, r) = false) := by have he : eqR (rs[k].fst, rs[k].snd) (l, r) = false := by assumption
                                                       exact he
        go_roundw
        case rel => exact ⟨k + 1, by omega, by go_num, idx_step HN.out hlt HE.out, _, rfl⟩
        case measure => simp [intOf]; omega
    · go_wp2
      go_ret
      refine ⟨?_, ?_⟩
      · rw [idxR_none rs (l, r) (fun j hj => HN.out j hj (by omega))]; rfl
      · exact below_box _ _ _

theorem contains_any (a : Option Addr) (cap : Nat) (rs : List RuleT) (l r : ByteArray) (w : World) (H : RulesAt w a rs) :
    Calls Tryd.prog 107 #[.slice a rs.length cap, .agg #[.string l, .string r]] w fun e w' => e = .returned (.bool (decide (0 ≤ idxR rs (l, r)))) ∧ Below w.heap.size w w' := by
  go_enter Tryd.func107, Tryd.ntmps107
  go_wp2_with fail
  refine (index_any a cap rs l r _ (H.below ((Below.refl w.heap.size w).alloc (Nat.le_refl _) _) (Nat.le_refl _))).mono ?_
  rintro e w' ⟨rfl, hb⟩
  go_wp2
  go_ret
  exact ⟨rfl, ((Below.refl w.heap.size w).alloc (Nat.le_refl _) _).trans (hb.mono (by simp))⟩
theorem contains_take (a : Option Addr) (cap : Nat) (rs : List RuleT) (k : Nat) (hk : k ≤ rs.length) (l r : ByteArray) (w : World) (H : RulesAt w a rs) :
    Calls Tryd.prog 107 #[.slice a k cap, .agg #[.string l, .string r]] w fun e w' => e = .returned (.bool (decide (0 ≤ idxR (rs.take k) (l, r)))) ∧ Below w.heap.size w w' := by
  have h := contains_any a cap (rs.take k) l r w (H.take k)
  rwa [List.length_take, Nat.min_eq_left hk] at h
theorem l1Place_take (a : Option Addr) (cap : Nat) (rs : List RuleT) (k : Nat) (hk : k ≤ rs.length) (l r : ByteArray) (w : World) (H : RulesAt w a rs) :
    Calls Tryd.prog 105 #[.slice a k cap, .agg #[.string l, .string r]] w fun e w' => e = .returned (.int .i64 (idxR (rs.take k) (l, r))) ∧ Below w.heap.size w w' := by
  have h := l1Place_any a cap (rs.take k) l r w (H.take k)
  rwa [List.length_take, Nat.min_eq_left hk] at h
end Go.Proofs.YtpkejcjjbkgomaaDoor
