/- Contracts of the exact laws' helpers that make copies: toRule, toRuleS, toGram. -/
import Derived.Test.YtpkejcjjbkgomaaDoorLawA
import Derived.Deep.OwnRows
namespace Go.Proofs.YtpkejcjjbkgomaaDoor
open Go.ChangeShapes Go.WideShapes Go.ChangeAt Go.RowKit
theorem run_make_rules (n : Nat) (hn : n ≤ 1048576) (w : World) : (Instr.makeSlice 62 (.int .i64 (n : Int)) (.int .i64 (n : Int))).run Tryd.prog w = .ok (.slice (some ⟨w.heap.size, 0, none⟩) n n) (w.alloc (.cells (madeCells #[.string ByteArray.empty, .string ByteArray.empty] (n * 2)) 159)) := by
  have hinfo : (Tryd.prog.info? 159).map (fun i => (i.zero, i.size, i.bytes)) = some (some (.agg #[.string ByteArray.empty, .string ByteArray.empty]), 2, 32) := by kernel_rfl
  obtain ⟨i, hi, hzz⟩ := Option.map_eq_some_iff.1 hinfo
  simp only [Prod.mk.injEq] at hzz
  obtain ⟨hz, hs, hb⟩ := hzz
  have hr := run_make (P := Tryd.prog) w 62 159 i _ Tryd.underlying62 hi hz .i64 .i64 n n (by omega) (Int.le_refl _) (by rw [hb]; omega) (by omega)
  rw [hs] at hr
  simpa [Value.cells] using hr
theorem made_at (n i : Nat) (h : i < n) : (madeCells #[.string ByteArray.empty, .string ByteArray.empty] n)[i]? = some (.string ByteArray.empty) := by
  have : i % 2 = 0 ∨ i % 2 = 1 := by omega
  rcases this with e | e <;> simp [madeCells, h, e]

/-- the cells of a slice of rules, one behind the other -/
def ruleCells (rs : List RuleT) (i : Nat) : Value := match rs[i / 2]? with
  | some r => .string (if i % 2 = 0 then r.1 else r.2)
  | none => .string ByteArray.empty
def partCells (rs : List RuleT) (k i : Nat) : Value := if i < 2 * k then ruleCells rs i else .string ByteArray.empty
theorem ruleCells_even (rs : List RuleT) (i : Nat) (h : i < rs.length) : ruleCells rs (i * 2) = .string rs[i].1 := by
  unfold ruleCells
  rw [show i * 2 / 2 = i from by omega, List.getElem?_eq_getElem h]
  simp
theorem ruleCells_odd (rs : List RuleT) (i : Nat) (h : i < rs.length) : ruleCells rs (i * 2 + 1) = .string rs[i].2 := by
  unfold ruleCells
  rw [show (i * 2 + 1) / 2 = i from by omega, List.getElem?_eq_getElem h]
  simp [show (i * 2 + 1) % 2 = 1 from by omega]
/-- every string is of a length that fits -/
def Fits (rs : List RuleT) : Prop := rs.length ≤ maxLen ∧ ∀ i (h : i < rs.length), rs[i].1.size ≤ maxLen ∧ rs[i].2.size ≤ maxLen
theorem RulesAt.fits {w : World} {a : Option Addr} {rs : List RuleT} (h : RulesAt w a rs) : Fits rs := ⟨h.1, fun i hi => ⟨(h.2 i hi).1, (h.2 i hi).2.1⟩⟩
theorem rulesAt_of_row {w : World} {b : Nat} {T : TypeId} {rs : List RuleT} (h : w.rowIs b T (rs.length * 2) (ruleCells rs)) (hf : Fits rs) : RulesAt w (some ⟨b, 0, none⟩) rs := by
  refine ⟨hf.1, fun i hi => ⟨(hf.2 i hi).1, (hf.2 i hi).2, b, 0, rfl, h.lt, ?_, ?_⟩⟩
  · rw [Nat.zero_add, h.cell (by omega), ruleCells_even rs i hi]
  · rw [Nat.zero_add, h.cell (by omega), ruleCells_odd rs i hi]
/-- a new slice with just these rules, in memory of its own -/
def FreshRules (rs : List RuleT) (w : World) (v : Value) (w' : World) : Prop := ∃ b, v = .slice (some ⟨b, 0, none⟩) rs.length rs.length ∧ w.heap.size ≤ b ∧ w'.rowIs b 159 (rs.length * 2) (ruleCells rs) ∧ Below w.heap.size w w'
def FreshRulesE (rs : List RuleT) (w : World) (e : Ending) (w' : World) : Prop := ∃ v, e = .returned v ∧ FreshRules rs w v w'

theorem blk_new (w : World) (o : Obj) {k : Nat} (h : k = w.heap.size) : (w.alloc o).heap[k]? = some o := by subst h; exact Deep.blk_alloc_new _ _
theorem blk_old (w : World) (o : Obj) {k : Nat} (h : k < w.heap.size) : (w.alloc o).heap[k]? = w.heap[k]? := Deep.blk_alloc_lt _ _ _ h
theorem cell_of_block {w : World} {b : Nat} {c : Array Value} {T : TypeId} (h : w.heap[b]? = some (.cells c T)) (i : Nat) : w.cell? ⟨b, i, none⟩ = c[i]? := by simp [World.cell?, h]
theorem frozen_of_block {w : World} {b : Nat} {c : Array Value} {T : TypeId} (h : w.heap[b]? = some (.cells c T)) (i : Nat) : w.frozen? ⟨b, i, none⟩ = false := by simp [World.frozen?, h]
def FreshGram (st : ByteArray) (rs : List RuleT) (w : World) (e : Ending) (w' : World) : Prop := ∃ v, e = .returned (.agg #[.string st, v]) ∧ FreshRules rs w v w'
end Go.Proofs.YtpkejcjjbkgomaaDoor
