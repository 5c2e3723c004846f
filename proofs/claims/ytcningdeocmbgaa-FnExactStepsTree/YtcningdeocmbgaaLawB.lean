/- Contracts of the exact laws' helpers that make copies: toRule, toRuleS, toGram. -/
import Derived.Test.YtcningdeocmbgaaLawA
import Derived.Deep.OwnRows
namespace Go.Proofs.Ytcningdeocmbgaa
open Go.ChangeShapes Go.WideShapes Go.ChangeAt Go.RowKit
theorem toRule_any (l r : ByteArray) (w : World) :
    Calls Try.prog 52 #[.agg #[.string l, .string r]] w fun e w' => e = .returned (.agg #[.string l, .string r]) ∧ Below w.heap.size w w' := by
  go_enter Try.func52, Try.ntmps52
  go_wp2
  exact bodyPost_ret (v := .agg #[.string l, .string r]) (by simp [results, Try.results52, go_sem]) rfl ⟨rfl, (((Below.refl _ _).alloc (Nat.le_refl _) _).alloc (by simp) _).alloc (by simp; omega) _⟩

theorem run_make_rules (n : Nat) (hn : n ≤ 1048576) (w : World) : (Instr.makeSlice 33 (.int .i64 (n : Int)) (.int .i64 (n : Int))).run Try.prog w = .ok (.slice (some ⟨w.heap.size, 0, none⟩) n n) (w.alloc (.cells (madeCells #[.string ByteArray.empty, .string ByteArray.empty] (n * 2)) 84)) := by
  have hinfo : (Try.prog.info? 84).map (fun i => (i.zero, i.size, i.bytes)) = some (some (.agg #[.string ByteArray.empty, .string ByteArray.empty]), 2, 32) := by kernel_rfl
  obtain ⟨i, hi, hzz⟩ := Option.map_eq_some_iff.1 hinfo
  simp only [Prod.mk.injEq] at hzz
  obtain ⟨hz, hs, hb⟩ := hzz
  have hr := run_make (P := Try.prog) w 33 84 i _ Try.underlying33 hi hz .i64 .i64 n n (by omega) (Int.le_refl _) (by rw [hb]; omega) (by omega)
  rw [hs] at hr
  simpa [Value.cells] using hr
theorem made_at (n i : Nat) (h : i < n) : (madeCells #[.string ByteArray.empty, .string ByteArray.empty] n)[i]? = some (.string ByteArray.empty) := by
  have : i % 2 = 0 ∨ i % 2 = 1 := by omega
  rcases this with e | e <;> simp [madeCells, h, e]

/-- the cells of a slice of rules, one behind the other -/
def ruleCells (rs : List RuleT) (i : Nat) : Value := match rs[i / 2]? with
  | some r => .string (if i % 2 = 0 then r.1 else r.2)
  | none => .string ByteArray.empty
def partCells (rs : List RuleT) (k i : Nat) : Value := if i < 2 * k then ruleCells rs i else .string ByteArray.empty
theorem ruleCells_even (rs : List RuleT) (i : Nat) (h : i < rs.length) : ruleCells rs (i * 2) = .string rs[i].1 := by
  unfold ruleCells
  rw [show i * 2 / 2 = i from by omega, List.getElem?_eq_getElem h]
  simp
theorem ruleCells_odd (rs : List RuleT) (i : Nat) (h : i < rs.length) : ruleCells rs (i * 2 + 1) = .string rs[i].2 := by
  unfold ruleCells
  rw [show (i * 2 + 1) / 2 = i from by omega, List.getElem?_eq_getElem h]
  simp [show (i * 2 + 1) % 2 = 1 from by omega]
/-- every string is of a length that fits -/
def Fits (rs : List RuleT) : Prop := rs.length ≤ maxLen ∧ ∀ i (h : i < rs.length), rs[i].1.size ≤ maxLen ∧ rs[i].2.size ≤ maxLen
theorem RulesAt.fits {w : World} {a : Option Addr} {rs : List RuleT} (h : RulesAt w a rs) : Fits rs := ⟨h.1, fun i hi => ⟨(h.2 i hi).1, (h.2 i hi).2.1⟩⟩
theorem rulesAt_of_row {w : World} {b : Nat} {T : TypeId} {rs : List RuleT} (h : w.rowIs b T (rs.length * 2) (ruleCells rs)) (hf : Fits rs) : RulesAt w (some ⟨b, 0, none⟩) rs := by
  refine ⟨hf.1, fun i hi => ⟨(hf.2 i hi).1, (hf.2 i hi).2, b, 0, rfl, h.lt, ?_, ?_⟩⟩
  · rw [Nat.zero_add, h.cell (by omega), ruleCells_even rs i hi]
  · rw [Nat.zero_add, h.cell (by omega), ruleCells_odd rs i hi]
/-- a new slice with just these rules, in memory of its own -/
def FreshRules (rs : List RuleT) (w : World) (v : Value) (w' : World) : Prop := ∃ b, v = .slice (some ⟨b, 0, none⟩) rs.length rs.length ∧ w.heap.size ≤ b ∧ w'.rowIs b 84 (rs.length * 2) (ruleCells rs) ∧ Below w.heap.size w w'
def FreshRulesE (rs : List RuleT) (w : World) (e : Ending) (w' : World) : Prop := ∃ v, e = .returned v ∧ FreshRules rs w v w'

set_option maxHeartbeats 400000 in
theorem toRuleS_any (a : Option Addr) (cap : Nat) (rs : List RuleT) (w : World) (H : RulesAt w a rs) (hn : rs.length ≤ 1048576) :
    Calls Try.prog 29 #[.slice a rs.length cap] w (FreshRulesE rs w) := by
  have hmk := run_make_rules rs.length hn
  go_enter Try.func29, Try.ntmps29
  go_wp2
  clear hmk
  go_loopw [4] (fun i wr => ∃ k : Nat, k ≤ rs.length ∧ i = .int .i64 k ∧ wr.rowIs w.heap.size 84 (rs.length * 2) (partCells rs k) ∧ Below w.heap.size w wr) (fun i _ => rs.length - (intOf i).toNat)
  case atStart =>
    refine ⟨0, Nat.zero_le _, rfl, ?_, (Below.refl _ _).alloc (Nat.le_refl _) _⟩
    have hr := World.rowIs_alloc w (madeCells #[.string ByteArray.empty, .string ByteArray.empty] (rs.length * 2)) 84 (partCells rs 0) (fun i hi => by rw [made_at _ _ (by rwa [size_madeCells] at hi)]; simp [partCells])
    rwa [size_madeCells] at hr
  case round =>
    obtain ⟨k, hk, rfl, hrow, hb⟩ := hrel
    by_cases hlt : k < rs.length
    · obtain ⟨z1, z2, b, off, e, hbb, c1, c2⟩ := H.2 k hlt
      subst e
      have d1 : wr.cell? ⟨b, off + k * 2, none⟩ = some (.string rs[k].1) := by rw [hb.cell (p := ⟨b, _, none⟩) hbb, c1]
      have d2 : wr.cell? ⟨b, off + k * 2 + 1, none⟩ = some (.string rs[k].2) := by rw [hb.cell (p := ⟨b, _, none⟩) hbb, c2]
      go_wp2_with fail
      refine (toRule_any _ _ _).mono ?_
      rintro e w' ⟨rfl, hb'⟩
      have hrow' := hrow.of_block (hb'.block _ hrow.lt)
      have e0 := hrow'.cell (i := k * 2) (by omega)
      have e1 := hrow'.cell (i := k * 2 + 1) (by omega)
      have f0 := hrow'.frozen (k * 2)
      have f1 := hrow'.frozen (k * 2 + 1)
      go_wp2
      go_roundw
      case rel =>
        refine ⟨k + 1, by omega, by go_num, ((hrow'.set _ _).set _ _).congr (fun i hi => ?_), ((hb.trans (hb'.mono hb.size)).setCell (Nat.le_refl _) _).setCell (Nat.le_refl _) _⟩
        unfold partCells
        by_cases i1 : i = k * 2 + 1
        · subst i1; rw [if_pos rfl, if_pos (by omega), ruleCells_odd rs k hlt]
        · rw [if_neg i1]
          by_cases i0 : i = k * 2
          · subst i0; rw [if_pos rfl, if_pos (by omega), ruleCells_even rs k hlt]
          · rw [if_neg i0]
            by_cases i2 : i < 2 * k
            · rw [if_pos i2, if_pos (by omega)]
            · rw [if_neg i2, if_neg (by omega)]
      case measure => simp [intOf]; omega
    · go_wp2
      go_ret
      exact ⟨_, rfl, w.heap.size, rfl, Nat.le_refl _, hrow.congr (fun i hi => by unfold partCells; rw [if_pos (by omega)]), hb⟩

theorem blk_new (w : World) (o : Obj) {k : Nat} (h : k = w.heap.size) : (w.alloc o).heap[k]? = some o := by subst h; exact Deep.blk_alloc_new _ _
theorem blk_old (w : World) (o : Obj) {k : Nat} (h : k < w.heap.size) : (w.alloc o).heap[k]? = w.heap[k]? := Deep.blk_alloc_lt _ _ _ h
theorem cell_of_block {w : World} {b : Nat} {c : Array Value} {T : TypeId} (h : w.heap[b]? = some (.cells c T)) (i : Nat) : w.cell? ⟨b, i, none⟩ = c[i]? := by simp [World.cell?, h]
theorem frozen_of_block {w : World} {b : Nat} {c : Array Value} {T : TypeId} (h : w.heap[b]? = some (.cells c T)) (i : Nat) : w.frozen? ⟨b, i, none⟩ = false := by simp [World.frozen?, h]
def FreshGram (st : ByteArray) (rs : List RuleT) (w : World) (e : Ending) (w' : World) : Prop := ∃ v, e = .returned (.agg #[.string st, v]) ∧ FreshRules rs w v w'
theorem toGram_any (st : ByteArray) (a : Option Addr) (cap : Nat) (rs : List RuleT) (w : World) (H : RulesAt w a rs) (hn : rs.length ≤ 1048576) :
    Calls Try.prog 8 #[.agg #[.string st, .slice a rs.length cap]] w (FreshGram st rs w) := by
  have hbw := (((Below.refl w.heap.size w).alloc (Nat.le_refl _) (.cells #[.string st, .slice a rs.length cap] 24)).alloc (by simp) (.cells #[.string ByteArray.empty, .slice none 0 0] 35)).alloc (by simp; omega) (.cells #[.string st, .slice none 0 0] 35)
  go_enter Try.func8, Try.ntmps8
  go_wp2_with fail
  refine (toRuleS_any _ _ rs _ (H.below hbw (Nat.le_refl _)) hn).mono ?_
  rintro e w' ⟨v, rfl, b, rfl, hb1, hrow, hb⟩
  have s1 : w'.heap[w.heap.size + 1]? = some (.cells #[.string ByteArray.empty, .slice none 0 0] 35) := by
    rw [hb.block _ (by simp), blk_old _ _ (by simp), blk_new _ _ (by simp)]
  have s2 : w'.heap[w.heap.size + 1 + 1]? = some (.cells #[.string st, .slice none 0 0] 35) := by
    rw [hb.block _ (by simp), blk_new _ _ (by simp)]
  simp at hb1
  have a0 := cell_of_block s1 0
  have a1 := cell_of_block s1 1
  have b0 := cell_of_block s2 0
  have b1 := cell_of_block s2 1
  have fa0 := frozen_of_block s1 0
  have fa1 := frozen_of_block s1 1
  have fb1 := frozen_of_block s2 1
  simp at a0 a1 b0 b1
  clear s1 s2
  go_wp2
  refine bodyPost_ret (v := .agg #[.string st, .slice (some ⟨b, 0, none⟩) rs.length rs.length]) (by simp [results, Try.results8, go_sem, a0, a1]) rfl ⟨_, rfl, b, rfl, by omega, ?_, ?_⟩
  · exact ((hrow.setOther (by show b ≠ w.heap.size + 1 + 1; omega) _).setOther (by show b ≠ w.heap.size + 1; omega) _).setOther (by show b ≠ w.heap.size + 1; omega) _
  · exact (((hbw.trans (hb.mono (by simp; omega))).setCell (by show w.heap.size ≤ w.heap.size + 1 + 1; omega) _).setCell (by show w.heap.size ≤ w.heap.size + 1; omega) _).setCell (by show w.heap.size ≤ w.heap.size + 1; omega) _
end Go.Proofs.Ytcningdeocmbgaa
