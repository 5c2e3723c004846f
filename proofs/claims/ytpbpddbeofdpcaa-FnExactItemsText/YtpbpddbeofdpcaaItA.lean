/- Items: ruleAt, itemOk, ItemOk, afterDot, ItemNext of the program; l5Right, l5Ahead, l5Item, ItemOk, l5Next, ItemNext of the model. -/
import Derived.Test.YtpbpddbeofdpcaaLawB
import Derived.Test.YtpbpddbeofdpcaaBox
namespace Go.Proofs.Ytpbpddbeofdpcaa
open Go.ChangeShapes Go.WideShapes Go.ChangeAt Go.RowKit
set_option maxRecDepth 100000
def leftI (rs : List RuleT) (r : Int) : ByteArray := if r < 0 then ⟨#[46]⟩ else match rs[r.toNat]? with
  | some x => x.1
  | none => ByteArray.empty
def rightI (st : ByteArray) (rs : List RuleT) (r : Int) : ByteArray := if r < 0 then st else match rs[r.toNat]? with
  | some x => x.2
  | none => ByteArray.empty
def endS (s : ByteArray) : Bool := s.toList == [36]
def aheadB (s : ByteArray) : Bool := endS s || isSmallS s
def itemB (st : ByteArray) (rs : List RuleT) (r d : Int) (s : ByteArray) : Bool := decide (-1 ≤ r) && (decide (r < (rs.length : Int)) && (decide (0 ≤ d) && (decide (d ≤ ((rightI st rs r).size : Int)) && (aheadB s && (decide (0 ≤ r) || endS s)))))
theorem rightI_at (st : ByteArray) (rs : List RuleT) (k : Nat) (h : k < rs.length) : rightI st rs (k : Int) = rs[k].2 := by
  unfold rightI
  rw [if_neg (by omega), Int.toNat_natCast, List.getElem?_eq_getElem h]
theorem leftI_at (rs : List RuleT) (k : Nat) (h : k < rs.length) : leftI rs (k : Int) = rs[k].1 := by
  unfold leftI
  rw [if_neg (by omega), Int.toNat_natCast, List.getElem?_eq_getElem h]
theorem rightI_le {w : World} {a : Option Addr} {st : ByteArray} {rs : List RuleT} (H : RulesAt w a rs) (hs : st.size ≤ maxLen) (r : Int) : (rightI st rs r).size ≤ maxLen := by
  unfold rightI
  split
  · exact hs
  · by_cases h : r.toNat < rs.length
    · rw [List.getElem?_eq_getElem h]; exact (H.2 _ h).2.1
    · rw [List.getElem?_eq_none (by omega)]; exact Nat.zero_le _

set_option maxHeartbeats 400000 in
theorem ruleAt_any (st : ByteArray) (a : Option Addr) (cap : Nat) (rs : List RuleT) (r : Int) (w : World) (H : RulesAt w a rs) (h0 : -1 ≤ r) (h1 : r < (rs.length : Int)) :
    Calls Try.prog 36 #[.agg #[.string st, .slice a rs.length cap], .int .i64 r] w fun e w' => e = .returned (.agg #[.string (leftI rs r), .string (rightI st rs r)]) ∧ Below w.heap.size w w' := by
  have hbw := ((Below.refl w.heap.size w).alloc (Nat.le_refl _) (.cells #[.string st, .slice a rs.length cap] 32)).alloc (by simp) (.cells #[.string ⟨#[]⟩, .string ⟨#[]⟩] 58)
  by_cases hr : r = -1
  · subst hr
    go_enter Try.func36, Try.ntmps36
    go_wp2
    refine bodyPost_ret (v := .agg #[.string (leftI rs (-1)), .string (rightI st rs (-1))]) (by simp [results, Try.results36, go_sem, leftI, rightI]) rfl ⟨rfl, ?_⟩
    exact ((Below.refl _ _).alloc (Nat.le_refl _) _).alloc (by simp) _
  · obtain ⟨k, rfl⟩ : ∃ k : Nat, r = k := ⟨r.toNat, by omega⟩
    have hk : k < rs.length := by omega
    obtain ⟨z1, z2, b, off, e, hbb, c1, c2⟩ := H.2 k hk
    subst e
    rw [leftI_at rs k hk, rightI_at st rs k hk]
    have hne : ((k : Int) == -1) = false := by rw [beq_eq_false_iff_ne]; omega
    go_enter Try.func36, Try.ntmps36
    go_wp2
    refine bodyPost_ret (v := .agg #[.string rs[k].1, .string rs[k].2]) (by simp [results, Try.results36, go_sem]) rfl ⟨rfl, ?_⟩
    exact ((Below.refl _ _).alloc (Nat.le_refl _) _).alloc (by simp) _

set_option maxHeartbeats 400000 in
theorem l5Right_any (st : ByteArray) (a : Option Addr) (cap : Nat) (rs : List RuleT) (r : Int) (w : World) (H : RulesAt w a rs) (h1 : r < (rs.length : Int)) :
    Calls Try.prog 35 #[.agg #[.string st, .slice a rs.length cap], .int .i64 r] w fun e w' => e = .returned (.string (rightI st rs r)) ∧ Below w.heap.size w w' := by
  have hbw := (Below.refl w.heap.size w).alloc (Nat.le_refl _) (.cells #[.string st, .slice a rs.length cap] 32)
  by_cases hr : r < 0
  · rw [show rightI st rs r = st from by unfold rightI; rw [if_pos hr]]
    go_enter Try.func35, Try.ntmps35
    go_wp2
    go_ret
    exact ⟨rfl, hbw⟩
  · obtain ⟨k, rfl⟩ : ∃ k : Nat, r = k := ⟨r.toNat, by omega⟩
    have hk : k < rs.length := by omega
    obtain ⟨z1, z2, b, off, e, hbb, c1, c2⟩ := H.2 k hk
    subst e
    rw [rightI_at st rs k hk]
    go_enter Try.func35, Try.ntmps35
    go_wp2
    go_ret
    exact ⟨rfl, hbw⟩

theorem l5Ahead_any (s : ByteArray) (w : World) :
    Calls Try.prog 43 #[.string s] w fun e w' => e = .returned (.bool (aheadB s)) ∧ w = w' := by
  cases hE : (s.toList == [36])
  all_goals
    have HE : Hid (aheadB s = (s.toList == [36] || isSmallS s)) := rfl
    go_enter Try.func43, Try.ntmps43
    go_wp2_with (go_at_call 55; refine (sSignSmall_any _ _).mono ?_; rintro e w' ⟨rfl, rfl⟩)
    go_ret
    exact ⟨ret_bool (by rw [HE.out, hE]; simp), rfl⟩

theorem run_field_right (l r : ByteArray) (w : World) : Sem.run Try.prog (Instr.field 58 (.agg #[.string l, .string r]) 1) w = .ok (.string r) w := by
  have a3 := Try.isAgg9
  have z3 := Try.sizeOf9
  simp [Instr.field, go_sem, asAgg, a3, z3]
theorem itemB_hi {st : ByteArray} {rs : List RuleT} {r d : Int} {s : ByteArray} (h0 : -1 ≤ r) (h1 : r < (rs.length : Int)) (h2 : 0 ≤ d) (h3 : d ≤ ((rightI st rs r).size : Int)) : itemB st rs r d s = (aheadB s && (decide (0 ≤ r) || endS s)) := by
  unfold itemB; simp [h0, h1, h2, h3]
theorem itemB_lo {st : ByteArray} {rs : List RuleT} {r d : Int} {s : ByteArray} (h : ¬ (-1 ≤ r ∧ r < (rs.length : Int) ∧ 0 ≤ d ∧ d ≤ ((rightI st rs r).size : Int))) : itemB st rs r d s = false := by
  unfold itemB
  cases h0 : decide (-1 ≤ r)
  · simp
  cases h1 : decide (r < (rs.length : Int))
  · simp
  cases h2 : decide (0 ≤ d)
  · simp
  cases h3 : decide (d ≤ ((rightI st rs r).size : Int))
  · simp
  exfalso
  simp only [decide_eq_true_eq] at h0 h1 h2 h3
  exact h ⟨h0, h1, h2, h3⟩

set_option maxHeartbeats 1000000 in
theorem itemOk_any (st : ByteArray) (a : Option Addr) (cap : Nat) (rs : List RuleT) (r d : Int) (s : ByteArray) (w : World) (H : RulesAt w a rs) (hs : st.size ≤ maxLen) :
    Calls Try.prog 28 #[.agg #[.string st, .slice a rs.length cap], .agg #[.int .i64 r, .int .i64 d, .string s]] w fun e w' => e = .returned (.bool (itemB st rs r d s)) ∧ Below w.heap.size w w' := by
  have hbw := ((Below.refl w.heap.size w).alloc (Nat.le_refl _) (.cells #[.string st, .slice a rs.length cap] 32)).alloc (by simp) (.cells #[.int .i64 r, .int .i64 d, .string s] 34)
  have hn := H.1
  have hm := rightI_le H hs r
  unfold maxLen at hn hm
  by_cases c1 : r < -1
  · have HI := Lib.hid (itemB_lo (st := st) (rs := rs) (r := r) (d := d) (s := s) (by omega))
    go_enter Try.func28, Try.ntmps28
    go_wp2
    go_ret
    exact ⟨ret_bool HI.out.symm, hbw⟩
  by_cases c2 : (rs.length : Int) ≤ r
  · have HI := Lib.hid (itemB_lo (st := st) (rs := rs) (r := r) (d := d) (s := s) (by omega))
    go_enter Try.func28, Try.ntmps28
    go_wp2
    go_ret
    exact ⟨ret_bool HI.out.symm, hbw⟩
  have h0 : -1 ≤ r := by omega
  have h1 : r < (rs.length : Int) := by omega
  have z := ((Box2.new w (.string st) (.slice a rs.length cap) 32).old (.cells #[.int .i64 r, .int .i64 d, .string s] 34))
  generalize hw1 : (w.alloc (.cells #[.string st, .slice a rs.length cap] 32)).alloc (.cells #[.int .i64 r, .int .i64 d, .string s] 34) = w1 at hbw z
  have x0 : w1.cell? ⟨w.heap.size + 1, 0, none⟩ = some (.int .i64 r) := by subst hw1; simp
  have x1 : w1.cell? ⟨w.heap.size + 1, 1, none⟩ = some (.int .i64 d) := by subst hw1; simp
  have x2 : w1.cell? ⟨w.heap.size + 1, 2, none⟩ = some (.string s) := by subst hw1; simp
  have y0 := z.2.1
  have y1 := z.2.2
  have hsz : w.heap.size + 1 < w1.heap.size := by subst hw1; simp
  have HG : ∀ x, RulesAt (grow w1 x) a rs := fun x => H.below (hbw.trans ((below_grow _ _).mono (by omega))) (Nat.le_refl _)
  have g0 : ∀ x, (grow w1 x).cell? ⟨w.heap.size + 1, 0, none⟩ = some (.int .i64 r) := fun x => by rw [grow_cell _ _ _ _ (by omega), x0]
  have g1 : ∀ x, (grow w1 x).cell? ⟨w.heap.size + 1, 1, none⟩ = some (.int .i64 d) := fun x => by rw [grow_cell _ _ _ _ (by omega), x1]
  have g2 : ∀ x, (grow w1 x).cell? ⟨w.heap.size + 1, 2, none⟩ = some (.string s) := fun x => by rw [grow_cell _ _ _ _ (by omega), x2]
  have g3 : ∀ x, (grow w1 x).cell? ⟨w.heap.size, 0, none⟩ = some (.string st) := fun x => by rw [grow_cell _ _ _ _ (by omega), y0]
  have g4 : ∀ x, (grow w1 x).cell? ⟨w.heap.size, 1, none⟩ = some (.slice a rs.length cap) := fun x => by rw [grow_cell _ _ _ _ (by omega), y1]
  by_cases c3 : d < 0
  · have HI := Lib.hid (itemB_lo (st := st) (rs := rs) (r := r) (d := d) (s := s) (by omega))
    have hd : decide (d < 0) = true := by simpa using c3
    go_enter Try.func28, Try.ntmps28
    go_wp2
    refine wp_region_grow (by kernel_rfl) (by kernel_rfl) ?_
    repeat (go_big_quiet_step (fail))
    refine wpQuiet_nil ?_
    rintro _ ⟨x, rfl⟩
    go_wp2
    go_ret
    exact ⟨ret_bool HI.out.symm, hbw.trans ((below_grow _ _).mono (by omega))⟩
  have hd : decide (d < 0) = false := by simpa using c3
  by_cases c4 : ((rightI st rs r).size : Int) < d
  · have HI := Lib.hid (itemB_lo (st := st) (rs := rs) (r := r) (d := d) (s := s) (by omega))
    have hd2 : decide (((rightI st rs r).size : Int) < d) = true := by simpa using c4
    have HR : ∀ x, Calls Try.prog 36 #[.agg #[.string st, .slice a rs.length cap], .int .i64 r] (grow w1 x) fun e w'' => e = .returned (.agg #[.string (leftI rs r), .string (rightI st rs r)]) ∧ ∃ y, w'' = grow w1 y :=
      fun x => Calls.grow_of (ruleAt_any _ _ _ rs _ _ (HG x) h0 h1)
    generalize rightI st rs r = q at *
    generalize leftI rs r = q' at *
    have hfld := run_field_right q' q
    go_enter Try.func28, Try.ntmps28
    go_wp2
    refine wp_region_grow (by kernel_rfl) (by kernel_rfl) ?_
    repeat (go_big_quiet_step ((go_at_call 36; exact HR _)))
    refine wpQuiet_nil ?_
    rintro _ ⟨x, rfl⟩
    go_wp2
    go_ret
    exact ⟨ret_bool HI.out.symm, hbw.trans ((below_grow _ _).mono (by omega))⟩
  · have HI := Lib.hid (itemB_hi (st := st) (rs := rs) (r := r) (d := d) (s := s) (by omega) (by omega) (by omega) (by omega))
    have hd2 : decide (((rightI st rs r).size : Int) < d) = false := by simpa using c4
    have HR : ∀ x, Calls Try.prog 36 #[.agg #[.string st, .slice a rs.length cap], .int .i64 r] (grow w1 x) fun e w'' => e = .returned (.agg #[.string (leftI rs r), .string (rightI st rs r)]) ∧ ∃ y, w'' = grow w1 y :=
      fun x => Calls.grow_of (ruleAt_any _ _ _ rs _ _ (HG x) h0 h1)
    generalize rightI st rs r = q at *
    generalize leftI rs r = q' at *
    have hfld := run_field_right q' q
    go_enter Try.func28, Try.ntmps28
    go_wp2
    refine wp_region_grow (by kernel_rfl) (by kernel_rfl) ?_
    repeat (go_big_quiet_step ((go_at_call 36; exact HR _)))
    refine wpQuiet_nil ?_
    rintro _ ⟨x, rfl⟩
    have hfin : Below w.heap.size w (grow w1 x) := hbw.trans ((below_grow _ _).mono (by omega))
    cases hE : (s.toList == [36]) with
    | true =>
      go_wp2
      go_ret
      exact ⟨ret_bool (by rw [HI.out]; simp [aheadB, endS, hE]), hfin⟩
    | false =>
      by_cases hr : r = -1
      · subst hr
        go_wp2
        go_ret
        exact ⟨ret_bool (by rw [HI.out]; simp [aheadB, endS, hE]), hfin⟩
      · have hne : (r != -1) = true := by rw [bne_iff_ne]; exact hr
        have HS : Hid ((decide (0 ≤ r) || endS s) = true) := by show _ = _; simp; omega
        go_wp2_with (go_at_call 48; refine (signSmall_any _ _).mono ?_; rintro e w' ⟨rfl, rfl⟩)
        go_ret
        exact ⟨ret_bool (by rw [HI.out, HS.out]; simp [aheadB, endS, hE]), hfin⟩

set_option maxHeartbeats 1000000 in
theorem l5Item_any (st : ByteArray) (a : Option Addr) (cap : Nat) (rs : List RuleT) (r d : Int) (s : ByteArray) (w : World) (H : RulesAt w a rs) (hs : st.size ≤ maxLen) :
    Calls Try.prog 25 #[.agg #[.string st, .slice a rs.length cap], .agg #[.int .i64 r, .int .i64 d, .string s]] w fun e w' => e = .returned (.bool (itemB st rs r d s)) ∧ Below w.heap.size w w' := by
  have hbw := ((Below.refl w.heap.size w).alloc (Nat.le_refl _) (.cells #[.string st, .slice a rs.length cap] 32)).alloc (by simp) (.cells #[.int .i64 r, .int .i64 d, .string s] 34)
  have hn := H.1
  have hm := rightI_le H hs r
  unfold maxLen at hn hm
  have z := ((Box2.new w (.string st) (.slice a rs.length cap) 32).old (.cells #[.int .i64 r, .int .i64 d, .string s] 34))
  generalize hw1 : (w.alloc (.cells #[.string st, .slice a rs.length cap] 32)).alloc (.cells #[.int .i64 r, .int .i64 d, .string s] 34) = w1 at hbw z
  have x0 : w1.cell? ⟨w.heap.size + 1, 0, none⟩ = some (.int .i64 r) := by subst hw1; simp
  have x1 : w1.cell? ⟨w.heap.size + 1, 1, none⟩ = some (.int .i64 d) := by subst hw1; simp
  have x2 : w1.cell? ⟨w.heap.size + 1, 2, none⟩ = some (.string s) := by subst hw1; simp
  have y0 := z.2.1
  have y1 := z.2.2
  have hsz : w.heap.size + 1 < w1.heap.size := by subst hw1; simp
  have HG : ∀ x, RulesAt (grow w1 x) a rs := fun x => H.below (hbw.trans ((below_grow _ _).mono (by omega))) (Nat.le_refl _)
  have g0 : ∀ x, (grow w1 x).cell? ⟨w.heap.size + 1, 0, none⟩ = some (.int .i64 r) := fun x => by rw [grow_cell _ _ _ _ (by omega), x0]
  have g1 : ∀ x, (grow w1 x).cell? ⟨w.heap.size + 1, 1, none⟩ = some (.int .i64 d) := fun x => by rw [grow_cell _ _ _ _ (by omega), x1]
  have g2 : ∀ x, (grow w1 x).cell? ⟨w.heap.size + 1, 2, none⟩ = some (.string s) := fun x => by rw [grow_cell _ _ _ _ (by omega), x2]
  have g3 : ∀ x, (grow w1 x).cell? ⟨w.heap.size, 0, none⟩ = some (.string st) := fun x => by rw [grow_cell _ _ _ _ (by omega), y0]
  have g4 : ∀ x, (grow w1 x).cell? ⟨w.heap.size, 1, none⟩ = some (.slice a rs.length cap) := fun x => by rw [grow_cell _ _ _ _ (by omega), y1]
  have hfin : ∀ x, Below w.heap.size w (grow w1 x) := fun x => hbw.trans ((below_grow _ _).mono (by omega))
  by_cases c1 : -1 ≤ r
  case neg =>
    have HI := Lib.hid (itemB_lo (st := st) (rs := rs) (r := r) (d := d) (s := s) (by omega))
    have hd : decide (-1 ≤ r) = false := by simpa using c1
    go_enter Try.func25, Try.ntmps25
    go_wp2
    refine wp_region_grow (by kernel_rfl) (by kernel_rfl) ?_
    repeat (go_big_quiet_step (fail))
    refine wpQuiet_nil ?_
    rintro _ ⟨x, rfl⟩
    go_wp2
    go_ret
    exact ⟨ret_bool HI.out.symm, hfin x⟩
  have hd1 : decide (-1 ≤ r) = true := by simpa using c1
  by_cases c2 : r < (rs.length : Int)
  case neg =>
    have HI := Lib.hid (itemB_lo (st := st) (rs := rs) (r := r) (d := d) (s := s) (by omega))
    have hd : decide (r < (rs.length : Int)) = false := by simpa using c2
    go_enter Try.func25, Try.ntmps25
    go_wp2
    refine wp_region_grow (by kernel_rfl) (by kernel_rfl) ?_
    repeat (go_big_quiet_step (fail))
    refine wpQuiet_nil ?_
    rintro _ ⟨x, rfl⟩
    go_wp2
    go_ret
    exact ⟨ret_bool HI.out.symm, hfin x⟩
  have hd2 : decide (r < (rs.length : Int)) = true := by simpa using c2
  by_cases c3 : 0 ≤ d
  case neg =>
    have HI := Lib.hid (itemB_lo (st := st) (rs := rs) (r := r) (d := d) (s := s) (by omega))
    have hd : decide (0 ≤ d) = false := by simpa using c3
    go_enter Try.func25, Try.ntmps25
    go_wp2
    refine wp_region_grow (by kernel_rfl) (by kernel_rfl) ?_
    repeat (go_big_quiet_step (fail))
    refine wpQuiet_nil ?_
    rintro _ ⟨x, rfl⟩
    go_wp2
    go_ret
    exact ⟨ret_bool HI.out.symm, hfin x⟩
  have hd3 : decide (0 ≤ d) = true := by simpa using c3
  have HR : ∀ x, Calls Try.prog 35 #[.agg #[.string st, .slice a rs.length cap], .int .i64 r] (grow w1 x) fun e w'' => e = .returned (.string (rightI st rs r)) ∧ ∃ y, w'' = grow w1 y :=
    fun x => Calls.grow_of (l5Right_any _ _ _ rs _ _ (HG x) c2)
  by_cases c4 : d ≤ ((rightI st rs r).size : Int)
  case neg =>
    have HI := Lib.hid (itemB_lo (st := st) (rs := rs) (r := r) (d := d) (s := s) (by omega))
    have hd : decide (d ≤ ((rightI st rs r).size : Int)) = false := by simpa using c4
    generalize rightI st rs r = q at *
    go_enter Try.func25, Try.ntmps25
    go_wp2
    refine wp_region_grow (by kernel_rfl) (by kernel_rfl) ?_
    repeat (go_big_quiet_step ((go_at_call 35; exact HR _)))
    refine wpQuiet_nil ?_
    rintro _ ⟨x, rfl⟩
    go_wp2
    go_ret
    exact ⟨ret_bool HI.out.symm, hfin x⟩
  have hd4 : decide (d ≤ ((rightI st rs r).size : Int)) = true := by simpa using c4
  have HI := Lib.hid (itemB_hi (st := st) (rs := rs) (r := r) (d := d) (s := s) (by omega) (by omega) (by omega) (by omega))
  have HA : ∀ x, Calls Try.prog 43 #[.string s] (grow w1 x) fun e w'' => e = .returned (.bool (aheadB s)) ∧ ∃ y, w'' = grow w1 y :=
    fun x => Calls.grow_of_same (l5Ahead_any _ _)
  generalize rightI st rs r = q at *
  cases hA : aheadB s with
  | false =>
    rw [hA] at HA
    go_enter Try.func25, Try.ntmps25
    go_wp2
    refine wp_region_grow (by kernel_rfl) (by kernel_rfl) ?_
    repeat (go_big_quiet_step ((first | (go_at_call 35; exact HR _) | (go_at_call 43; exact HA _))))
    refine wpQuiet_nil ?_
    rintro _ ⟨x, rfl⟩
    go_wp2
    go_ret
    exact ⟨ret_bool (by rw [HI.out, hA]; rfl), hfin x⟩
  | true =>
    rw [hA] at HA
    by_cases c5 : 0 ≤ r
    · have hd5 : decide (0 ≤ r) = true := by simpa using c5
      go_enter Try.func25, Try.ntmps25
      go_wp2
      refine wp_region_grow (by kernel_rfl) (by kernel_rfl) ?_
      repeat (go_big_quiet_step ((first | (go_at_call 35; exact HR _) | (go_at_call 43; exact HA _))))
      refine wpQuiet_nil ?_
      rintro _ ⟨x, rfl⟩
      go_wp2
      go_ret
      exact ⟨ret_bool (by rw [HI.out, hA, hd5]; rfl), hfin x⟩
    · have hd5 : decide (0 ≤ r) = false := by simpa using c5
      cases hE : (s.toList == [36])
      all_goals
        go_enter Try.func25, Try.ntmps25
        go_wp2
        refine wp_region_grow (by kernel_rfl) (by kernel_rfl) ?_
        repeat (go_big_quiet_step ((first | (go_at_call 35; exact HR _) | (go_at_call 43; exact HA _))))
        refine wpQuiet_nil ?_
        rintro _ ⟨x, rfl⟩
        go_wp2
        go_ret
        exact ⟨ret_bool (by rw [HI.out, hA, hd5]; simp [endS, hE]), hfin x⟩
end Go.Proofs.Ytpbpddbeofdpcaa
