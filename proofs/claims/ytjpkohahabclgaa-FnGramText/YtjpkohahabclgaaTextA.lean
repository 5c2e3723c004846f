/- Contracts of GramText, the program's and the model's. -/
import Derived.Test.YtjpkohahabclgaaLawB
import Derived.Test.YtjpkohahabclgaaShelf
namespace Go.Proofs.Ytjpkohahabclgaa
open Go.ChangeShapes Go.WideShapes Go.ChangeAt Go.RowKit
def bytesOf (l : List UInt8) : ByteArray := ⟨l.toArray⟩
def ruleTextL (r : RuleT) : List UInt8 := r.1.data.toList ++ (62 :: (r.2.data.toList ++ [10]))
def textTo (st : ByteArray) (rs : List RuleT) (k : Nat) : List UInt8 := st.data.toList ++ (10 :: (rs.take k).flatMap ruleTextL)
def gramTextL (st : ByteArray) (rs : List RuleT) : List UInt8 := if gramOkB st rs = true then textTo st rs rs.length else []
theorem bytesOf_ext {a b : ByteArray} (h : a.data.toList = b.data.toList) : a = b := by
  obtain ⟨⟨x⟩⟩ := a; obtain ⟨⟨y⟩⟩ := b; simp at h; rw [h]
theorem textTo_zero (st : ByteArray) (rs : List RuleT) : st ++ (⟨#[10]⟩ : ByteArray) = bytesOf (textTo st rs 0) := by
  apply bytesOf_ext; simp [bytesOf, textTo]
theorem textTo_succ (st : ByteArray) (rs : List RuleT) (k : Nat) (h : k < rs.length) : textTo st rs (k + 1) = textTo st rs k ++ ruleTextL rs[k] := by
  unfold textTo
  rw [List.take_succ_eq_append_getElem h, List.flatMap_append]
  simp
theorem textTo_step (st : ByteArray) (rs : List RuleT) (k : Nat) (h : k < rs.length) : bytesOf (textTo st rs k) ++ rs[k].1 ++ (⟨#[62]⟩ : ByteArray) ++ rs[k].2 ++ (⟨#[10]⟩ : ByteArray) = bytesOf (textTo st rs (k + 1)) := by
  apply bytesOf_ext; rw [textTo_succ st rs k h]; simp [bytesOf, ruleTextL]
theorem gramOk_facts {st : ByteArray} {rs : List RuleT} (h : gramOkB st rs = true) : st.size = 1 ∧ rs.length ≤ 8 ∧ ∀ i (hi : i < rs.length), rs[i].1.size = 1 ∧ rs[i].2.size ≤ 4 := by
  unfold gramOkB at h
  simp only [Bool.and_eq_true, decide_eq_true_eq, List.all_eq_true, List.mem_range] at h
  obtain ⟨h1, h2, h3⟩ := h
  refine ⟨by simp only [isBigS, Bool.and_eq_true, decide_eq_true_eq] at h1; exact h1.1, h2, fun i hi => ?_⟩
  have h4 := h3 i hi
  rw [goodB_at hi] at h4
  simp [ruleOkB, isBigS] at h4
  exact ⟨h4.1.1.1, h4.1.2.1⟩
theorem textTo_size {st : ByteArray} {rs : List RuleT} (h : gramOkB st rs = true) : ∀ k, k ≤ rs.length → (textTo st rs k).length ≤ 2 + 7 * k := by
  obtain ⟨h1, h2, h3⟩ := gramOk_facts h
  intro k
  induction k with
  | zero => intro _; simp [textTo]; omega
  | succ k ih =>
    intro hk
    have := ih (by omega)
    rw [textTo_succ st rs k (by omega)]
    have := h3 k (by omega)
    simp [ruleTextL]
    omega
theorem bytesOf_size (l : List UInt8) : (bytesOf l).size = l.length := by simp [bytesOf, ByteArray.size]
theorem one_size (c : UInt8) : (⟨#[c]⟩ : ByteArray).size = 1 := rfl
def cat (l : List UInt8) (s : ByteArray) : List UInt8 := l ++ s.data.toList
theorem cat_len (l : List UInt8) (s : ByteArray) : (cat l s).length = l.length + s.size := by simp [cat]
theorem run_add_bytes {P : Program} (l : List UInt8) (s : ByteArray) (h : l.length + s.size ≤ 9223372036854775807) (w : World) : (Op.stringOp .add (bytesOf l) s).run P w = .ok (.string (bytesOf (cat l s))) w := by
  rw [run_string_add_sum w _ _ (by rw [bytesOf_size]; exact h), show bytesOf l ++ s = bytesOf (cat l s) from bytesOf_ext (by simp [bytesOf, cat])]
theorem textTo_cat (st : ByteArray) (rs : List RuleT) (k : Nat) (h : k < rs.length) : cat (cat (cat (cat (textTo st rs k) rs[k].1) (⟨#[62]⟩ : ByteArray)) rs[k].2) (⟨#[10]⟩ : ByteArray) = textTo st rs (k + 1) := by
  rw [textTo_succ st rs k h]; simp [cat, ruleTextL]
theorem bytesOf_self (s : ByteArray) : bytesOf s.data.toList = s := bytesOf_ext (by simp [bytesOf])
theorem ret_string {a b : ByteArray} (h : a = b) : Ending.returned (.string a) = .returned (.string b) := by rw [h]

set_option maxHeartbeats 800000 in
theorem sGramText_any (st : ByteArray) (a : Option Addr) (cap : Nat) (rs : List RuleT) (w : World) (H : RulesAt w a rs) (hcap : rs.length ≤ cap) :
    Calls Try.prog 35 #[.agg #[.string st, .slice a rs.length cap]] w fun e w' => e = .returned (.string (bytesOf (gramTextL st rs))) ∧ Below w.heap.size w w' := by
  have hbw := (Below.refl w.heap.size w).alloc (Nat.le_refl _) (.cells #[.string st, .slice a rs.length cap] 24)
  cases hok : gramOkB st rs with
  | false =>
    go_enter Try.func35, Try.ntmps35
    go_wp2_with (go_at_call 37; refine (sGramOk_any _ _ _ rs _ (H.below hbw (Nat.le_refl _)) hcap).mono ?_; rintro e w' ⟨rfl, hb'⟩)
    go_ret
    exact ⟨ret_string (by simp [gramTextL, hok, bytesOf]), hbw.trans (hb'.mono (by simp))⟩
  | true =>
    have hn := H.1
    unfold maxLen at hn
    go_enter Try.func35, Try.ntmps35
    go_wp2_with fail
    refine (sGramOk_any _ _ _ rs _ (H.below hbw (Nat.le_refl _)) hcap).mono ?_
    rintro e w2 ⟨rfl, hb2⟩
    have k0 : w2.cell? ⟨w.heap.size, 0, none⟩ = some (.string st) := by rw [hb2.cell (p := ⟨w.heap.size, 0, none⟩) (by simp)]; simp
    have k1 : w2.cell? ⟨w.heap.size, 1, none⟩ = some (.slice a rs.length cap) := by rw [hb2.cell (p := ⟨w.heap.size, 1, none⟩) (by simp)]; simp
    have c2 : Below w.heap.size w w2 := hbw.trans (hb2.mono (by simp))
    have H2 := H.below c2 (Nat.le_refl _)
    have HOK := Lib.hid hok
    obtain ⟨f1, f2, f3⟩ := gramOk_facts hok
    have hadd : ∀ w, (Op.stringOp .add st (⟨#[10]⟩ : ByteArray)).run Try.prog w = .ok (.string (bytesOf (textTo st rs 0))) w := fun w => by
      rw [← textTo_zero]; exact run_string_add_sum w _ _ (by rw [one_size]; omega)
    have F3 := Lib.hid f3
    clear hb2 hbw f1 f3
    go_wp2
    clear hadd
    go_loopw [3, 4] (fun o i wr => ∃ k : Nat, k ≤ rs.length ∧ i = .int .i64 k ∧ o = .string (bytesOf (textTo st rs k)) ∧ ∃ n, wr = w2.drewN n) (fun _ i _ => rs.length - (intOf i).toNat)
    case atStart => exact ⟨0, Nat.zero_le _, rfl, rfl, 0, rfl⟩
    case round =>
      obtain ⟨k, hk, rfl, rfl, n, rfl⟩ := hrel
      by_cases hlt : k < rs.length
      · obtain ⟨z1, z2, b, off, e, hbb, c1, c2'⟩ := H2.2 k hlt
        subst e
        have hkl : (k : Int) < (rs.length : Int) := by omega
        have hsz := textTo_size HOK.out k hk
        have hf := F3.out k hlt
        have a1 := run_add_bytes (P := Try.prog) (textTo st rs k) rs[k].1 (by omega)
        have a2 := run_add_bytes (P := Try.prog) (cat (textTo st rs k) rs[k].1) (⟨#[62]⟩ : ByteArray) (by rw [one_size, cat_len]; omega)
        have a3 := run_add_bytes (P := Try.prog) (cat (cat (textTo st rs k) rs[k].1) (⟨#[62]⟩ : ByteArray)) rs[k].2 (by rw [cat_len, cat_len, one_size]; omega)
        have a4 := run_add_bytes (P := Try.prog) (cat (cat (cat (textTo st rs k) rs[k].1) (⟨#[62]⟩ : ByteArray)) rs[k].2) (⟨#[10]⟩ : ByteArray) (by rw [one_size, cat_len, cat_len, cat_len, one_size]; omega)
        clear hf
        go_wp2
        go_quiet (fail)
        clear a1 a2 a3 a4
        go_wp2
        go_roundw
        case rel => exact ⟨k + 1, by omega, by go_num, by rw [textTo_cat st rs k hlt], _, rfl⟩
        case measure => simp [intOf]; omega
      · go_wp2
        go_ret
        refine ⟨ret_string ?_, c2.os, c2.tape, c2.output, c2.size, c2.block⟩
        unfold gramTextL
        rw [if_pos HOK.out, show k = rs.length from by omega]
end Go.Proofs.Ytjpkohahabclgaa
