/- wpHas of the laws; what another start does to a grammar. -/
import Derived.Test.YtjpkohahabclgaaSymC
import Derived.Test.YtjpkohahabclgaaSame
import Derived.Laws.Strings
namespace Go.Proofs.Ytjpkohahabclgaa
open Go.ChangeShapes Go.WideShapes Go.ChangeAt Go.RowKit
set_option maxRecDepth 100000
/-- a byte is among bytes -/
def hasB (s : ByteArray) (c : Int) : Bool := s.data.toList.any fun b => ((b.toNat : Nat) : Int) == c
theorem hasB_true {s : ByteArray} {c : Int} {k : Nat} (h : k < s.size) (e : ((s[k].toNat : Nat) : Int) = c) : hasB s c = true := by
  unfold hasB
  rw [List.any_eq_true]
  exact ⟨s[k], by show s.data[k] ∈ _; simp, by simpa using e⟩
theorem hasB_false {s : ByteArray} {c : Int} (h : ∀ k (hk : k < s.size), ¬ ((s[k].toNat : Nat) : Int) = c) : hasB s c = false := by
  unfold hasB
  rw [List.any_eq_false]
  intro b hb
  obtain ⟨k, hk, rfl⟩ := List.getElem_of_mem hb
  have := h k (by simpa using hk)
  rw [beq_iff_eq]
  exact this
theorem wpHas_any (s : ByteArray) (c : Int) (w : World) (hs : s.size ≤ maxLen) :
    Calls Try.prog 46 #[.string s, .int .u8 c] w fun e w' => e = .returned (.bool (hasB s c)) ∧ w = w' := by
  unfold maxLen at hs
  go_enter Try.func46, Try.ntmps46
  go_wp2
  go_loop [5] (fun i => ∃ k : Nat, k ≤ s.size ∧ i = .int .i64 k ∧ Hid (∀ j (hj : j < s.size), j < k → ¬ ((s[j].toNat : Nat) : Int) = c)) (fun i => s.size - (intOf i).toNat)
  case atStart => exact ⟨0, Nat.zero_le _, rfl, fun j _ h => absurd h (Nat.not_lt_zero _)⟩
  case round =>
    obtain ⟨k, hk, rfl, H⟩ := hrel
    by_cases hlt : k < s.size
    · go_wp2
      · go_ret
        exact ⟨ret_bool (hasB_true hlt (by first | assumption | simp_all)).symm, rfl⟩
      · go_round
        case rel => exact ⟨k + 1, by omega, by go_num, fun j hj h => by
                      by_cases e : j = k
                      · subst e; first | assumption | simp_all
                      · exact H.out j hj (by omega)⟩
        case measure => simp [intOf]; omega
    · go_wp2
      go_ret
      exact ⟨ret_bool (hasB_false (fun j hj => H.out j hj (by omega))).symm, rfl⟩
theorem isBigS_big {s : ByteArray} (h : isBigS s = true) : ∀ c ∈ s.data.toList, bigN (c.toNat : Int) = true := by
  simp only [isBigS, Bool.and_eq_true, decide_eq_true_eq, byteAt] at h
  obtain ⟨h1, h2⟩ := h
  have hl : s.data.toList.length = 1 := by simpa using h1
  match hs : s.data.toList, hl with
  | [x], _ =>
    rw [hs] at h2
    intro c hc
    obtain rfl : c = x := by simpa using hc
    simpa using h2
theorem ok_start {st : ByteArray} {rs : List RuleT} (h : gramOkB st rs = true) : gramOkB ⟨#[69]⟩ rs = true := by
  unfold gramOkB at h ⊢
  rw [Bool.and_eq_true] at h ⊢
  exact ⟨by decide, h.2⟩
theorem ok_big {st : ByteArray} {rs : List RuleT} (h : gramOkB st rs = true) : isBigS st = true := by
  unfold gramOkB at h
  rw [Bool.and_eq_true] at h
  exact h.1
theorem text_small {st : ByteArray} {rs : List RuleT} (hb : isBigS st = true) (n : Nat) (c : UInt8) (h : smallN (c.toNat : Int) = true) : (textTo st rs n).contains c = (10 :: (rs.take n).flatMap ruleTextL : List UInt8).contains c := by
  have hn : ¬ c ∈ st.data.toList := fun hm => by
    have := isBigS_big hb c hm
    simp [bigN, smallN] at this h
    omega
  rw [Bool.eq_iff_iff, List.contains_iff_mem, List.contains_iff_mem]
  unfold textTo
  rw [List.mem_append]
  exact ⟨fun h => h.resolve_left hn, .inr⟩
theorem smalls_start {st : ByteArray} {rs : List RuleT} (h : gramOkB st rs = true) : symsL (gramTextL ⟨#[69]⟩ rs) 97 4 = symsL (gramTextL st rs) 97 4 := by
  have h1 := ok_big h
  have h2 : isBigS ⟨#[69]⟩ = true := by decide
  rw [symsL_four, symsL_four]
  unfold gramTextL
  rw [if_pos h, if_pos (ok_start h)]
  rw [text_small h1 _ 97 (by decide), text_small h1 _ 98 (by decide), text_small h1 _ 99 (by decide), text_small h1 _ 100 (by decide), text_small h2 _ 97 (by decide), text_small h2 _ 98 (by decide), text_small h2 _ 99 (by decide), text_small h2 _ 100 (by decide)]
theorem has_pick5 (a b c d : Bool) : hasB (bytesOf (pick5 a b c d true)) 69 = true := by
  cases a <;> cases b <;> cases c <;> cases d <;> decide
theorem bigs_start {st : ByteArray} {rs : List RuleT} (h : gramOkB st rs = true) : hasB (bytesOf (symsL (gramTextL ⟨#[69]⟩ rs) 65 5)) 69 = true := by
  rw [symsL_five]
  have : (gramTextL ⟨#[69]⟩ rs).contains 69 = true := by
    unfold gramTextL
    rw [if_pos (ok_start h)]
    simp [textTo]
  rw [this]
  exact has_pick5 _ _ _ _
theorem tl_inj {a b : ByteArray} (h : a.toList = b.toList) : a = b := by
  rw [Go.ByteArray.toList_eq, Go.ByteArray.toList_eq] at h
  exact bytes_inj h
theorem same_start {st : ByteArray} {rs : List RuleT} (h : ¬ st = ⟨#[69]⟩) : eqG ⟨#[69]⟩ rs st rs = false := by
  unfold eqG
  have : ((⟨#[69]⟩ : ByteArray).toList == st.toList) = false := by
    rw [beq_eq_false_iff_ne]
    intro e
    exact h (tl_inj e).symm
  rw [this]; rfl
end Go.Proofs.Ytjpkohahabclgaa
