/- Contracts of the model's l1In, l2All, l2Grow, GramNone and GramMade. -/
import Derived.Test.YtjpkohahabclgaaSetF
namespace Go.Proofs.Ytjpkohahabclgaa
open Go.ChangeShapes Go.WideShapes Go.ChangeAt Go.RowKit
set_option maxRecDepth 100000
def inL (l : List UInt8) (c : UInt8) : Bool := l.contains c
theorem contains_at {s : ByteArray} {c : UInt8} {k : Nat} (h : k < s.size) (e : s[k] = c) : inL s.data.toList c = true := by
  rw [inL, List.contains_iff_mem, ← e]; show s.data[k] ∈ _; simp
theorem contains_not {s : ByteArray} {c : UInt8} (h : ∀ k (hk : k < s.size), ¬ s[k] = c) : inL s.data.toList c = false := by
  cases hh : inL s.data.toList c with
  | false => rfl
  | true =>
    rw [inL, List.contains_iff_mem] at hh
    obtain ⟨k, hk, e⟩ := List.getElem_of_mem hh
    exact absurd e (h k (by simpa using hk))
theorem u8_eq (a b : UInt8) : (((a.toNat : Nat) : Int) == ((b.toNat : Nat) : Int)) = decide (a = b) := by
  by_cases h : a = b
  · subst h; simp
  · have : ¬ a.toNat = b.toNat := fun e => h (UInt8.toNat_inj.1 e)
    rw [decide_eq_false h, beq_eq_false_iff_ne]; omega
theorem l1In_any (s : ByteArray) (c : UInt8) (w : World) (hs : s.size ≤ maxLen) :
    Calls Try.prog 110 #[.string s, .int .u8 (c.toNat : Int)] w fun e w' => e = .returned (.bool (inL s.data.toList c)) ∧ w = w' := by
  unfold maxLen at hs
  go_enter Try.func110, Try.ntmps110
  go_wp2
  go_loop [5] (fun i => ∃ k : Nat, k ≤ s.size ∧ i = .int .i64 k ∧ Hid (∀ j (hj : j < s.size), j < k → ¬ s[j] = c)) (fun i => s.size - (intOf i).toNat)
  case atStart => exact ⟨0, Nat.zero_le _, rfl, fun j _ h => absurd h (Nat.not_lt_zero _)⟩
  case round =>
    obtain ⟨k, hk, rfl, H⟩ := hrel
    by_cases hlt : k < s.size
    · have hd := u8_eq s[k] c
      by_cases he : s[k] = c
      · rw [decide_eq_true he] at hd
        have HE := Lib.hid he
        clear he
        go_wp2
        go_ret
        exact ⟨ret_bool (contains_at hlt HE.out).symm, rfl⟩
      · rw [decide_eq_false he] at hd
        have HE := Lib.hid he
        clear he
        go_wp2
        go_round
        case rel => exact ⟨k + 1, by omega, by go_num, fun j hj h => by
                      by_cases e : j = k
                      · subst e; exact HE.out
                      · exact H.out j hj (by omega)⟩
        case measure => simp [intOf]; omega
    · go_wp2
      go_ret
      exact ⟨ret_bool (contains_not (fun j hj => H.out j hj (by omega))).symm, rfl⟩
theorem l1In_text (m : Nat) (c : UInt8) (w : World) :
    Calls Try.prog 110 #[.string (bytesOf (textN m)), .int .u8 (c.toNat : Int)] w fun e w' => e = .returned (.bool (hasN m c)) ∧ w = w' := by
  have h := l1In_any (bytesOf (textN m)) c w (by rw [bytesOf_size]; have := text_len m; unfold maxLen; omega)
  rwa [show (bytesOf (textN m)).data.toList = textN m from rfl, inL, text_has] at h
theorem small_all : ∀ n : Fin 256, hasN 960 (UInt8.ofNat n.val) = smallN ((UInt8.ofNat n.val).toNat : Int) := by decide +kernel
theorem has_small (c : UInt8) : hasN 960 c = smallN (c.toNat : Int) := by
  have h := small_all ⟨c.toNat, c.toNat_lt⟩
  simpa only [UInt8.ofNat_toNat] using h
theorem hasN_zero (c : UInt8) : hasN 0 c = false := by simp [hasN]
def smallSet (b : Bool) : Nat := if b then 960 else 0
theorem smallSet_lt (b : Bool) : smallSet b < 1024 := by cases b <;> simp [smallSet]
theorem has_smallSet (m : Nat) (b : Bool) (c : UInt8) : hasN (m ||| smallSet b) c = (hasN m c || (b && smallN (c.toNat : Int))) := by
  rw [hasN_or]
  cases b
  · simp [smallSet, hasN_zero]
  · simp [smallSet, has_small]
theorem hasAll_bad {m : Nat} {s : ByteArray} {k : Nat} (h : k < s.size) (hb : hasN m s[k] = false) : hasAllN m s.data.toList = false := by
  cases hh : hasAllN m s.data.toList with
  | false => rfl
  | true =>
    unfold hasAllN at hh
    rw [List.all_eq_true] at hh
    have := hh s[k] (by show s.data[k] ∈ _; simp)
    rw [hb] at this; cases this
set_option maxHeartbeats 400000 in
theorem l2All_any (s : ByteArray) (m : Nat) (b : Bool) (w : World) (hs : s.size ≤ maxLen) :
    Calls Try.prog 105 #[.string s, .string (bytesOf (textN m)), .bool b] w fun e w' => e = .returned (.bool (hasAllN (m ||| smallSet b) s.data.toList)) ∧ w = w' := by
  unfold maxLen at hs
  go_enter Try.func105, Try.ntmps105
  go_wp2
  go_loop [7] (fun i => ∃ k : Nat, k ≤ s.size ∧ i = .int .i64 k ∧ Hid (hasAllN (m ||| smallSet b) (s.data.toList.take k) = true)) (fun i => s.size - (intOf i).toNat)
  case atStart => exact ⟨0, Nat.zero_le _, rfl, by simp [hasAllN, Hid]⟩
  case round =>
    obtain ⟨k, hk, rfl, H⟩ := hrel
    by_cases hlt : k < s.size
    · have HT : Hid (hasAllN (m ||| smallSet b) (s.data.toList.take (k + 1)) = (hasAllN (m ||| smallSet b) (s.data.toList.take k) && hasN (m ||| smallSet b) s[k])) := by
        show _ = _; rw [take_snoc s k hlt, hasAllN_snoc]
      have HS := Lib.hid (has_smallSet m b s[k])
      cases hh : hasN (m ||| smallSet b) s[k] with
      | true =>
        have HH := Lib.hid hh
        have hor : hasN m s[k] = true ∨ (hasN m s[k] = false ∧ b = true ∧ smallN ((s[k].toNat : Nat) : Int) = true) := by
          rw [HS.out] at hh
          cases h1 : hasN m s[k]
          · rw [h1] at hh; simp at hh; exact .inr ⟨rfl, hh⟩
          · exact .inl rfl
        clear hh HS
        rcases hor with h1 | ⟨h1, rfl, h2⟩
        all_goals
          go_wp2_with (first | (go_at_call 110; refine (l1In_text m s[k] _).mono ?_; rintro e w' ⟨rfl, rfl⟩) | (go_at_call 118; refine (l1Small_any _ _).mono ?_; rintro e w' ⟨rfl, rfl⟩))
          go_round
          case rel => exact ⟨k + 1, by omega, by go_num, by show _ = _; rw [HT.out, H.out, HH.out]; rfl⟩
          case measure => simp [intOf]; omega
      | false =>
        have HH := Lib.hid hh
        have hor : hasN m s[k] = false ∧ (b = false ∨ (b = true ∧ smallN ((s[k].toNat : Nat) : Int) = false)) := by
          rw [HS.out] at hh
          cases h1 : hasN m s[k]
          · rw [h1] at hh
            cases b
            · exact ⟨rfl, .inl rfl⟩
            · simp at hh; exact ⟨rfl, .inr ⟨rfl, hh⟩⟩
          · rw [h1] at hh; simp at hh
        clear hh HS
        obtain ⟨h1, h2⟩ := hor
        rcases h2 with rfl | ⟨rfl, h2⟩
        all_goals
          go_wp2_with (first | (go_at_call 110; refine (l1In_text m s[k] _).mono ?_; rintro e w' ⟨rfl, rfl⟩) | (go_at_call 118; refine (l1Small_any _ _).mono ?_; rintro e w' ⟨rfl, rfl⟩))
          go_ret
          exact ⟨ret_bool (hasAll_bad hlt HH.out).symm, rfl⟩
    · go_wp2
      go_ret
      exact ⟨ret_bool (by have := H.out; rw [List.take_of_length_le (by simp; omega)] at this; exact this.symm), rfl⟩
theorem ok_left {st : ByteArray} {rs : List RuleT} (h : gramOkB st rs = true) {k : Nat} (hk : k < rs.length) : ∃ c : UInt8, rs[k].1 = ⟨#[c]⟩ ∧ bigN (c.toNat : Int) = true := by
  unfold gramOkB at h
  simp only [Bool.and_eq_true, decide_eq_true_eq, List.all_eq_true, List.mem_range] at h
  have h4 := h.2.2 k hk
  rw [goodB_at hk] at h4
  simp only [ruleOkB, Bool.and_eq_true] at h4
  have h5 := h4.1.1
  simp only [isBigS, Bool.and_eq_true, decide_eq_true_eq, byteAt] at h5
  obtain ⟨h6, h7⟩ := h5
  have hl : rs[k].1.data.toList.length = 1 := by simpa using h6
  match hs : rs[k].1.data.toList, hl with
  | [x], _ =>
    rw [hs] at h7
    exact ⟨x, bytesOf_ext (by rw [hs]), by simpa using h7⟩
theorem big_ord {c : UInt8} (h : bigN (c.toNat : Int) = true) : c ∈ ordL := by
  rcases bigN_cases h with rfl | rfl | rfl | rfl | rfl <;> decide
end Go.Proofs.Ytjpkohahabclgaa
