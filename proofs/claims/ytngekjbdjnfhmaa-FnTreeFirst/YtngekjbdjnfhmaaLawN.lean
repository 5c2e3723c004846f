/- Contracts of slices.Equal over rules and of GramSame, the program's and the model's. -/
import Derived.Test.YtngekjbdjnfhmaaLawB
import Derived.Test.YtngekjbdjnfhmaaSymC
import Derived.Laws.Strings
import Derived.Test.YtngekjbdjnfhmaaSetH
import Derived.Test.YtngekjbdjnfhmaaTfM
namespace Go.Proofs.Ytngekjbdjnfhmaa
open Go.ChangeShapes Go.WideShapes Go.ChangeAt Go.RowKit
theorem run_neq_rule (a b c d : ByteArray) (w : World) : Sem.run Try.prog (binOp .neq 78 (.agg #[.string a, .string b]) (.agg #[.string c, .string d])) w = .ok (.bool (!eqR (a, b) (c, d))) w := by
  rw [run_neq_struct, equalIn_rule]; rfl

end Go.Proofs.Ytngekjbdjnfhmaa
namespace Go.Proofs.Ytngekjbdjnfhmaa
open Go.ChangeShapes Go.WideShapes Go.ChangeAt Go.RowKit
set_option maxRecDepth 100000
/-- a byte is among bytes -/
def hasB (s : ByteArray) (c : Int) : Bool := s.data.toList.any fun b => ((b.toNat : Nat) : Int) == c
theorem hasB_true {s : ByteArray} {c : Int} {k : Nat} (h : k < s.size) (e : ((s[k].toNat : Nat) : Int) = c) : hasB s c = true := by
  unfold hasB
  rw [List.any_eq_true]
  exact ⟨s[k], by show s.data[k] ∈ _; simp, by simpa using e⟩
theorem hasB_false {s : ByteArray} {c : Int} (h : ∀ k (hk : k < s.size), ¬ ((s[k].toNat : Nat) : Int) = c) : hasB s c = false := by
  unfold hasB
  rw [List.any_eq_false]
  intro b hb
  obtain ⟨k, hk, rfl⟩ := List.getElem_of_mem hb
  have := h k (by simpa using hk)
  rw [beq_iff_eq]
  exact this
theorem wpHas_any (s : ByteArray) (c : Int) (w : World) (hs : s.size ≤ maxLen) :
    Calls Try.prog 9 #[.string s, .int .u8 c] w fun e w' => e = .returned (.bool (hasB s c)) ∧ w = w' := by
  unfold maxLen at hs
  go_enter Try.func9, Try.ntmps9
  go_wp2
  go_loop [5] (fun i => ∃ k : Nat, k ≤ s.size ∧ i = .int .i64 k ∧ Hid (∀ j (hj : j < s.size), j < k → ¬ ((s[j].toNat : Nat) : Int) = c)) (fun i => s.size - (intOf i).toNat)
  case atStart => exact ⟨0, Nat.zero_le _, rfl, fun j _ h => absurd h (Nat.not_lt_zero _)⟩
  case round =>
    obtain ⟨k, hk, rfl, H⟩ := hrel
    by_cases hlt : k < s.size
    · go_wp2
      · go_ret
        exact ⟨ret_bool (hasB_true hlt (by first | assumption | simp_all)).symm, rfl⟩
      · go_round
        case rel => exact ⟨k + 1, by omega, by go_num, fun j hj h => by
                      by_cases e : j = k
                      · subst e; first | assumption | simp_all
                      · exact H.out j hj (by omega)⟩
        case measure => simp [intOf]; omega
    · go_wp2
      go_ret
      exact ⟨ret_bool (hasB_false (fun j hj => H.out j hj (by omega))).symm, rfl⟩
theorem isBigS_big {s : ByteArray} (h : isBigS s = true) : ∀ c ∈ s.data.toList, bigN (c.toNat : Int) = true := by
  simp only [isBigS, Bool.and_eq_true, decide_eq_true_eq, byteAt] at h
  obtain ⟨h1, h2⟩ := h
  have hl : s.data.toList.length = 1 := by simpa using h1
  match hs : s.data.toList, hl with
  | [x], _ =>
    rw [hs] at h2
    intro c hc
    obtain rfl : c = x := by simpa using hc
    simpa using h2
theorem ok_start {st : ByteArray} {rs : List RuleT} (h : gramOkB st rs = true) : gramOkB ⟨#[69]⟩ rs = true := by
  unfold gramOkB at h ⊢
  rw [Bool.and_eq_true] at h ⊢
  exact ⟨by decide, h.2⟩
theorem ok_big {st : ByteArray} {rs : List RuleT} (h : gramOkB st rs = true) : isBigS st = true := by
  unfold gramOkB at h
  rw [Bool.and_eq_true] at h
  exact h.1
theorem text_small {st : ByteArray} {rs : List RuleT} (hb : isBigS st = true) (n : Nat) (c : UInt8) (h : smallN (c.toNat : Int) = true) : (textTo st rs n).contains c = (10 :: (rs.take n).flatMap ruleTextL : List UInt8).contains c := by
  have hn : ¬ c ∈ st.data.toList := fun hm => by
    have := isBigS_big hb c hm
    simp [bigN, smallN] at this h
    omega
  rw [Bool.eq_iff_iff, List.contains_iff_mem, List.contains_iff_mem]
  unfold textTo
  rw [List.mem_append]
  exact ⟨fun h => h.resolve_left hn, .inr⟩
theorem smalls_start {st : ByteArray} {rs : List RuleT} (h : gramOkB st rs = true) : symsL (gramTextL ⟨#[69]⟩ rs) 97 4 = symsL (gramTextL st rs) 97 4 := by
  have h1 := ok_big h
  have h2 : isBigS ⟨#[69]⟩ = true := by decide
  rw [symsL_four, symsL_four]
  unfold gramTextL
  rw [if_pos h, if_pos (ok_start h)]
  rw [text_small h1 _ 97 (by decide), text_small h1 _ 98 (by decide), text_small h1 _ 99 (by decide), text_small h1 _ 100 (by decide), text_small h2 _ 97 (by decide), text_small h2 _ 98 (by decide), text_small h2 _ 99 (by decide), text_small h2 _ 100 (by decide)]
theorem has_pick5 (a b c d : Bool) : hasB (bytesOf (pick5 a b c d true)) 69 = true := by
  cases a <;> cases b <;> cases c <;> cases d <;> decide
theorem bigs_start {st : ByteArray} {rs : List RuleT} (h : gramOkB st rs = true) : hasB (bytesOf (symsL (gramTextL ⟨#[69]⟩ rs) 65 5)) 69 = true := by
  rw [symsL_five]
  have : (gramTextL ⟨#[69]⟩ rs).contains 69 = true := by
    unfold gramTextL
    rw [if_pos (ok_start h)]
    simp [textTo]
  rw [this]
  exact has_pick5 _ _ _ _
theorem tl_inj {a b : ByteArray} (h : a.toList = b.toList) : a = b := by
  rw [Go.ByteArray.toList_eq, Go.ByteArray.toList_eq] at h
  exact bytes_inj h
theorem same_start {st : ByteArray} {rs : List RuleT} (h : ¬ st = ⟨#[69]⟩) : eqG ⟨#[69]⟩ rs st rs = false := by
  unfold eqG
  have : ((⟨#[69]⟩ : ByteArray).toList == st.toList) = false := by
    rw [beq_eq_false_iff_ne]
    intro e
    exact h (tl_inj e).symm
  rw [this]; rfl
end Go.Proofs.Ytngekjbdjnfhmaa
namespace Go.Proofs.Ytngekjbdjnfhmaa
open Go.ChangeShapes Go.WideShapes Go.ChangeAt Go.RowKit
set_option maxRecDepth 100000
theorem hasB_list (l : List UInt8) (c : UInt8) : hasB (bytesOf l) (c.toNat : Int) = l.contains c := by
  rw [Bool.eq_iff_iff, List.contains_iff_mem]
  unfold hasB
  rw [List.any_eq_true]
  constructor
  · rintro ⟨b, hb, e⟩
    have : b = c := UInt8.toNat_inj.1 (by simp at e; omega)
    rw [← this]; exact hb
  · intro h
    exact ⟨c, h, by simp⟩
theorem hasB_text (m : Nat) (c : UInt8) : hasB (bytesOf (textN m)) (c.toNat : Int) = hasN m c := by rw [hasB_list, text_has]
theorem wpHas_text (m : Nat) (c : UInt8) (w : World) :
    Calls Try.prog 9 #[.string (bytesOf (textN m)), .int .u8 (c.toNat : Int)] w fun e w' => e = .returned (.bool (hasN m c)) ∧ w = w' := by
  have h := wpHas_any (bytesOf (textN m)) (c.toNat : Int) w (by rw [bytesOf_size]; have := text_len m; unfold maxLen; omega)
  rwa [hasB_text] at h
theorem cutOne (s : ByteArray) (k : Nat) (h : k < s.size) : s.extract k (k + 1) = ⟨#[s[k]]⟩ := by
  apply bytesOf_ext
  rw [Lib.extract_data]
  have hl : k < s.data.toList.length := by simpa using h
  have h2 : s[k] = s.data.toList[k] := rfl
  rw [h2]
  simp only [Nat.add_sub_cancel_left]
  rw [List.drop_eq_getElem_cons hl]
  simp
theorem clr_bits : ordL.all (fun c => ordL.all fun d => ((1023 - bitN c) &&& bitN d) == (if d = c then 0 else bitN d)) = true := by decide +kernel
theorem clr_has {m : Nat} {c d : UInt8} (hc : c ∈ ordL) (hd : d ∈ ordL) : hasN (m &&& (1023 - bitN c)) d = (hasN m d && !decide (d = c)) := by
  have h := List.all_eq_true.1 (List.all_eq_true.1 clr_bits c hc) d hd
  rw [beq_iff_eq] at h
  unfold hasN
  rw [Nat.and_assoc, h]
  by_cases e : d = c <;> simp [e]
/-- some rule of c has only signs of the set on its right -/
def someR (rs : List RuleT) (S : Nat) (c : UInt8) : Bool := rs.any fun r => (r.1.data.toList == [c]) && hasAllN S r.2.data.toList
theorem least_iff {st : ByteArray} {rs : List RuleT} (hok : gramOkB st rs = true) (g : Nat) {c : UInt8} (hc : c ∈ ordL) : someR rs (leftsLeast rs g ||| g) c = hasN (leftsLeast rs g) c := by
  have hcl := (leftsClosed_iff rs g _).1 (leftsLeast_closed rs g)
  have hlt := leftsLeast_lt rs g
  have hsub := fun S h => leftsLeast_sub (rs := rs) (g := g) (S := S) h
  generalize leftsLeast rs g = m at *
  rw [Bool.eq_iff_iff]
  unfold someR
  rw [List.any_eq_true]
  constructor
  · rintro ⟨r, hr, e⟩
    rw [Bool.and_eq_true, beq_iff_eq] at e
    have := hcl r hr e.2
    rw [e.1, setN_one] at this
    exact hasN_of_sub hc this
  · intro h
    by_cases hex : ∃ r ∈ rs, ((r.1.data.toList == [c]) && hasAllN (m ||| g) r.2.data.toList) = true
    · exact hex
    · exfalso
      have hS : leftsClosedB rs g (m &&& (1023 - bitN c)) = true := by
        rw [leftsClosed_iff]
        intro r hr hh
        have h1 := hasAllN_mono ((and_sub_left m (1023 - bitN c)).or_mono (Sub.refl g)) hh
        obtain ⟨k, hk, rfl⟩ := List.getElem_of_mem hr
        obtain ⟨d, hd, hb⟩ := ok_left hok hk
        have h2 := hcl rs[k] hr h1
        rw [hd] at h2 ⊢
        rw [show (⟨#[d]⟩ : ByteArray).data.toList = [d] from rfl, setN_one] at h2 ⊢
        have hdo := big_ord hb
        have hdc : ¬ d = c := fun e => hex ⟨rs[k], hr, by rw [hd, e, h1]; simp⟩
        refine sub_bit (Nat.lt_of_le_of_lt Nat.and_le_left hlt) ?_
        rw [clr_has hc hdo, hasN_of_sub hdo h2]; simp [hdc]
      have h3 := hasN_mono (hsub _ hS) h
      rw [clr_has hc hc] at h3
      simp at h3
end Go.Proofs.Ytngekjbdjnfhmaa
