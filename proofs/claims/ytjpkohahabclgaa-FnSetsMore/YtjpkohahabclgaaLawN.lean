/- wpHas at the text of a set; a nullable or productive symbol has a rule of such symbols. -/
import Derived.Test.YtjpkohahabclgaaSetH
import Derived.Test.YtjpkohahabclgaaLeast
import Derived.Test.YtjpkohahabclgaaHas
namespace Go.Proofs.Ytjpkohahabclgaa
open Go.ChangeShapes Go.WideShapes Go.ChangeAt Go.RowKit
set_option maxRecDepth 100000
theorem hasB_list (l : List UInt8) (c : UInt8) : hasB (bytesOf l) (c.toNat : Int) = l.contains c := by
  rw [Bool.eq_iff_iff, List.contains_iff_mem]
  unfold hasB
  rw [List.any_eq_true]
  constructor
  · rintro ⟨b, hb, e⟩
    have : b = c := UInt8.toNat_inj.1 (by simp at e; omega)
    rw [← this]; exact hb
  · intro h
    exact ⟨c, h, by simp⟩
theorem hasB_text (m : Nat) (c : UInt8) : hasB (bytesOf (textN m)) (c.toNat : Int) = hasN m c := by rw [hasB_list, text_has]
theorem wpHas_text (m : Nat) (c : UInt8) (w : World) :
    Calls Try.prog 46 #[.string (bytesOf (textN m)), .int .u8 (c.toNat : Int)] w fun e w' => e = .returned (.bool (hasN m c)) ∧ w = w' := by
  have h := wpHas_any (bytesOf (textN m)) (c.toNat : Int) w (by rw [bytesOf_size]; have := text_len m; unfold maxLen; omega)
  rwa [hasB_text] at h
theorem cutOne (s : ByteArray) (k : Nat) (h : k < s.size) : s.extract k (k + 1) = ⟨#[s[k]]⟩ := by
  apply bytesOf_ext
  rw [Lib.extract_data]
  have hl : k < s.data.toList.length := by simpa using h
  have h2 : s[k] = s.data.toList[k] := rfl
  rw [h2]
  simp only [Nat.add_sub_cancel_left]
  rw [List.drop_eq_getElem_cons hl]
  simp
theorem clr_bits : ordL.all (fun c => ordL.all fun d => ((1023 - bitN c) &&& bitN d) == (if d = c then 0 else bitN d)) = true := by decide +kernel
theorem clr_has {m : Nat} {c d : UInt8} (hc : c ∈ ordL) (hd : d ∈ ordL) : hasN (m &&& (1023 - bitN c)) d = (hasN m d && !decide (d = c)) := by
  have h := List.all_eq_true.1 (List.all_eq_true.1 clr_bits c hc) d hd
  rw [beq_iff_eq] at h
  unfold hasN
  rw [Nat.and_assoc, h]
  by_cases e : d = c <;> simp [e]
/-- some rule of c has only signs of the set on its right -/
def someR (rs : List RuleT) (S : Nat) (c : UInt8) : Bool := rs.any fun r => (r.1.data.toList == [c]) && hasAllN S r.2.data.toList
theorem least_iff {st : ByteArray} {rs : List RuleT} (hok : gramOkB st rs = true) (g : Nat) {c : UInt8} (hc : c ∈ ordL) : someR rs (leftsLeast rs g ||| g) c = hasN (leftsLeast rs g) c := by
  have hcl := (leftsClosed_iff rs g _).1 (leftsLeast_closed rs g)
  have hlt := leftsLeast_lt rs g
  have hsub := fun S h => leftsLeast_sub (rs := rs) (g := g) (S := S) h
  generalize leftsLeast rs g = m at *
  rw [Bool.eq_iff_iff]
  unfold someR
  rw [List.any_eq_true]
  constructor
  · rintro ⟨r, hr, e⟩
    rw [Bool.and_eq_true, beq_iff_eq] at e
    have := hcl r hr e.2
    rw [e.1, setN_one] at this
    exact hasN_of_sub hc this
  · intro h
    by_cases hex : ∃ r ∈ rs, ((r.1.data.toList == [c]) && hasAllN (m ||| g) r.2.data.toList) = true
    · exact hex
    · exfalso
      have hS : leftsClosedB rs g (m &&& (1023 - bitN c)) = true := by
        rw [leftsClosed_iff]
        intro r hr hh
        have h1 := hasAllN_mono ((and_sub_left m (1023 - bitN c)).or_mono (Sub.refl g)) hh
        obtain ⟨k, hk, rfl⟩ := List.getElem_of_mem hr
        obtain ⟨d, hd, hb⟩ := ok_left hok hk
        have h2 := hcl rs[k] hr h1
        rw [hd] at h2 ⊢
        rw [show (⟨#[d]⟩ : ByteArray).data.toList = [d] from rfl, setN_one] at h2 ⊢
        have hdo := big_ord hb
        have hdc : ¬ d = c := fun e => hex ⟨rs[k], hr, by rw [hd, e, h1]; simp⟩
        refine sub_bit (Nat.lt_of_le_of_lt Nat.and_le_left hlt) ?_
        rw [clr_has hc hdo, hasN_of_sub hdo h2]; simp [hdc]
      have h3 := hasN_mono (hsub _ hS) h
      rw [clr_has hc hc] at h3
      simp at h3
end Go.Proofs.Ytjpkohahabclgaa
