/- The sets of the trimmed rules. -/
import Derived.Test.YtjpkohahabclgaaTrimD
namespace Go.Proofs.Ytjpkohahabclgaa
open Go.ChangeShapes Go.WideShapes Go.ChangeAt Go.RowKit
set_option maxRecDepth 100000
theorem leftB_one {r : RuleT} {c : UInt8} (h : r.1 = ⟨#[c]⟩) : leftB r = c := by rw [leftB, h]; rfl
theorem ok_mem {st : ByteArray} {rs : List RuleT} (hok : gramOkB st rs = true) {r : RuleT} (hr : r ∈ rs) : ∃ c : UInt8, r.1 = ⟨#[c]⟩ ∧ bigN (c.toNat : Int) = true := by
  obtain ⟨k, hk, rfl⟩ := List.getElem_of_mem hr
  exact (ok_rule hok hk).1
/-- a useful rule is kept if and only if its left is met -/
theorem mem_trim {st : ByteArray} {rs : List RuleT} {r : RuleT} {c : UInt8} (hc : r.1 = ⟨#[c]⟩) : r ∈ trimL st rs ↔ r ∈ usefulL rs ∧ hasN (metLeast st (usefulL rs)) c = true := by
  unfold trimL
  rw [List.mem_filter]
  have : metP (metLeast st (usefulL rs)) r = hasN (metLeast st (usefulL rs)) c := by unfold metP; rw [hc]; simp [hasAllN]
  rw [this]
theorem met_trim {st : ByteArray} {rs : List RuleT} (hok : gramOkB st rs = true) : metLeast st (trimL st rs) = metLeast st (usefulL rs) := by
  have hU := ok_filter (usefulP rs) hok
  have h1 : Sub (metLeast st (trimL st rs)) (metLeast st (usefulL rs)) := met_fewer (fun r hr => (List.mem_filter.1 hr).1)
  have h2 : Sub (metLeast st (usefulL rs)) (metLeast st (trimL st rs)) := by
    refine metLeast_sub (metLeast_lt _ _) ?_
    have hc := (metClosed_iff st (trimL st rs) _).1 (metLeast_closed st (trimL st rs))
    rw [metClosed_iff]
    refine ⟨hc.1, fun r hr hl x hx hxb => ?_⟩
    obtain ⟨c, hrc, _⟩ := ok_mem hU hr
    rw [leftB_one hrc] at hl
    exact hc.2 r ((mem_trim hrc).2 ⟨hr, hasN_mono h1 hl⟩) (by rw [leftB_one hrc]; exact hl) x hx hxb
  have e1 : _ ||| _ = _ := h1
  have e2 : _ ||| _ = _ := h2
  rw [← e2, Nat.or_comm, e1]
theorem sub_anti {a b : Nat} (h : Sub a b) (k : Sub b a) : a = b := by
  have e1 : a ||| b = b := h
  have e2 : b ||| a = a := k
  rw [← e2, Nat.or_comm, e1]
def compN (m : Nat) : Nat := 1023 ^^^ m
theorem comp_all : ∀ m : Fin 1024, compN m.val < 1024 ∧ ordL.all (fun c => hasN (compN m.val) c == !hasN m.val c) = true := by decide +kernel
theorem comp_has {m : Nat} (hm : m < 1024) {c : UInt8} (hc : c ∈ ordL) : hasN (compN m) c = !hasN m c := by
  have := List.all_eq_true.1 (comp_all ⟨m, hm⟩).2 c hc
  simpa using this
theorem comp_lt {m : Nat} (hm : m < 1024) : compN m < 1024 := (comp_all ⟨m, hm⟩).1
theorem least_bigs {st : ByteArray} {rs : List RuleT} (hok : gramOkB st rs = true) (g : Nat) : Sub (leftsLeast rs g) 62 := by
  refine leftsLeast_sub ?_
  rw [leftsClosed_iff]
  intro r hr _
  obtain ⟨c, hc, hb⟩ := ok_mem hok hr
  rw [hc, show (⟨#[c]⟩ : ByteArray).data.toList = [c] from rfl, setN_one]
  exact bit_big hb
theorem big_of_all : ordL.all (fun c => !hasN 62 c || bigN (c.toNat : Int)) = true := by decide
theorem big_of {c : UInt8} (h : hasN 62 c = true) : bigN (c.toNat : Int) = true := by
  have := List.all_eq_true.1 big_of_all c (hasN_mem h)
  rw [h] at this
  simpa using this
theorem hasAll_mem {m : Nat} {l : List UInt8} (h : hasAllN m l = true) : ∀ x ∈ l, hasN m x = true := by
  unfold hasAllN at h
  exact List.all_eq_true.1 h
theorem hasAll_of {m : Nat} {l : List UInt8} (h : ∀ x ∈ l, hasN m x = true) : hasAllN m l = true := by
  unfold hasAllN
  exact List.all_eq_true.2 h
/-- what is made by all rules and met by the useful ones is made by the trimmed ones -/
theorem made_trim {st : ByteArray} {rs : List RuleT} (hok : gramOkB st rs = true) {c : UInt8} (hM : hasN (leftsLeast rs 960) c = true) (hm : hasN (metLeast st (usefulL rs)) c = true) : hasN (leftsLeast (trimL st rs) 960) c = true := by
  have hU := ok_filter (usefulP rs) hok
  have hMl := leftsLeast_lt rs 960
  have hTl := leftsLeast_lt (trimL st rs) 960
  have hml := metLeast_lt st (usefulL rs)
  have hMc := (leftsClosed_iff rs 960 _).1 (leftsLeast_closed rs 960)
  have hTc := (leftsClosed_iff (trimL st rs) 960 _).1 (leftsLeast_closed (trimL st rs) 960)
  have hmc := (metClosed_iff st (usefulL rs) _).1 (metLeast_closed st (usefulL rs))
  have hMb := least_bigs hok 960
  have hmem : ∀ r ∈ rs, hasAllN (leftsLeast rs 960 ||| 960) r.2.data.toList = true → r ∈ usefulL rs := fun r hr hh => List.mem_filter.2 ⟨hr, hh⟩
  have hmt := fun (r : RuleT) (d : UInt8) (hd : r.1 = ⟨#[d]⟩) => mem_trim (st := st) (rs := rs) hd
  have hsub : Sub (leftsLeast rs 960) (leftsLeast rs 960 &&& (leftsLeast (trimL st rs) 960 ||| compN (metLeast st (usefulL rs)))) := by
    refine leftsLeast_sub ?_
    rw [leftsClosed_iff]
    intro r hr hh
    have hhM := hasAllN_mono ((and_sub_left (leftsLeast rs 960) _).or_mono (Sub.refl 960)) hh
    have hru := hmem r hr hhM
    obtain ⟨d, hd, hdb⟩ := ok_mem hok hr
    have hdo := bigs_ord hdb
    have hdM : hasN (leftsLeast rs 960) d = true := by
      have := hMc r hr hhM
      rw [hd, show (⟨#[d]⟩ : ByteArray).data.toList = [d] from rfl, setN_one] at this
      exact hasN_of_sub hdo this
    rw [hd, show (⟨#[d]⟩ : ByteArray).data.toList = [d] from rfl, setN_one]
    refine sub_bit (Nat.lt_of_le_of_lt Nat.and_le_left hMl) (hasN_and hMl (or_lt hTl (comp_lt hml)) hdM ?_)
    rw [hasN_or, comp_has hml hdo]
    cases hdm : hasN (metLeast st (usefulL rs)) d with
    | false => simp
    | true =>
      have hrt := (hmt r d hd).2 ⟨hru, hdm⟩
      have hall : hasAllN (leftsLeast (trimL st rs) 960 ||| 960) r.2.data.toList = true := by
        refine hasAll_of fun x hx => ?_
        have h1 := hasAll_mem hh x hx
        rw [hasN_or] at h1 ⊢
        cases hs : hasN 960 x with
        | true => simp
        | false =>
          rw [hs, Bool.or_false] at h1
          have hxM := hasN_mono (and_sub_left _ _) h1
          have hxb := big_of (hasN_mono hMb hxM)
          have h2 := hasN_mono (and_sub_right _ _) h1
          have hxm := hmc.2 r hru (by rw [leftB_one hd]; exact hdm) x hx hxb
          rw [hasN_or, comp_has hml (bigs_ord hxb), hxm] at h2
          simpa using h2
      have := hTc r hrt hall
      rw [hd, show (⟨#[d]⟩ : ByteArray).data.toList = [d] from rfl, setN_one] at this
      rw [hasN_of_sub hdo this]; simp
  have h3 := hasN_mono (and_sub_right _ _) (hasN_mono hsub hM)
  rw [hasN_or, comp_has hml (hasN_mem hM), hm] at h3
  simpa using h3
end Go.Proofs.Ytjpkohahabclgaa
