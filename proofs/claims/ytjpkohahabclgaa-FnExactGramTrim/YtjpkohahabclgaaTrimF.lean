/- The symbols of the trimmed rules are of use; GramTrim of the model at any rules. -/
import Derived.Test.YtjpkohahabclgaaTrimE
import Derived.Test.YtjpkohahabclgaaTrimC
import Derived.Test.YtjpkohahabclgaaSymC
namespace Go.Proofs.Ytjpkohahabclgaa
open Go.ChangeShapes Go.WideShapes Go.ChangeAt Go.RowKit
set_option maxRecDepth 100000
theorem not_small_all : ordL.all (fun c => !bigN (c.toNat : Int) || !hasN 960 c) = true := by decide
theorem big_not960 {c : UInt8} (h : bigN (c.toNat : Int) = true) : hasN 960 c = false := by
  have := List.all_eq_true.1 not_small_all c (bigs_ord h)
  rw [h] at this
  simpa using this
theorem syms_mem {t : List UInt8} {c : UInt8} (h : c ∈ symsL t 65 5) : c ∈ t ∧ bigN (c.toNat : Int) = true := by
  unfold symsL at h
  obtain ⟨h1, h2⟩ := List.mem_filter.1 h
  refine ⟨by simpa using h2, ?_⟩
  rw [show (List.range 5).map (fun i => byteN (65 + i)) = [65, 66, 67, 68, 69] from by decide] at h1
  simp only [List.mem_cons, List.not_mem_nil, or_false] at h1
  rcases h1 with rfl | rfl | rfl | rfl | rfl <;> decide
theorem rule_use {st : ByteArray} {rs : List RuleT} (hok : gramOkB st rs = true) {r : RuleT} (hr : r ∈ trimL st rs) {c : UInt8} (hb : bigN (c.toNat : Int) = true) (hc : c ∈ r.1.data.toList ∨ c ∈ r.2.data.toList) : hasN (leftsLeast (trimL st rs) 960) c = true ∧ hasN (metLeast st (trimL st rs)) c = true := by
  obtain ⟨d, hd, hdb⟩ := ok_mem (ok_trim hok) hr
  obtain ⟨hru, hdm⟩ := (mem_trim hd).1 hr
  have hrp : usefulP rs r = true := (List.mem_filter.1 hru).2
  have hrr := (List.mem_filter.1 hru).1
  have hmc := (metClosed_iff st (usefulL rs) _).1 (metLeast_closed st (usefulL rs))
  have key : hasN (leftsLeast rs 960) c = true ∧ hasN (metLeast st (usefulL rs)) c = true := by
    rcases hc with hc | hc
    · rw [hd] at hc
      obtain rfl : c = d := by simpa using hc
      have := (leftsClosed_iff rs 960 _).1 (leftsLeast_closed rs 960) r hrr hrp
      rw [hd, show (⟨#[c]⟩ : ByteArray).data.toList = [c] from rfl, setN_one] at this
      exact ⟨hasN_of_sub (bigs_ord hb) this, hdm⟩
    · have h1 := hasAll_mem (show hasAllN (leftsLeast rs 960 ||| 960) r.2.data.toList = true from hrp) c hc
      rw [hasN_or, big_not960 hb, Bool.or_false] at h1
      exact ⟨h1, hmc.2 r hru (by rw [leftB_one hd]; exact hdm) c hc hb⟩
  exact ⟨made_trim hok key.1 key.2, by rw [met_trim hok]; exact key.2⟩
theorem bigs_use {st : ByteArray} {rs : List RuleT} (hok : gramOkB st rs = true) {c : UInt8} (hc : c ∈ symsL (gramTextL st (trimL st rs)) 65 5) (hn : ¬ (⟨#[c]⟩ : ByteArray) = st) : hasN (leftsLeast (trimL st rs) 960) c = true ∧ hasN (metLeast st (trimL st rs)) c = true := by
  obtain ⟨ht, hb⟩ := syms_mem hc
  have h10 : c ≠ 10 := by rintro rfl; revert hb; decide
  have h62 : c ≠ 62 := by rintro rfl; revert hb; decide
  unfold gramTextL at ht
  rw [if_pos (ok_trim hok), text_mem st _ _ c h10 h62] at ht
  unfold allTo at ht
  rw [List.take_length] at ht
  rcases List.mem_append.1 ht with h | h
  · exfalso
    obtain ⟨d, hd, _⟩ := ok_start1 hok
    rw [hd] at h
    obtain rfl : c = d := by simpa using h
    exact hn hd.symm
  · obtain ⟨r, hr, hcr⟩ := List.mem_flatMap.1 h
    exact rule_use hok hr hb (List.mem_append.1 hcr)
theorem sGramTrim_all (st : ByteArray) (a : Option Addr) (cap : Nat) (rs : List RuleT) (w : World) (H : RulesAt w a rs) (hcap : rs.length ≤ cap) :
    Calls Try.prog 31 #[.agg #[.string st, .slice a rs.length cap]] w (TrimSays st rs w) := by
  have hbw := ((Below.refl w.heap.size w).alloc (Nat.le_refl _) (.cells #[.string st, .slice a rs.length cap] 24)).alloc (by simp) (.cells #[.string ⟨#[]⟩, .slice none 0 0] 24)
  have hG : BoxG ((w.alloc (.cells #[.string st, .slice a rs.length cap] 24)).alloc (.cells #[.string ⟨#[]⟩, .slice none 0 0] 24)) w.heap.size (.string st) (.slice a rs.length cap) := BoxG.old (blk_new _ _ rfl) _
  have hZ : BoxG ((w.alloc (.cells #[.string st, .slice a rs.length cap] 24)).alloc (.cells #[.string ⟨#[]⟩, .slice none 0 0] 24)) (w.heap.size + 1) (.string ⟨#[]⟩) (.slice none 0 0) := blk_new _ _ (by simp)
  go_enter Try.func31, Try.ntmps31
  go_wp2_with fail
  refine (sGramOk_any _ _ _ rs _ (H.below hbw (Nat.le_refl _)) hcap).mono ?_
  rintro e w2 ⟨rfl, hb2⟩
  have c2 : Below w.heap.size w w2 := hbw.trans (hb2.mono (by simp; omega))
  have hG2 := hG.below hb2
  have hZ2 := hZ.below hb2
  clear hb2 hbw hG hZ
  cases hok : gramOkB st rs with
  | false =>
    have e1 : trimS st rs = ⟨#[]⟩ := by simp [trimS, hok]
    have e2 : trimR st rs = [] := by simp [trimR, hok]
    obtain ⟨z0, z1, zf0, zf1⟩ := hZ2.cells
    go_wp2
    refine bodyPost_ret (v := .agg #[.string ⟨#[]⟩, .slice none 0 0]) (by simp [results, Try.results31, go_sem, z0, z1]) rfl ?_
    unfold TrimSays
    rw [e1, e2]
    exact ⟨none, 0, rfl, Nat.le_refl _, ⟨by simp [maxLen], fun i h => absurd h (Nat.not_lt_zero i)⟩, (c2.setCell (p := ⟨w.heap.size + 1, 0, none⟩) (Nat.le_succ _) _).setCell (p := ⟨w.heap.size + 1, 1, none⟩) (Nat.le_succ _) _⟩
  | true =>
    have e1 : trimS st rs = st := by simp [trimS, hok]
    have e2 : trimR st rs = trimL st rs := by simp [trimR, hok]
    obtain ⟨g0, g1, _, _⟩ := hG2.cells
    go_wp2_with fail
    refine (l2Useful_any st a cap rs _ (H.below c2 (Nat.le_refl _)) hok).mono ?_
    rintro e w3 ⟨v, rfl, hO, hb3⟩
    have hZ3 := hZ2.below hb3
    have c3 : Below w.heap.size w w3 := c2.trans (hb3.mono c2.size)
    have hZl := hZ2.lt
    obtain ⟨z0, z1, zf0, zf1⟩ := hZ3.cells
    obtain ⟨g', cp', e, hgB, hcp, _, _⟩ := OwnR.at hO (ok_small (ok_trim hok)) (by have := (gramOk_facts (ok_trim hok)).2.1; omega)
    subst e
    have hO' := (hO.store (p := ⟨w.heap.size + 1, 0, none⟩) hZ3 (by decide) (.string st)).store (p := ⟨w.heap.size + 1, 1, none⟩) (hZ3.set0 _) (by decide) (.slice (some ⟨g', 0, none⟩) (trimL st rs).length cp')
    obtain ⟨g2, cp2, e, _, hcp2, _, HU⟩ := OwnR.at hO' (ok_small (ok_trim hok)) (by have := (gramOk_facts (ok_trim hok)).2.1; omega)
    simp only [Value.slice.injEq, Option.some.injEq, Addr.mk.injEq] at e
    obtain ⟨⟨rfl, _⟩, _, rfl⟩ := e
    go_wp2
    refine bodyPost_ret (v := .agg #[.string st, .slice (some ⟨g', 0, none⟩) (trimL st rs).length cp']) (by simp [results, Try.results31, go_sem, z0, z1]) rfl ?_
    unfold TrimSays
    rw [e1, e2]
    exact ⟨_, _, rfl, hcp2, HU, (c3.setCell (p := ⟨w.heap.size + 1, 0, none⟩) (Nat.le_succ _) _).setCell (p := ⟨w.heap.size + 1, 1, none⟩) (Nat.le_succ _) _⟩
end Go.Proofs.Ytjpkohahabclgaa
