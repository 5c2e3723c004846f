/- GramTrim of the program at any rules; what fewer rules come to. -/
import Derived.Test.YtjpkohahabclgaaTrimB
import Derived.Test.YtjpkohahabclgaaMetL
namespace Go.Proofs.Ytjpkohahabclgaa
open Go.ChangeShapes Go.WideShapes Go.ChangeAt Go.RowKit
set_option maxRecDepth 100000
theorem trim_sub (st : ByteArray) (rs : List RuleT) : ∀ r ∈ trimL st rs, r ∈ rs := fun _ hr => (List.mem_filter.1 (List.mem_filter.1 hr).1).1
theorem ok_trim {st : ByteArray} {rs : List RuleT} (h : gramOkB st rs = true) : gramOkB st (trimL st rs) = true := ok_filter _ (ok_filter _ h)
theorem least_fewer {us rs : List RuleT} (h : ∀ r ∈ us, r ∈ rs) (g : Nat) : Sub (leftsLeast us g) (leftsLeast rs g) := by
  refine leftsLeast_sub ?_
  rw [leftsClosed_iff]
  exact fun r hr hh => (leftsClosed_iff rs g _).1 (leftsLeast_closed rs g) r (h r hr) hh
theorem met_fewer {st : ByteArray} {us rs : List RuleT} (h : ∀ r ∈ us, r ∈ rs) : Sub (metLeast st us) (metLeast st rs) := by
  refine metLeast_sub (metLeast_lt _ _) ?_
  have hc := (metClosed_iff st rs _).1 (metLeast_closed st rs)
  rw [metClosed_iff]
  exact ⟨hc.1, fun r hr => hc.2 r (h r hr)⟩
theorem met_start {st : ByteArray} {rs : List RuleT} {c : UInt8} (hst : st = ⟨#[c]⟩) (hb : bigN (c.toNat : Int) = true) : hasN (metLeast st rs) c = true := by
  have h := ((metClosed_iff st rs _).1 (metLeast_closed st rs)).1
  rw [show setN st.data.toList = bitN c from by rw [hst]; exact setN_one c] at h
  exact hasN_of_sub (bigs_ord hb) h
theorem gramTrim_no (st : ByteArray) (a : Option Addr) (cap : Nat) (rs : List RuleT) (w : World) (H : RulesAt w a rs) (hcap : rs.length ≤ cap) (hok : gramOkB st rs = false) :
    Calls Try.prog 32 #[.agg #[.string st, .slice a rs.length cap]] w fun e w' => e = .returned (.agg #[.string ⟨#[]⟩, .slice none 0 0]) ∧ Below w.heap.size w w' := by
  have hbw := ((Below.refl w.heap.size w).alloc (Nat.le_refl _) (.cells #[.string st, .slice a rs.length cap] 24)).alloc (by simp) (.cells #[.string ⟨#[]⟩, .slice none 0 0] 24)
  have hZ : BoxG ((w.alloc (.cells #[.string st, .slice a rs.length cap] 24)).alloc (.cells #[.string ⟨#[]⟩, .slice none 0 0] 24)) (w.heap.size + 1) (.string ⟨#[]⟩) (.slice none 0 0) := blk_new _ _ (by simp)
  go_enter Try.func32, Try.ntmps32
  go_wp2_with fail
  refine (gramOk_any _ _ _ rs _ (H.below hbw (Nat.le_refl _)) hcap).mono ?_
  rintro e w2 ⟨rfl, hb2⟩
  rw [hok]
  have c2 : Below w.heap.size w w2 := hbw.trans (hb2.mono (by simp; omega))
  obtain ⟨z0, z1, zf0, zf1⟩ := (hZ.below hb2).cells
  clear hb2 hbw hZ
  go_wp2
  exact bodyPost_ret (v := .agg #[.string ⟨#[]⟩, .slice none 0 0]) (by simp [results, Try.results32, go_sem, z0, z1]) rfl ⟨rfl, (c2.setCell (p := ⟨w.heap.size + 1, 0, none⟩) (Nat.le_succ _) _).setCell (p := ⟨w.heap.size + 1, 1, none⟩) (Nat.le_succ _) _⟩
def trimS (st : ByteArray) (rs : List RuleT) : ByteArray := if gramOkB st rs = true then st else ⟨#[]⟩
def trimR (st : ByteArray) (rs : List RuleT) : List RuleT := if gramOkB st rs = true then trimL st rs else []
/-- what GramTrim gives: rules of its own -/
def TrimSays (st : ByteArray) (rs : List RuleT) (w : World) (e : Ending) (w' : World) : Prop := ∃ au cu, e = .returned (.agg #[.string (trimS st rs), .slice au (trimR st rs).length cu]) ∧ (trimR st rs).length ≤ cu ∧ RulesAt w' au (trimR st rs) ∧ Below w.heap.size w w'
theorem gramTrim_all (st : ByteArray) (a : Option Addr) (cap : Nat) (rs : List RuleT) (w : World) (H : RulesAt w a rs) (hcap : rs.length ≤ cap) :
    Calls Try.prog 32 #[.agg #[.string st, .slice a rs.length cap]] w (TrimSays st rs w) := by
  cases hok : gramOkB st rs with
  | false =>
    have e1 : trimS st rs = ⟨#[]⟩ := by simp [trimS, hok]
    have e2 : trimR st rs = [] := by simp [trimR, hok]
    refine (gramTrim_no st a cap rs w H hcap hok).mono ?_
    rintro e w' ⟨rfl, hb⟩
    unfold TrimSays
    rw [e1, e2]
    exact ⟨none, 0, rfl, Nat.le_refl _, ⟨by simp [maxLen], fun i h => absurd h (Nat.not_lt_zero i)⟩, hb⟩
  | true =>
    have e1 : trimS st rs = st := by simp [trimS, hok]
    have e2 : trimR st rs = trimL st rs := by simp [trimR, hok]
    refine (gramTrim_any st a cap rs w H hcap hok).mono ?_
    rintro e w' ⟨v, rfl, hO, hb⟩
    unfold TrimSays
    rw [e1, e2]
    obtain ⟨au, cu, rfl, hcu, HU⟩ := OwnN.at hO (ok_small (ok_trim hok)) (by have := (gramOk_facts (ok_trim hok)).2.1; omega)
    exact ⟨au, cu, rfl, hcu, HU, hb⟩
end Go.Proofs.Ytjpkohahabclgaa
