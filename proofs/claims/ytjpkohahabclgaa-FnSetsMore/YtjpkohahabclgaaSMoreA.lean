/- With a rule more: the sets of the longer list of rules. -/
import Derived.Test.YtjpkohahabclgaaMetL
import Derived.Test.YtjpkohahabclgaaLawN
import Derived.Test.YtjpkohahabclgaaMetE
namespace Go.Proofs.Ytjpkohahabclgaa
open Go.ChangeShapes Go.WideShapes Go.ChangeAt Go.RowKit
set_option maxRecDepth 100000
def dada : ByteArray := ⟨#[100, 97, 100, 97]⟩
theorem leftsClosed_less {rs : List RuleT} {r : RuleT} {g S : Nat} (h : leftsClosedB (rs ++ [r]) g S = true) : leftsClosedB rs g S = true := by
  rw [leftsClosed_iff] at *
  exact fun x hx hh => h x (List.mem_append_left _ hx) hh
theorem least_more (rs : List RuleT) (r : RuleT) (g : Nat) : Sub (leftsLeast rs g) (leftsLeast (rs ++ [r]) g) :=
  leftsLeast_sub (leftsClosed_less (leftsLeast_closed _ _))
theorem metClosed_less {st : ByteArray} {rs : List RuleT} {r : RuleT} {S : Nat} (h : metClosedB st (rs ++ [r]) S = true) : metClosedB st rs S = true := by
  rw [metClosed_iff] at *
  exact ⟨h.1, fun x hx => h.2 x (List.mem_append_left _ hx)⟩
theorem met_more (st : ByteArray) (rs : List RuleT) (r : RuleT) : Sub (metLeast st rs) (metLeast st (rs ++ [r])) :=
  metLeast_sub (metLeast_lt _ _) (metClosed_less (metLeast_closed _ _))
theorem none_bigs {st : ByteArray} {rs : List RuleT} (hok : gramOkB st rs = true) (g : Nat) : Sub (leftsLeast rs g) 62 := by
  refine leftsLeast_sub ?_
  rw [leftsClosed_iff]
  intro r hr _
  obtain ⟨k, hk, rfl⟩ := List.getElem_of_mem hr
  obtain ⟨c, hc, hb⟩ := ok_left hok hk
  rw [hc, show (⟨#[c]⟩ : ByteArray).data.toList = [c] from rfl, setN_one]
  exact bit_big hb
theorem none_more {st : ByteArray} {rs : List RuleT} (hok : gramOkB st rs = true) (left : ByteArray) : leftsLeast (rs ++ [(left, dada)]) 0 = leftsLeast rs 0 := by
  refine leastN_eq ?_ (leftsLeast_lt _ _) (fun S _ hS => leftsLeast_sub (leftsClosed_less hS))
  rw [leftsClosed_iff]
  intro r hr hh
  rcases List.mem_append.1 hr with hr | hr
  · exact (leftsClosed_iff rs 0 _).1 (leftsLeast_closed rs 0) r hr hh
  · exfalso
    obtain rfl : r = (left, dada) := by simpa using hr
    unfold hasAllN at hh
    rw [List.all_eq_true] at hh
    have h1 := hh 100 (by show (100 : UInt8) ∈ [100, 97, 100, 97]; simp)
    rw [Nat.or_zero] at h1
    have h2 := hasN_mono (none_bigs hok 0) h1
    exact absurd h2 (by decide)
theorem made_more (rs : List RuleT) {c : UInt8} (hb : bigN (c.toNat : Int) = true) : hasN (leftsLeast (rs ++ [(⟨#[c]⟩, dada)]) 960) c = true := by
  have h := (leftsClosed_iff (rs ++ [(⟨#[c]⟩, dada)]) 960 _).1 (leftsLeast_closed _ _) (⟨#[c]⟩, dada) (by simp) (hasAllN_mono (sub_or_right _ _) (show hasAllN 960 dada.data.toList = true by decide))
  rw [show (⟨#[c]⟩ : ByteArray).data.toList = [c] from rfl, setN_one] at h
  exact hasN_of_sub (bigs_ord hb) h
theorem text_mono {a b : Nat} (h : Sub a b) {c : UInt8} (hc : c ∈ textN a) : c ∈ textN b := by
  have h1 := (List.mem_filter.1 hc)
  exact List.mem_filter.2 ⟨h1.1, hasN_mono h h1.2⟩
theorem bytesOf_app (x y : List UInt8) : bytesOf x ++ bytesOf y = bytesOf (x ++ y) := bytesOf_ext (by simp [bytesOf])
end Go.Proofs.Ytjpkohahabclgaa
