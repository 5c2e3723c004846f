/- How a grammar that came in as an argument lies in memory. -/
import Derived.Test.YtcningdeocmbgaaLawB
import Derived.Deep.SlicePairs
import Derived.Lib.SmallJoins
import Derived.OpenShut
import Derived.ShutString
import Derived.ChangeOld
import Derived.Below
namespace Go.Proofs.Ytcningdeocmbgaa
open Go.ChangeShapes Go.WideShapes Go.ChangeAt Go.RowKit Go.Joins Go.Deep
theorem ownK : ownKnob Try.prog.godebug = none := by kernel_rfl
theorem laidOutP : laidOutB Try.prog = true := by kernel_rfl
def strOf : Value → ByteArray
  | .string s => s
  | _ => ByteArray.empty
section
variable {H : Type} {enc : TypeId × Value → H} {W : World} {base : Nat} {spare : Nat → Bool} {held : Bool}
theorem open_rules {fuel : Nat} {c : Value} {x : DataW H × List MemPlace} (h : DataW.trod enc Try.prog W base spare held fuel 22 [c] = some x) :
    ∃ (a : Option Addr) (cap : Nat) (rs : List RuleT), c = .slice a rs.length cap ∧ rs.length ≤ cap ∧ RulesAt W a rs := by
  rcases open_slice_pairs Try.underlying22 Try.underlying83 (by kernel_rfl) rfl rfl (by kernel_rfl) (by kernel_rfl) h with ⟨hc, _⟩ | ⟨a, len, cap, m, n, V0, V1, D0, D1, P0, P1, hc, _, hl, hm, hmm, _, hi⟩
  · obtain rfl : c = .slice none 0 0 := by simpa using hc
    exact ⟨none, 0, [], rfl, Nat.le_refl _, Nat.zero_le _, fun i hi => absurd hi (Nat.not_lt_zero _)⟩
  · obtain rfl : c = .slice (some a) len cap := by simpa using hc
    have hlm : len ≤ m := by rw [hmm]; split <;> omega
    refine ⟨some a, cap, (List.range len).map fun i => (strOf (V0 i), strOf (V1 i)), by simp, by simpa using hl, by simp; omega, fun i hi' => ?_⟩
    have hil : i < len := by simpa using hi'
    obtain ⟨e0, e1, t0, t1⟩ := hi i (by omega)
    obtain ⟨s0, q0, _, b0⟩ := DataW.trod_string Try.underlying9 t0
    obtain ⟨s1, q1, _, b1⟩ := DataW.trod_string Try.underlying9 t1
    obtain ⟨b, off, spot⟩ := a
    have hspot : spot = none := by simpa [Addr.add] using World.cell?_spot (hi 0 (by omega)).1
    subst hspot
    rw [add_plain] at e0 e1
    have q0' : V0 i = .string s0 := by simpa using q0
    have q1' : V1 i = .string s1 := by simpa using q1
    rw [q0'] at e0
    rw [q1'] at e1
    simp only [List.getElem_map, List.getElem_range, q0', q1', strOf]
    exact ⟨b0, b1, b, off, rfl, World.block_lt_of_cell? _ _ e0, e0, e1⟩
set_option maxRecDepth 100000 in
theorem open_gram {r : Reach} {b0 : Nat} {v : Value} {d : DataW H} {p : List MemPlace} (hv : Value.okWide Try.prog W r b0 24 v) (h : DataW.Trod enc Try.prog W base spare held 24 v d p) :
    ∃ (st : ByteArray) (a : Option Addr) (cap : Nat) (rs : List RuleT), v = .agg #[.string st, .slice a rs.length cap] ∧ st.size ≤ maxLen ∧ rs.length ≤ cap ∧ RulesAt W a rs := by
  obtain ⟨c0, c1, y0, y1, m, rfl, _, _, hy0, hy1⟩ := open_agg2 Try.underlying24 (by kernel_rfl) (by kernel_rfl) hv h
  obtain ⟨st, e0, _, hs⟩ := DataW.trod_string Try.underlying9 hy0
  obtain ⟨a, cap, rs, rfl, hl, hr⟩ := open_rules hy1
  obtain rfl : c0 = .string st := by simpa using e0
  exact ⟨st, a, cap, rs, rfl, hs, hl, hr⟩
end
end Go.Proofs.Ytcningdeocmbgaa
