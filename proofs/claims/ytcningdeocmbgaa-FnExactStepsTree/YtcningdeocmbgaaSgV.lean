/- StepsTree of the program and of the model, in one form. -/
import Derived.Test.YtcningdeocmbgaaSgG
import Derived.Test.YtcningdeocmbgaaStB
import Derived.Test.YtcningdeocmbgaaTokV
import Derived.Test.YtcningdeocmbgaaMkT
import Derived.Test.YtcningdeocmbgaaStC
namespace Go.Proofs.Ytcningdeocmbgaa
open Go.ChangeShapes Go.WideShapes Go.ChangeAt Go.RowKit Go.Deep
set_option maxRecDepth 100000
/-- the tree and the bool -/
def stRes (M : Option Tr) : Tr × Bool := match M with
  | none => (.node ⟨#[]⟩ 0 [], false)
  | some T => (T, true)
/-- what the program's StepsTree gives, in one form -/
def Gives (M : Option Tr) (w : World) (e : Ending) (w' : World) : Prop := Below w.heap.size w w' ∧ ∃ t a cap, OT.tr t = (stRes M).1 ∧ e = .returned (.tuple #[.agg #[.string t.s, .int .i64 t.r, .slice a t.ks.length cap], .bool (stRes M).2]) ∧ KidOk w' (t.s, t.r, .slice a t.ks.length cap) t ∧ t.bs.Nodup ∧ (∀ b ∈ t.bs, w.heap.size ≤ b) ∧ t.tr.sz ≤ 201
/-- what the model's gives -/
def SGives (M : Option Tr) (w : World) (e : Ending) (w' : World) : Prop := Below w.heap.size w w' ∧ ∃ v, e = .returned (.tuple #[v, .bool (stRes M).2]) ∧ TrIn w' 0 v (stRes M).1
theorem zero_kid (w : World) : KidOk w (⟨#[]⟩, 0, .slice none 0 0) (.node 0 ⟨#[]⟩ 0 []) := ⟨none, 0, rfl, Nat.le_refl _, by show 0 ≤ _; exact Nat.zero_le _, by decide, Nat.zero_le _, .none 0 none⟩
theorem stepsTree_two (st : ByteArray) (ag : Option Addr) (cg : Nat) (rs : List RuleT) (s : ByteArray) (c : Option Addr) (cup : Nat) (zs : List StpT) (w : World) (HR : RulesAt w ag rs) (hcg : rs.length ≤ cg) (hs : s.size ≤ maxLen) (HS : StepsAt w c zs) (hcup : zs.length ≤ cup) :
    Calls Try.prog 10 #[.agg #[.string st, .slice ag rs.length cg], .string s, .slice c zs.length cup] w (Gives (stepsTreeM st rs s zs) w) := by
  refine (stepsTree_any st ag cg rs s c cup zs w HR hcg hs HS hcup).mono ?_
  rintro e w' ⟨hb, ⟨hM, rfl⟩ | ⟨t, a, cap, hM, rfl, h1, h2, h3, h4⟩⟩
  · rw [hM]
    exact ⟨hb, .node 0 ⟨#[]⟩ 0 [], none, 0, by rw [OT.tr]; rfl, rfl, zero_kid _, by rw [OT.bs]; simp, fun b hb => by rw [OT.bs] at hb; simp at hb, by rw [OT.tr, Tr.sz]; simp⟩
  · rw [hM]
    exact ⟨hb, t, a, cap, rfl, rfl, h1, h2, h3, h4⟩
theorem sStepsTree_two (st : ByteArray) (ag : Option Addr) (cg : Nat) (rs : List RuleT) (s : ByteArray) (c : Option Addr) (cup : Nat) (zs : List StpT) (w : World) (HR : RulesAt w ag rs) (hcg : rs.length ≤ cg) (hs : s.size ≤ maxLen) (HS : StepsAt w c zs) :
    Calls Try.prog 7 #[.agg #[.string st, .slice ag rs.length cg], .string s, .slice c zs.length cup] w (SGives (stepsTreeM st rs s zs) w) := by
  refine (sStepsTree_any st ag cg rs s c cup zs w HR hcg hs HS).mono ?_
  rintro e w' ⟨hb, ⟨hM, rfl⟩ | ⟨v, T, hM, rfl, h1⟩⟩
  · rw [hM]
    refine ⟨hb, _, rfl, ?_⟩
    have h := (zero_kid w').tree
    rw [OT.tr] at h
    exact h
  · rw [hM]
    exact ⟨hb, v, rfl, h1⟩
theorem keep3' {w : World} {c : Nat} {u0 u1 u2 : Value} (Y : Box3 w c u0 u1 u2) : w.cell? ⟨c, 0, none⟩ = some u0 ∧ w.cell? ⟨c, 1, none⟩ = some u1 ∧ w.cell? ⟨c, 2, none⟩ = some u2 := Y.2
theorem keep2' {w : World} {c : Nat} {u0 u1 : Value} (Y : Box2 w c u0 u1) : w.cell? ⟨c, 0, none⟩ = some u0 ∧ w.cell? ⟨c, 1, none⟩ = some u1 := Y.2
end Go.Proofs.Ytcningdeocmbgaa
