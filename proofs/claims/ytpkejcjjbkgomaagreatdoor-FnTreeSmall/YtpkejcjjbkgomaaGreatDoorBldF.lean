/- A Builder beside other blocks of the call's own. -/
import Derived.Test.YtpkejcjjbkgomaaGreatDoorTextB
import Derived.Shelf.Strings.BuilderK
namespace Go.Proofs.YtpkejcjjbkgomaaGreatDoor
open Go.ChangeShapes Go.WideShapes Go.ChangeAt Go.RowKit Go.Deep Go.Shelf
set_option maxRecDepth 100000
/-- the builder in block b, its bytes wherever they lie -/
def BuildsF (b : Nat) (l : List UInt8) (w : World) : Prop := Lib.IsBuilderF 70 5 b b (Lib.byteCells l) w
theorem BuildsF.stay {b : Nat} {l : List UInt8} {w w' : World} (h : BuildsF b l w) (hb : w'.heap[b]? = w.heap[b]?) (hr : ∀ (k : Nat) c fz, w.heap[k]? = some (.cells c 5 fz) → w'.heap[k]? = w.heap[k]?) : BuildsF b l w' := by
  have one : ∀ p, Lib.BuilderAtF 70 5 b b p (Lib.byteCells l) w → Lib.BuilderAtF 70 5 b b p (Lib.byteCells l) w' := by
    rintro p ⟨h1, v, h2, ⟨h3, h4⟩, h5⟩
    refine ⟨h1, v, hb.trans h2, ⟨h3, ?_⟩, h5⟩
    rcases h4 with h4 | ⟨g, cap, cur, fz, e1, e2, e3, e4⟩
    · exact .inl h4
    · exact .inr ⟨g, cap, cur, fz, e1, e2, (hr g cur fz e3).trans e3, e4⟩
  rcases h with h | h
  · exact .inl (one _ h)
  · exact .inr (one _ h)
theorem writeF_any (b : Nat) (l : List UInt8) (s : ByteArray) (w : World) (h : BuildsF b l w) (hlen : l.length + s.size ≤ 100000000) (hB : b ≤ w.heap.size) :
    Calls Tryz.prog 36 #[.pointer (some ⟨b, 0, none⟩), .string s] w fun e w' => e = .returned (.tuple #[.int .i64 s.size, .nilIface]) ∧ BuildsF b (l ++ s.data.toList) w' ∧ Below b w w' ∧ Lib.OthersKept 5 (some b) w w' :=
  (Any.Builder_WriteString_k lay166 extra166 b b _ s w h (by rw [Lib.byteCells_length]; omega) hB).mono fun e w' ⟨he, hb, h1, h2⟩ =>
    ⟨he, .inr (by rw [Lib.byteCells_append]; exact hb), h1, h2⟩
theorem stringF_any (b : Nat) (l : List UInt8) (w : World) (h : BuildsF b l w) (hB : b ≤ w.heap.size) :
    Calls Tryz.prog 37 #[.pointer (some ⟨b, 0, none⟩)] w fun e w' => e = .returned (.string (bytesOf l)) ∧ Below b w w' ∧ Lib.OthersKept 5 (some b) w w' :=
  (Any.Builder_String_any_k lay169 extra169 b b l w h hB).mono fun _ _ ⟨he, _, h1, h2⟩ => ⟨he, h1, h2⟩
end Go.Proofs.YtpkejcjjbkgomaaGreatDoor
