/- The contract of the program's GramText. -/
import Derived.Test.YtngekjbdjnfhmaaTextA
namespace Go.Proofs.Ytngekjbdjnfhmaa
open Go.ChangeShapes Go.WideShapes Go.ChangeAt Go.RowKit
set_option maxRecDepth 100000
/-- the builder in block b, made since B, holds these bytes -/
def Builds (B b : Nat) (l : List UInt8) (w : World) : Prop := Lib.IsBuilder 51 5 B b (Lib.byteCells l) w
theorem Builds.alloc {B b : Nat} {l : List UInt8} {w : World} (h : Builds B b l w) (o : Obj) : Builds B b l (w.alloc o) := by
  rcases h with h | h
  · have hlt := h.lt
    obtain ⟨h1, v, h2, h3, h4⟩ := h
    exact .inl ⟨h1, v, by rw [blk_old _ _ hlt]; exact h2, h3.alloc _, h4⟩
  · have hlt := h.lt
    obtain ⟨h1, v, h2, h3, h4⟩ := h
    exact .inr ⟨h1, v, by rw [blk_old _ _ hlt]; exact h2, h3.alloc _, h4⟩
theorem write_any (B b : Nat) (l : List UInt8) (m : List UInt8) (w : World) (h : Builds B b l w) (hlen : l.length + m.length ≤ 1048576) (hB : B ≤ w.heap.size) :
    Calls Try.prog 20 #[.pointer (some ⟨b, 0, none⟩), .string (bytesOf m)] w fun e w' => e = .returned (.tuple #[.int .i64 (m.length : Nat), .nilIface]) ∧ Builds B b (l ++ m) w' ∧ Below B w w' :=
  (writeString_any B b _ (bytesOf m) w h (by rw [Lib.byteCells_length, bytesOf_size]; omega) hB).mono fun e w' ⟨he, hb, hbel⟩ =>
    ⟨by rw [he, bytesOf_size], .inr (by rw [Lib.byteCells_append]; exact hb), hbel⟩
theorem ruleText_cat (r : RuleT) : cat (cat (cat r.1.data.toList (⟨#[62]⟩ : ByteArray)) r.2) (⟨#[10]⟩ : ByteArray) = ruleTextL r := by simp [cat, ruleTextL]

end Go.Proofs.Ytngekjbdjnfhmaa
