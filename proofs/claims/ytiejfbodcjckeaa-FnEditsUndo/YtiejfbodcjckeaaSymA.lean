/- The contract of symbolsBetween, GramBigs and GramSmalls of the program. -/
import Derived.Test.YtiejfbodcjckeaaTextB
import Derived.Laws.IdiomStrings
import Derived.Lib.BufferRead
namespace Go.Proofs.Ytiejfbodcjckeaa
open Go.ChangeShapes Go.WideShapes Go.ChangeAt Go.RowKit
set_option maxRecDepth 100000
theorem infoByte : (Try.prog.info? 5).map (fun i => (i.zero, i.size, i.bytes)) = some (some (.int .u8 0), 1, 1) := by kernel_rfl
/-- the place of a byte in a text, or -1 -/
def placeB (t : List UInt8) (c : Int) : Int := Lib.indexByte t c.toNat.toUInt8
theorem indexByte_mem (t : List UInt8) (c : UInt8) : (0 ≤ Lib.indexByte t c ↔ c ∈ t) ∧ -1 ≤ Lib.indexByte t c := by
  induction t with
  | nil => simp [Lib.indexByte]
  | cons b l ih =>
    unfold Lib.indexByte
    by_cases h : b = c
    · subst h; simp
    · have h' : (b == c) = false := by simpa using h
      rw [h']
      simp only [Bool.false_eq_true, if_false]
      by_cases h2 : Lib.indexByte l c = -1
      · rw [if_pos (by simpa using h2)]
        have : ¬ c ∈ l := fun hm => by have := ih.1.2 hm; omega
        simp [this, Ne.symm h]
      · rw [if_neg (by simpa using h2)]
        have h3 : 0 ≤ Lib.indexByte l c := by have := ih.2; omega
        have := ih.1.1 h3
        simp [this]
        omega
theorem placeB_any (s : ByteArray) (c : Int) (w : World) :
    Calls Try.prog 48 #[.string s, .int .u8 c] w fun e w' => e = .returned (.int .i64 (placeB s.data.toList c)) ∧ w = w' := indexByte_any s c w
def byteN (n : Nat) : UInt8 := UInt8.ofNat n
theorem byteN_toNat {n : Nat} (h : n < 256) : (byteN n).toNat = n := by unfold byteN; simp; omega
/-- of k bytes from lo on those that are in t -/
def symsL (t : List UInt8) (lo k : Nat) : List UInt8 := ((List.range k).map fun i => byteN (lo + i)).filter fun c => t.contains c
theorem symsL_succ (t : List UInt8) (lo k : Nat) : symsL t lo (k + 1) = symsL t lo k ++ (if 0 ≤ placeB t ((lo : Int) + (k : Int)) then [byteN (lo + k)] else []) := by
  have e : ((lo : Int) + (k : Int)).toNat.toUInt8 = byteN (lo + k) := by
    rw [show ((lo : Int) + (k : Int)).toNat = lo + k from by omega]; rfl
  have hm := (indexByte_mem t (byteN (lo + k))).1
  unfold symsL placeB
  rw [List.range_succ, List.map_append, List.filter_append, e]
  by_cases h : byteN (lo + k) ∈ t
  · rw [if_pos (hm.2 h)]; simp [h]
  · rw [if_neg (fun h' => h (hm.1 h'))]; simp [h]
theorem symsL_len (t : List UInt8) (lo k : Nat) : (symsL t lo k).length ≤ k := by
  unfold symsL
  have := List.length_filter_le (fun c => t.contains c) ((List.range k).map fun i => byteN (lo + i))
  simpa using this
theorem convert_own {B : Nat} {v : Value} {l : List UInt8} {w : World} (h : w.ownsRow B 5 1 v l.length (Lib.byteCells l)) : (convert 42 9 v).run Try.prog w = .ok (.string (bytesOf l)) w := by
  rcases h.2 with ⟨rfl, h0⟩ | ⟨g, cap, cur, rfl, _, hg, _, _, _, htk⟩
  · have : l = [] := List.eq_nil_of_length_eq_zero h0
    subst this
    exact Lib.run_convert_nil_bytes w _ _ 5 0 Try.underlying42 Try.underlying5 Try.underlying9
  · exact run_convert_bytes_back w _ _ 5 ⟨g, 0, none⟩ cap l Try.underlying42 Try.underlying5 Try.underlying9 (Lib.bytes_of_row hg (by simpa using htk))

end Go.Proofs.Ytiejfbodcjckeaa
