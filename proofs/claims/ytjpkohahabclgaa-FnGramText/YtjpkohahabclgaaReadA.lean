/- Contracts of strings.Cut at one byte, and of the scanner of lines. -/
import Derived.Test.YtjpkohahabclgaaReadM
import Derived.Test.YtjpkohahabclgaaHas
import Derived.Laws.Strings3
namespace Go.Proofs.Ytjpkohahabclgaa
open Go.ChangeShapes Go.WideShapes Go.ChangeAt Go.RowKit
set_option maxRecDepth 100000
theorem sIndexByte_any (s : ByteArray) (c : Int) (w : World) :
    Calls Try.prog 136 #[.string s, .int .u8 c] w fun e w' => e = .returned (.int .i64 (Lib.indexByte s.data.toList c.toNat.toUInt8)) ∧ w = w' :=
  (Any.stringslite_IndexByte { lay137 with } s c w).mono fun _ _ ⟨h1, h2⟩ => ⟨h1, h2.symm⟩
theorem one_idx (c : UInt8) : Lib.indexByte [c] c = 0 := by simp [Lib.indexByte]
set_option maxHeartbeats 2000000 in
theorem index1_any (s sp : ByteArray) (c : UInt8) (hsp : sp.data.toList = [c]) (w : World) :
    Calls Try.prog 127 #[.string s, .string sp] w fun e w' => e = .returned (.int .i64 (Lib.indexByte s.data.toList c)) ∧ w = w' := by
  have hz : sp.size = 1 := by have := congrArg List.length hsp; simpa using this
  have h0 : 0 < sp.size := by omega
  have hc : sp[0] = c := by
    have h2 : sp.data.toList[0]? = some c := by rw [hsp]; rfl
    have h3 : sp.data.toList[0]? = some sp[0] := by rw [List.getElem?_eq_getElem (by simpa using h0)]; rfl
    rw [h3] at h2; exact Option.some.inj h2
  have HC := Lib.hid hc
  have t1 : ((sp.size : Int) == 0) = false := by rw [hz]; rfl
  have t2 : ((sp.size : Int) == 1) = true := by rw [hz]; rfl
  have t3 : (0 : Int) < (sp.size : Int) := by omega
  cases he : (sp.toList == s.toList) with
  | true =>
    have hs : s = sp := (tl_inj (by simpa using he)).symm
    have HS : Hid (s.data.toList = [c]) := by show _ = _; rw [hs, hsp]
    clear hc hz hs hsp
    go_enter Try.func127, Try.ntmps127
    go_wp2
    go_ret
    exact ⟨ret_int (by rw [HS.out, one_idx]), rfl⟩
  | false =>
    clear hc hz hsp
    go_enter Try.func127, Try.ntmps127
    go_wp2_with (go_at_call 136; refine (sIndexByte_any _ _ _).mono ?_; rintro e w' ⟨rfl, rfl⟩)
    go_ret
    exact ⟨ret_int (by rw [HC.out]), rfl⟩
theorem ext_list (l : List UInt8) (a b : Nat) : (bytesOf l).extract a b = bytesOf ((l.take b).drop a) := bytesOf_ext (by simp [bytesOf, List.extract_eq_take_drop, List.drop_take])
/-- what strings.Cut tells -/
def CutSays (l : List UInt8) (c : UInt8) (e : Ending) : Prop := (cutAt l c = none ∧ e = .returned (.tuple #[.string (bytesOf l), .string (bytesOf []), .bool false])) ∨ ∃ x y, cutAt l c = some (x, y) ∧ l = x ++ c :: y ∧ e = .returned (.tuple #[.string (bytesOf x), .string (bytesOf y), .bool true])
set_option maxHeartbeats 2000000 in
theorem sCut_any (l : List UInt8) (sp : ByteArray) (c : UInt8) (hsp : sp.data.toList = [c]) (hl : l.length ≤ 9000000000) (w : World) :
    Calls Try.prog 94 #[.string (bytesOf l), .string sp] w fun e w' => CutSays l c e ∧ Below w.heap.size w w' := by
  have hz : sp.size = 1 := by have := congrArg List.length hsp; simpa using this
  have hsl : (bytesOf l).size = l.length := bytesOf_size l
  rcases cutAt_index l c with ⟨h1, h2⟩ | ⟨x, y, h1, h2, h3⟩
  · have HI := Lib.hid h2
    have HC := Lib.hid h1
    clear h1 h2 hsl hz
    go_enter Try.func94, Try.ntmps94
    go_wp2_with (go_at_call 127; refine (index1_any _ sp c hsp _).mono ?_; rintro e w' ⟨rfl, rfl⟩; rw [show Lib.indexByte (bytesOf l).data.toList c = -1 from HI.out])
    go_ret3
    exact ⟨.inl ⟨HC.out, rfl⟩, Below.refl _ _⟩
  · have HI := Lib.hid h3
    have HC := Lib.hid h1
    have HL := Lib.hid h2
    have hll : x.length + 1 ≤ l.length := by rw [h2]; simp
    have hb1 : (x.length : Int) ≤ ((bytesOf l).size : Int) := by rw [hsl]; omega
    have hb2 : (x.length : Int) + 1 ≤ ((bytesOf l).size : Int) := by rw [hsl]; omega
    have hw : IntKind.i64.wrap ((x.length : Int) + (sp.size : Int)) = (x.length : Int) + 1 := by rw [hz]; exact IntWalk.i64_in _ (by omega)
    clear h1 h2 h3 hsl hz
    go_enter Try.func94, Try.ntmps94
    go_wp2_with (go_at_call 127; refine (index1_any _ sp c hsp _).mono ?_; rintro e w' ⟨rfl, rfl⟩; rw [show Lib.indexByte (bytesOf l).data.toList c = (x.length : Int) from HI.out])
    go_quiet (fail)
    go_wp2
    have e1 : (bytesOf l).extract 0 x.length = bytesOf x := by rw [ext_list, HL.out]; simp
    have e2 : (bytesOf l).extract (x.length + 1) (bytesOf l).size = bytesOf y := by rw [bytesOf_size, ext_list, List.take_length, HL.out]; simp
    rw [e1, e2]
    go_ret3
    exact ⟨.inr ⟨x, y, HC.out, HL.out, rfl⟩, ⟨rfl, rfl, rfl, by simp, fun _ _ => rfl⟩⟩
theorem cut_any (l : List UInt8) (sp : ByteArray) (c : UInt8) (hsp : sp.data.toList = [c]) (hl : l.length ≤ 9000000000) (w : World) :
    Calls Try.prog 53 #[.string (bytesOf l), .string sp] w fun e w' => CutSays l c e ∧ Below w.heap.size w w' := by
  go_enter Try.func53, Try.ntmps53
  go_wp2_with fail
  refine (sCut_any l sp c hsp hl w).mono ?_
  rintro e w' ⟨⟨h1, rfl⟩ | ⟨x, y, h1, h2, rfl⟩, hb⟩
  · have HC := Lib.hid h1
    clear h1
    go_wp2
    go_ret3
    exact ⟨.inl ⟨HC.out, rfl⟩, hb⟩
  · have HC := Lib.hid h1
    have HL := Lib.hid h2
    clear h1 h2
    go_wp2
    go_ret3
    exact ⟨.inr ⟨x, y, HC.out, HL.out, rfl⟩, hb⟩
/-- a variable that holds a text -/
def BoxS (w : World) (R : Nat) (r : List UInt8) : Prop := w.heap[R]? = some (.cells #[.string (bytesOf r)] 9)
theorem BoxS.lt {w : World} {R : Nat} {r : List UInt8} (h : BoxS w R r) : R < w.heap.size := (Array.getElem?_eq_some_iff.1 h).1
theorem BoxS.below {w w' : World} {R : Nat} {r : List UInt8} (h : BoxS w R r) (hb : Below w.heap.size w w') : BoxS w' R r := (hb.block R h.lt).trans h
theorem BoxS.cell {w : World} {R : Nat} {r : List UInt8} (h : BoxS w R r) : w.cell? ⟨R, 0, none⟩ = some (.string (bytesOf r)) ∧ w.frozen? ⟨R, 0, none⟩ = false := ⟨by rw [cell_of_block h 0]; rfl, frozen_of_block h 0⟩
theorem BoxS.set {w : World} {R : Nat} {r : List UInt8} (h : BoxS w R r) (y : List UInt8) : BoxS (w.setCell ⟨R, 0, none⟩ (.string (bytesOf y))) R y := by
  unfold BoxS at *
  simp [World.setCell, Array.getElem?_modify, h]
/-- what the scanner tells -/
def NextSays (R : Nat) (r : List UInt8) (w : World) (e : Ending) (w' : World) : Prop := (cutAt r 10 = none ∧ e = .returned (.tuple #[.string ⟨#[]⟩, .bool false]) ∧ Below w.heap.size w w') ∨ ∃ x y, cutAt r 10 = some (x, y) ∧ r = x ++ 10 :: y ∧ e = .returned (.tuple #[.string (bytesOf x), .bool true]) ∧ BoxS w' R y ∧ Only R w w'
set_option maxHeartbeats 2000000 in
theorem next_any (R : Nat) (r : List UInt8) (w : World) (H : BoxS w R r) (hl : r.length ≤ 9000000000) :
    Calls Try.prog 93 #[.pointer (some ⟨R, 0, none⟩)] w (NextSays R r w) := by
  obtain ⟨c0, f0⟩ := H.cell
  go_enter Try.func93, Try.ntmps93
  go_wp2_with fail
  refine (cut_any r _ 10 rfl hl _).mono ?_
  rintro e w2 ⟨⟨h1, rfl⟩ | ⟨x, y, h1, h2, rfl⟩, hb⟩
  · have HC := Lib.hid h1
    clear h1
    go_wp2
    go_ret2
    exact .inl ⟨HC.out, rfl, hb⟩
  · have HC := Lib.hid h1
    have HL := Lib.hid h2
    have H2 := H.below hb
    obtain ⟨d0, g0⟩ := H2.cell
    clear h1 h2 c0 f0
    go_wp2
    go_ret2
    exact .inr ⟨x, y, HC.out, HL.out, rfl, H2.set y, (Only.of_below hb).trans ⟨rfl, rfl, rfl, by simp [World.setCell], fun j _ hj => Below.heap_setCell _ _ _ _ hj⟩⟩
end Go.Proofs.Ytjpkohahabclgaa
