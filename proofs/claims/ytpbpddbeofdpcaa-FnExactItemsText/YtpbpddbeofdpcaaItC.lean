/- Boxes of three cells; szItem, toItem of the exact laws; an item that came in as an argument. -/
import Derived.Test.YtpbpddbeofdpcaaItB
import Derived.Test.YtpbpddbeofdpcaaOpenG
namespace Go.Proofs.Ytpbpddbeofdpcaa
open Go.ChangeShapes Go.WideShapes Go.ChangeAt Go.RowKit Go.Joins Go.Deep
set_option maxRecDepth 100000
def Box3 (w : World) (b : Nat) (v0 v1 v2 : Value) : Prop := b < w.heap.size ∧ w.cell? ⟨b, 0, none⟩ = some v0 ∧ w.cell? ⟨b, 1, none⟩ = some v1 ∧ w.cell? ⟨b, 2, none⟩ = some v2
theorem Box3.below {w w' : World} {b : Nat} {v0 v1 v2 : Value} (h : Box3 w b v0 v1 v2) (hb : Below w.heap.size w w') : Box3 w' b v0 v1 v2 :=
  ⟨Nat.lt_of_lt_of_le h.1 hb.size, (hb.cell (p := ⟨b, 0, none⟩) h.1).trans h.2.1, (hb.cell (p := ⟨b, 1, none⟩) h.1).trans h.2.2.1, (hb.cell (p := ⟨b, 2, none⟩) h.1).trans h.2.2.2⟩
theorem Box3.new (w : World) (v0 v1 v2 : Value) (T : TypeId) : Box3 (w.alloc (.cells #[v0, v1, v2] T)) w.heap.size v0 v1 v2 := ⟨by simp, by simp, by simp, by simp⟩
theorem Box3.old {w : World} {b : Nat} {v0 v1 v2 : Value} (h : Box3 w b v0 v1 v2) (o : Obj) : Box3 (w.alloc o) b v0 v1 v2 := h.below ((Below.refl _ _).alloc (Nat.le_refl _) _)
theorem keep5 {w : World} {b c : Nat} {v0 v1 u0 u1 u2 : Value} (X : Box2 w b v0 v1) (Y : Box3 w c u0 u1 u2) : w.cell? ⟨b, 0, none⟩ = some v0 ∧ w.cell? ⟨b, 1, none⟩ = some v1 ∧ w.cell? ⟨c, 0, none⟩ = some u0 ∧ w.cell? ⟨c, 1, none⟩ = some u1 ∧ w.cell? ⟨c, 2, none⟩ = some u2 := ⟨X.2.1, X.2.2, Y.2⟩
theorem keep4' {w : World} {b c : Nat} {v0 v1 u0 u1 : Value} (X : Box2 w b v0 v1) (Y : Box2 w c u0 u1) : w.cell? ⟨b, 0, none⟩ = some v0 ∧ w.cell? ⟨b, 1, none⟩ = some v1 ∧ w.cell? ⟨c, 0, none⟩ = some u0 ∧ w.cell? ⟨c, 1, none⟩ = some u1 := ⟨X.2.1, X.2.2, Y.2⟩
def szItemM (s : ByteArray) (left : Int) : Int := if left - s.size < 0 then -1 else left - s.size
theorem szItemM_le (s : ByteArray) (left : Int) (h : 0 ≤ left) : szItemM s left ≤ left ∧ -1 ≤ szItemM s left := by
  unfold szItemM; split <;> omega
theorem szItem_any (r d : Int) (s : ByteArray) (left : Int) (w : World) (h0 : 0 ≤ left) (h1 : left ≤ 1048576) (hs : s.size ≤ maxLen) :
    Calls Try.prog 8 #[.agg #[.int .i64 r, .int .i64 d, .string s], .int .i64 left] w fun e w' => e = .returned (.int .i64 (szItemM s left)) ∧ Below w.heap.size w w' := by
  unfold maxLen at hs
  by_cases c1 : left - (s.size : Int) < 0
  · go_enter Try.func8, Try.ntmps8
    go_wp2
    go_ret
    exact ⟨ret_int (by unfold szItemM; rw [if_pos c1]), (Below.refl _ _).alloc (Nat.le_refl _) _⟩
  · go_enter Try.func8, Try.ntmps8
    go_wp2
    go_ret
    exact ⟨ret_int (by unfold szItemM; rw [if_neg (by omega)]), (Below.refl _ _).alloc (Nat.le_refl _) _⟩
theorem toItem_any (r d : Int) (s : ByteArray) (w : World) :
    Calls Try.prog 11 #[.agg #[.int .i64 r, .int .i64 d, .string s]] w fun e w' => e = .returned (.agg #[.int .i64 r, .int .i64 d, .string s]) ∧ Below w.heap.size w w' := by
  go_enter Try.func11, Try.ntmps11
  go_wp2
  exact bodyPost_ret (v := .agg #[.int .i64 r, .int .i64 d, .string s]) (by simp [results, Try.results11, go_sem]) rfl ⟨rfl, (((Below.refl _ _).alloc (Nat.le_refl _) _).alloc (by simp) _).alloc (by simp; omega) _⟩
section
variable {H : Type} {enc : TypeId × Value → H} {W : World} {base : Nat} {spare : Nat → Bool} {held : Bool}
theorem open_item_cells {fuel : Nat} {v0 v1 v2 : Value} {x : DataW H × List MemPlace} (h : DataW.trod enc Try.prog W base spare held fuel 26 [v0, v1, v2] = some x) :
    ∃ (r d : Int) (s : ByteArray), v0 = .int .i64 r ∧ v1 = .int .i64 d ∧ v2 = .string s ∧ s.size ≤ maxLen := by
  obtain ⟨xs, n, hf, _, _, hxl, hfs⟩ := DataW.trod_struct Try.underlying26 h
  match xs, hxl with
  | [y0, y1, y2], _ =>
    have h0 := hfs 0 _ rfl
    have h1 := hfs 1 _ rfl
    have h2 := hfs 2 _ rfl
    have k0 : Try.prog.cellsOf 9 = 1 := by kernel_rfl
    have k1 : Try.prog.cellsOf 3 = 1 := by kernel_rfl
    simp [k1] at h0
    simp [k1] at h1
    simp [k0] at h2
    obtain ⟨r, e0, _, _⟩ := DataW.trod_int Try.underlying3 h0
    obtain ⟨d, e1, _, _⟩ := DataW.trod_int Try.underlying3 h1
    obtain ⟨s, e2, _, hs⟩ := DataW.trod_string Try.underlying9 h2
    exact ⟨r, d, s, by simpa using e0, by simpa using e1, by simpa using e2, hs⟩
theorem open_item {r : Reach} {b0 : Nat} {v : Value} {d : DataW H} {p : List MemPlace} (hv : Value.okWide Try.prog W r b0 26 v) (h : DataW.Trod enc Try.prog W base spare held 26 v d p) :
    ∃ (r d : Int) (s : ByteArray), v = .agg #[.int .i64 r, .int .i64 d, .string s] ∧ s.size ≤ maxLen := by
  obtain ⟨cs, rfl, hsz⟩ := okWide_struct Try.underlying26 hv
  obtain ⟨c0, c1, c2, rfl⟩ := array3 (hsz.trans (by kernel_rfl : Try.prog.cellsOf 26 = 3))
  obtain ⟨fuel, hf⟩ := h
  obtain ⟨r, d, s, rfl, rfl, rfl, hs⟩ := open_item_cells hf
  exact ⟨r, d, s, rfl, hs⟩
end
end Go.Proofs.Ytpbpddbeofdpcaa
