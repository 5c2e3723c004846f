/- A text and an edit are drawn: the contracts of l4Text and l8Any. -/
import Derived.Test.YtiejfbodcjckeaaEdE
import Derived.Test.YtiejfbodcjckeaaDrawH
namespace Go.Proofs.Ytiejfbodcjckeaa
open Go.ChangeShapes Go.WideShapes Go.ChangeAt Go.RowKit
set_option maxRecDepth 100000
def eF (k a : Int) (g : ByteArray) (i : Nat) : Value := if i = 0 then .int .i64 k else if i = 1 then .int .i64 a else .string g
/-- an edit of the call's own, that may be written -/
def EdAt (w : World) (b : Nat) (k a : Int) (g : ByteArray) : Prop := ∃ T, w.rowIs b T 3 (eF k a g)
theorem EdAt.lt {w : World} {b : Nat} {k a : Int} {g : ByteArray} (h : EdAt w b k a g) : b < w.heap.size := by
  obtain ⟨T, h⟩ := h
  exact h.lt
theorem EdAt.cells {w : World} {b : Nat} {k a : Int} {g : ByteArray} (h : EdAt w b k a g) : w.cell? ⟨b, 0, none⟩ = some (.int .i64 k) ∧ w.cell? ⟨b, 1, none⟩ = some (.int .i64 a) ∧ w.cell? ⟨b, 2, none⟩ = some (.string g) ∧ w.frozen? ⟨b, 0, none⟩ = false ∧ w.frozen? ⟨b, 1, none⟩ = false ∧ w.frozen? ⟨b, 2, none⟩ = false := by
  obtain ⟨T, h⟩ := h
  exact ⟨h.cell (i := 0) (by omega), h.cell (i := 1) (by omega), h.cell (i := 2) (by omega), h.frozen 0, h.frozen 1, h.frozen 2⟩
theorem EdAt.new (w : World) (k a : Int) (g : ByteArray) (T : TypeId) : EdAt (w.alloc (.cells #[.int .i64 k, .int .i64 a, .string g] T)) w.heap.size k a g :=
  ⟨T, World.rowIs_alloc w #[.int .i64 k, .int .i64 a, .string g] T (eF k a g) (fun i hi => by
    have : i = 0 ∨ i = 1 ∨ i = 2 := by simp at hi; omega
    rcases this with e | e | e <;> subst e <;> rfl)⟩
theorem EdAt.block {w w' : World} {b : Nat} {k a : Int} {g : ByteArray} (h : EdAt w b k a g) (hb : w'.heap[b]? = w.heap[b]?) : EdAt w' b k a g := by
  obtain ⟨T, h⟩ := h
  exact ⟨T, h.of_block hb⟩
theorem EdAt.alloc {w : World} {b : Nat} {k a : Int} {g : ByteArray} (h : EdAt w b k a g) (o : Obj) : EdAt (w.alloc o) b k a g := by
  obtain ⟨T, h⟩ := h
  exact ⟨T, h.alloc o⟩
theorem EdAt.only {w w' : World} {b R : Nat} {k a : Int} {g : ByteArray} (h : EdAt w b k a g) (ho : Only R w w') (hR : b ≠ R) : EdAt w' b k a g := h.block (ho.block b h.lt hR)
theorem EdAt.keep {w w' : World} {b B : Nat} {k a : Int} {g : ByteArray} (h : EdAt w b k a g) (hb : Below B w w') (hB : w.heap.size ≤ B) : EdAt w' b k a g := h.block (hb.block b (Nat.lt_of_lt_of_le h.lt hB))
theorem EdAt.set0 {w : World} {b : Nat} {k a : Int} {g : ByteArray} (h : EdAt w b k a g) (z : Int) : EdAt (w.setCell ⟨b, 0, none⟩ (.int .i64 z)) b z a g := by
  obtain ⟨T, h⟩ := h
  exact ⟨T, (h.set 0 _).congr (fun i hi => by
    have : i = 0 ∨ i = 1 ∨ i = 2 := by omega
    rcases this with e | e | e <;> subst e <;> rfl)⟩
theorem EdAt.set1 {w : World} {b : Nat} {k a : Int} {g : ByteArray} (h : EdAt w b k a g) (z : Int) : EdAt (w.setCell ⟨b, 1, none⟩ (.int .i64 z)) b k z g := by
  obtain ⟨T, h⟩ := h
  exact ⟨T, (h.set 1 _).congr (fun i hi => by
    have : i = 0 ∨ i = 1 ∨ i = 2 := by omega
    rcases this with e | e | e <;> subst e <;> rfl)⟩
theorem EdAt.set2 {w : World} {b : Nat} {k a : Int} {g : ByteArray} (h : EdAt w b k a g) (z : ByteArray) : EdAt (w.setCell ⟨b, 2, none⟩ (.string z)) b k a z := by
  obtain ⟨T, h⟩ := h
  exact ⟨T, (h.set 2 _).congr (fun i hi => by
    have : i = 0 ∨ i = 1 ∨ i = 2 := by omega
    rcases this with e | e | e <;> subst e <;> rfl)⟩
theorem EdAt.other {w : World} {b : Nat} {k a : Int} {g : ByteArray} (h : EdAt w b k a g) {p : Addr} (hp : b ≠ p.block) (v : Value) : EdAt (w.setCell p v) b k a g := by
  obtain ⟨T, h⟩ := h
  exact ⟨T, h.setOther hp v⟩
/-- an edit was drawn -/
def DrawnE (R k : Nat) (w : World) (e : Ending) (w' : World) : Prop := ∃ z a g, e = .returned (.agg #[.int .i64 z, .int .i64 a, .string g]) ∧ EditWf (z, a, g) ∧ g.size ≤ 2 ∧ Rdk w' R k ∧ Only R w w'
set_option maxHeartbeats 1000000 in
theorem l4Text_any (R k n : Nat) (w : World) (H : Rdk w R k) (hk : k + n ≤ 1000000) (hn : n ≤ 1000) :
    Calls Try.prog 36 #[.pointer (some ⟨R, 0, none⟩), .int .i64 (n : Int)] w (DrawnS (fun s => s.size ≤ n) R (k + n) w) := by
  go_enter Try.func36, Try.ntmps36
  go_wp2
  go_loopw [5, 6] (fun o i wr => ∃ (j : Nat) (l : List UInt8), j ≤ n ∧ i = .int .i64 j ∧ o = .string (bytesOf l) ∧ l.length ≤ j ∧ Rdk wr R (k + j) ∧ Only R w wr) (fun _ i _ => n - (intOf i).toNat)
  case atStart => exact ⟨0, [], Nat.zero_le _, rfl, rfl, Nat.le_refl _, H, Only.refl _ _⟩
  case round =>
    obtain ⟨j, l, hj, rfl, rfl, hl, hrd, ho⟩ := hrel
    by_cases hlt : j < n
    · have hjn : (j : Int) < (n : Int) := by omega
      go_wp2_with fail
      refine (of_any R (k + j) wr.heap.size 6 _ [⟨#[97]⟩, ⟨#[98]⟩, ⟨#[97]⟩, ⟨#[99]⟩, ⟨#[98]⟩, ⟨#[100]⟩] _ (hrd.alloc _) (by omega) rfl (by omega) (by omega) (by have := hrd.lt; omega) (lit_cells wr [⟨#[97]⟩, ⟨#[98]⟩, ⟨#[97]⟩, ⟨#[99]⟩, ⟨#[98]⟩, ⟨#[100]⟩] _)).mono ?_
      rintro e w' ⟨s, rfl, hs, hrd', ho'⟩
      have hs1 : s.size = 1 := by
        simp only [List.mem_cons, List.not_mem_nil, or_false] at hs
        rcases hs with rfl | rfl | rfl | rfl | rfl | rfl <;> rfl
      have hadd := run_add_bytes (P := Try.prog) l s (by omega)
      have hcl : (cat l s).length ≤ j + 1 := by rw [cat_len]; omega
      have ho2 : Only R w w' := (ho.alloc _).trans ho'
      clear hs hs1
      go_wp2
      go_roundw
      case rel => exact ⟨j + 1, cat l s, by omega, by go_num, rfl, hcl, hrd', ho2⟩
      case measure => simp [intOf]; omega
    · go_wp2
      go_ret
      exact ⟨_, rfl, by show (bytesOf l).size ≤ n; rw [bytesOf_size]; omega, hrd.mono (by omega), ho⟩
theorem wf_i64 {z : Int} (h0 : -9223372036854775808 ≤ z) (h1 : z ≤ 9223372036854775807) : (Lit.int .i64 z).wf = true := by
  have e0 : IntKind.i64.min = -9223372036854775808 := rfl
  have e1 : IntKind.i64.max = 9223372036854775807 := rfl
  simp only [Lit.wf, e0, e1, Bool.and_eq_true, decide_eq_true_eq]
  exact ⟨h0, h1⟩
theorem EdAt.cells3 {w : World} {b : Nat} {k a : Int} {g : ByteArray} (h : EdAt w b k a g) : Cells3 w b := by
  obtain ⟨T, h⟩ := h
  exact ⟨T, _, h⟩
theorem drawn_end {R k m : Nat} {w w' : World} {z a : Int} {g : ByteArray} (hz0 : -9223372036854775808 ≤ z) (hz1 : z ≤ 9223372036854775807) (ha0 : -9223372036854775808 ≤ a) (ha1 : a ≤ 9223372036854775807) (hg : g.size ≤ 2)
    (hr : Rdk w' R m) (hm : m ≤ k) (ho : Only R w w') (hR : R < w.heap.size) : DrawnE R k w (.returned (.agg #[.int .i64 z, .int .i64 a, .string g])) (((w'.setCell ⟨w.heap.size, 0, none⟩ (.int .i64 z)).setCell ⟨w.heap.size, 1, none⟩ (.int .i64 a)).setCell ⟨w.heap.size, 2, none⟩ (.string g)) :=
  ⟨z, a, g, rfl, ⟨wf_i64 hz0 hz1, wf_i64 ha0 ha1, by show g.size ≤ maxLen; unfold maxLen; omega⟩, hg,
    (((hr.other (p := ⟨w.heap.size, 0, none⟩) hR _).other (p := ⟨w.heap.size, 1, none⟩) hR _).other (p := ⟨w.heap.size, 2, none⟩) hR _).mono hm,
    ((ho.store (Nat.le_refl _) (p := ⟨w.heap.size, 0, none⟩) (Nat.le_refl _) _).store (Nat.le_refl _) (p := ⟨w.heap.size, 1, none⟩) (Nat.le_refl _) _).store (Nat.le_refl _) (p := ⟨w.heap.size, 2, none⟩) (Nat.le_refl _) _⟩
set_option maxHeartbeats 2000000 in
theorem l8Any_any (R k : Nat) (s : ByteArray) (w : World) (H : Rdk w R k) (hk : k + 10 ≤ 1000000) (hs : s.size ≤ 1000) :
    Calls Try.prog 46 #[.pointer (some ⟨R, 0, none⟩), .string s] w (DrawnE R (k + 5) w) := by
  have hRl := H.lt
  have r1 := H.alloc (.cells #[.int .i64 0, .int .i64 0, .string ⟨#[]⟩] 27)
  have o1 := (Only.refl R w).alloc (.cells #[.int .i64 0, .int .i64 0, .string ⟨#[]⟩] 27)
  have E1 := EdAt.new w 0 0 ⟨#[]⟩ 27
  go_enter Try.func46, Try.ntmps46
  have hwR : w.heap.size ≠ R := by omega
  go_wp2_with fail
  have hs1 : (w.alloc (.cells #[.int .i64 0, .int .i64 0, .string ⟨#[]⟩] 27)).heap.size = w.heap.size + 1 := by simp
  rw [← hs1]
  clear hs1
  generalize w.alloc (.cells #[.int .i64 0, .int .i64 0, .string ⟨#[]⟩] 27) = w1 at *
  refine (num_any R k w1.heap.size 5 _ [1, 2, 3, 1, 3] _ (r1.alloc _) (by omega) rfl (by omega) (by omega) (by have := r1.lt; omega) (lit_ints w1 [1, 2, 3, 1, 3] _)).mono ?_
  rintro e w2 ⟨z, rfl, hz, r2, o2⟩
  have hz1 : 1 ≤ z ∧ z ≤ 3 := by
    simp only [List.mem_cons, List.not_mem_nil, or_false] at hz
    omega
  have E2 := (E1.alloc _).only o2 hwR
  have o2' := (o1.alloc _).trans o2
  clear hz E1 o1 r1 o2
  go_wp2_with fail
  refine (pick_any R (k + 1) ((s.size : Int) + 1) _ r2 (by omega) (by omega) (by omega)).mono ?_
  rintro e w3 ⟨a, rfl, ⟨ha0, ha1, _⟩, r3, o3⟩
  have ha2 := ha1 (by omega)
  have E3 := E2.only o3 hwR
  have o3' := o2'.trans o3
  clear ha1 E2 o2' r2 o3
  go_wp2_with fail
  refine (of_any R (k + 2) w3.heap.size 5 _ [⟨#[97]⟩, ⟨#[98]⟩, ⟨#[99]⟩, ⟨#[100]⟩, ⟨#[98]⟩] _ (r3.alloc _) (by omega) rfl (by omega) (by omega) (by have := r3.lt; omega) (lit_cells w3 [⟨#[97]⟩, ⟨#[98]⟩, ⟨#[99]⟩, ⟨#[100]⟩, ⟨#[98]⟩] _)).mono ?_
  rintro e w4 ⟨g, rfl, hg, r4, o4⟩
  have hg1 : g.size ≤ 2 := by
    simp only [List.mem_cons, List.not_mem_nil, or_false] at hg
    rcases hg with rfl | rfl | rfl | rfl | rfl <;> decide
  have E4 := (E3.alloc _).only o4 hwR
  have o4' := (o3'.alloc _).trans o4
  clear hg E3 o3' r3 o4
  have hs4 : R < w4.heap.size := r4.lt
  have hbR : w4.heap.size ≠ R := by omega
  have hbw : w.heap.size < w4.heap.size := E4.lt
  by_cases hz2 : z = 2
  · subst hz2
    have E6 := EdAt.new w4 2 a ⟨#[]⟩ 27
    have X6 := E4.alloc (.cells #[.int .i64 2, .int .i64 a, .string ⟨#[]⟩] 27)
    have r6 := r4.alloc (.cells #[.int .i64 2, .int .i64 a, .string ⟨#[]⟩] 27)
    have o6 := o4'.alloc (.cells #[.int .i64 2, .int .i64 a, .string ⟨#[]⟩] 27)
    have hg6 : (⟨#[]⟩ : ByteArray).size ≤ 2 := Nat.zero_le _
    clear E4 r4 o4'
    go_wp2_with fail
    generalize w4.alloc (.cells #[.int .i64 2, .int .i64 a, .string ⟨#[]⟩] 27) = w6 at *
    generalize w4.heap.size = B at *
    refine (pick_any R (k + 3) 48 _ r6 (by omega) (by omega) (by omega)).mono ?_
    rintro e w7 ⟨v, rfl, ⟨hv0, hv1, _⟩, r7, o7⟩
    have hv2 := hv1 (by omega)
    have E7 := E6.only o7 hbR
    have X7 := X6.only o7 hwR
    have o7' := o6.trans o7
    clear E6 X6 r6 o6 o7 hv1
    by_cases q0 : v = 0
    · subst q0
      go_wp2_with fail
      refine (num_any R (k + 4) w7.heap.size 3 _ [0, 4, -1] _ (r7.alloc _) (by omega) rfl (by omega) (by omega) (by have := r7.lt; omega) (lit_ints w7 [0, 4, -1] _)).mono ?_
      rintro e w8 ⟨x, rfl, hx, r8, o8⟩
      have hx1 : -1 ≤ x ∧ x ≤ 4 := by
        simp only [List.mem_cons, List.not_mem_nil, or_false] at hx
        omega
      have E8 := (E7.alloc _).only o8 hbR
      have X8 := (X7.alloc _).only o8 hwR
      have o8' := (o7'.alloc _).trans o8
      clear hx E7 X7 r7 o7' o8
      have E9 := E8.set0 x
      have X9 := X8.other (p := ⟨B, 0, none⟩) (by show w.heap.size ≠ B; omega) (.int .i64 x)
      have r9 := r8.other (p := ⟨B, 0, none⟩) (by show R < B; omega) (.int .i64 x)
      have o9 := o8'.store (Nat.le_refl _) (p := ⟨B, 0, none⟩) (by show w.heap.size ≤ B; omega) (.int .i64 x)
      obtain ⟨c0, c1, c2, z0, z1, z2⟩ := E8.cells
      obtain ⟨d0, d1, d2, y0, y1, y2⟩ := X8.cells
      clear E8 X8 r8 o8' E9
      go_wp2
      obtain ⟨p0, p1, p2⟩ := X9.cells3.put (.int .i64 x) (.int .i64 a) (.string ⟨#[]⟩)
      exact bodyPost_ret (v := .agg #[.int .i64 x, .int .i64 a, .string ⟨#[]⟩]) (by simp [results, Try.results46, go_sem, p0, p1, p2]) rfl (drawn_end (by omega) (by omega) (by omega) (by omega) hg6 r9 (by omega) o9 hRl)
    by_cases q1 : v = 1
    · subst q1
      go_wp2_with fail
      refine (num_any R (k + 4) w7.heap.size 3 _ [-1, 99, 9223372036854775807] _ (r7.alloc _) (by omega) rfl (by omega) (by omega) (by have := r7.lt; omega) (lit_ints w7 [-1, 99, 9223372036854775807] _)).mono ?_
      rintro e w8 ⟨x, rfl, hx, r8, o8⟩
      have hx1 : -1 ≤ x ∧ x ≤ 9223372036854775807 := by
        simp only [List.mem_cons, List.not_mem_nil, or_false] at hx
        omega
      have E8 := (E7.alloc _).only o8 hbR
      have X8 := (X7.alloc _).only o8 hwR
      have o8' := (o7'.alloc _).trans o8
      clear hx E7 X7 r7 o7' o8 q0
      have X9 := X8.other (p := ⟨B, 1, none⟩) (by show w.heap.size ≠ B; omega) (.int .i64 x)
      have r9 := r8.other (p := ⟨B, 1, none⟩) (by show R < B; omega) (.int .i64 x)
      have o9 := o8'.store (Nat.le_refl _) (p := ⟨B, 1, none⟩) (by show w.heap.size ≤ B; omega) (.int .i64 x)
      obtain ⟨c0, c1, c2, z0, z1, z2⟩ := E8.cells
      obtain ⟨d0, d1, d2, y0, y1, y2⟩ := X8.cells
      clear E8 X8 r8 o8'
      go_wp2
      obtain ⟨p0, p1, p2⟩ := X9.cells3.put (.int .i64 2) (.int .i64 x) (.string ⟨#[]⟩)
      exact bodyPost_ret (v := .agg #[.int .i64 2, .int .i64 x, .string ⟨#[]⟩]) (by simp [results, Try.results46, go_sem, p0, p1, p2]) rfl (drawn_end (by omega) (by omega) (by omega) (by omega) hg6 r9 (by omega) o9 hRl)
    by_cases q2 : v = 2
    · subst q2
      go_wp2_with fail
      refine (of_any R (k + 4) w7.heap.size 4 _ [⟨#[]⟩, ⟨#[65]⟩, ⟨#[101]⟩, ⟨#[97, 98]⟩] _ (r7.alloc _) (by omega) rfl (by omega) (by omega) (by have := r7.lt; omega) (lit_cells w7 [⟨#[]⟩, ⟨#[65]⟩, ⟨#[101]⟩, ⟨#[97, 98]⟩] _)).mono ?_
      rintro e w8 ⟨x, rfl, hx, r8, o8⟩
      have hx1 : x.size ≤ 2 := by
        simp only [List.mem_cons, List.not_mem_nil, or_false] at hx
        rcases hx with rfl | rfl | rfl | rfl <;> decide
      have E8 := (E7.alloc _).only o8 hbR
      have X8 := (X7.alloc _).only o8 hwR
      have o8' := (o7'.alloc _).trans o8
      clear hx E7 X7 r7 o7' o8 q0 q1
      have X9 := X8.other (p := ⟨B, 2, none⟩) (by show w.heap.size ≠ B; omega) (.string x)
      have r9 := r8.other (p := ⟨B, 2, none⟩) (by show R < B; omega) (.string x)
      have o9 := o8'.store (Nat.le_refl _) (p := ⟨B, 2, none⟩) (by show w.heap.size ≤ B; omega) (.string x)
      obtain ⟨c0, c1, c2, z0, z1, z2⟩ := E8.cells
      obtain ⟨d0, d1, d2, y0, y1, y2⟩ := X8.cells
      clear E8 X8 r8 o8'
      go_wp2
      obtain ⟨p0, p1, p2⟩ := X9.cells3.put (.int .i64 2) (.int .i64 a) (.string x)
      exact bodyPost_ret (v := .agg #[.int .i64 2, .int .i64 a, .string x]) (by simp [results, Try.results46, go_sem, p0, p1, p2]) rfl (drawn_end (by omega) (by omega) (by omega) (by omega) hx1 r9 (by omega) o9 hRl)
    have e0 : (v == 0) = false := by simpa using q0
    have e1 : (v == 1) = false := by simpa using q1
    have e2 : (v == 2) = false := by simpa using q2
    clear q0 q1 q2
    obtain ⟨c0, c1, c2, z0, z1, z2⟩ := E7.cells
    obtain ⟨d0, d1, d2, y0, y1, y2⟩ := X7.cells
    go_wp2
    obtain ⟨p0, p1, p2⟩ := X7.cells3.put (.int .i64 2) (.int .i64 a) (.string ⟨#[]⟩)
    exact bodyPost_ret (v := .agg #[.int .i64 2, .int .i64 a, .string ⟨#[]⟩]) (by simp [results, Try.results46, go_sem, p0, p1, p2]) rfl (drawn_end (by omega) (by omega) (by omega) (by omega) hg6 r7 (by omega) o7' hRl)
  · have e2z : (z == 2) = false := by simpa using hz2
    clear hz2
    have E6 := EdAt.new w4 z a g 27
    have X6 := E4.alloc (.cells #[.int .i64 z, .int .i64 a, .string g] 27)
    have r6 := r4.alloc (.cells #[.int .i64 z, .int .i64 a, .string g] 27)
    have o6 := o4'.alloc (.cells #[.int .i64 z, .int .i64 a, .string g] 27)
    have hg6 : (g : ByteArray).size ≤ 2 := hg1
    clear E4 r4 o4'
    go_wp2_with fail
    generalize w4.alloc (.cells #[.int .i64 z, .int .i64 a, .string g] 27) = w6 at *
    generalize w4.heap.size = B at *
    refine (pick_any R (k + 3) 48 _ r6 (by omega) (by omega) (by omega)).mono ?_
    rintro e w7 ⟨v, rfl, ⟨hv0, hv1, _⟩, r7, o7⟩
    have hv2 := hv1 (by omega)
    have E7 := E6.only o7 hbR
    have X7 := X6.only o7 hwR
    have o7' := o6.trans o7
    clear E6 X6 r6 o6 o7 hv1
    by_cases q0 : v = 0
    · subst q0
      go_wp2_with fail
      refine (num_any R (k + 4) w7.heap.size 3 _ [0, 4, -1] _ (r7.alloc _) (by omega) rfl (by omega) (by omega) (by have := r7.lt; omega) (lit_ints w7 [0, 4, -1] _)).mono ?_
      rintro e w8 ⟨x, rfl, hx, r8, o8⟩
      have hx1 : -1 ≤ x ∧ x ≤ 4 := by
        simp only [List.mem_cons, List.not_mem_nil, or_false] at hx
        omega
      have E8 := (E7.alloc _).only o8 hbR
      have X8 := (X7.alloc _).only o8 hwR
      have o8' := (o7'.alloc _).trans o8
      clear hx E7 X7 r7 o7' o8
      have E9 := E8.set0 x
      have X9 := X8.other (p := ⟨B, 0, none⟩) (by show w.heap.size ≠ B; omega) (.int .i64 x)
      have r9 := r8.other (p := ⟨B, 0, none⟩) (by show R < B; omega) (.int .i64 x)
      have o9 := o8'.store (Nat.le_refl _) (p := ⟨B, 0, none⟩) (by show w.heap.size ≤ B; omega) (.int .i64 x)
      obtain ⟨c0, c1, c2, z0, z1, z2⟩ := E8.cells
      obtain ⟨d0, d1, d2, y0, y1, y2⟩ := X8.cells
      clear E8 X8 r8 o8' E9
      go_wp2
      obtain ⟨p0, p1, p2⟩ := X9.cells3.put (.int .i64 x) (.int .i64 a) (.string g)
      exact bodyPost_ret (v := .agg #[.int .i64 x, .int .i64 a, .string g]) (by simp [results, Try.results46, go_sem, p0, p1, p2]) rfl (drawn_end (by omega) (by omega) (by omega) (by omega) hg6 r9 (by omega) o9 hRl)
    by_cases q1 : v = 1
    · subst q1
      go_wp2_with fail
      refine (num_any R (k + 4) w7.heap.size 3 _ [-1, 99, 9223372036854775807] _ (r7.alloc _) (by omega) rfl (by omega) (by omega) (by have := r7.lt; omega) (lit_ints w7 [-1, 99, 9223372036854775807] _)).mono ?_
      rintro e w8 ⟨x, rfl, hx, r8, o8⟩
      have hx1 : -1 ≤ x ∧ x ≤ 9223372036854775807 := by
        simp only [List.mem_cons, List.not_mem_nil, or_false] at hx
        omega
      have E8 := (E7.alloc _).only o8 hbR
      have X8 := (X7.alloc _).only o8 hwR
      have o8' := (o7'.alloc _).trans o8
      clear hx E7 X7 r7 o7' o8 q0
      have X9 := X8.other (p := ⟨B, 1, none⟩) (by show w.heap.size ≠ B; omega) (.int .i64 x)
      have r9 := r8.other (p := ⟨B, 1, none⟩) (by show R < B; omega) (.int .i64 x)
      have o9 := o8'.store (Nat.le_refl _) (p := ⟨B, 1, none⟩) (by show w.heap.size ≤ B; omega) (.int .i64 x)
      obtain ⟨c0, c1, c2, z0, z1, z2⟩ := E8.cells
      obtain ⟨d0, d1, d2, y0, y1, y2⟩ := X8.cells
      clear E8 X8 r8 o8'
      go_wp2
      obtain ⟨p0, p1, p2⟩ := X9.cells3.put (.int .i64 z) (.int .i64 x) (.string g)
      exact bodyPost_ret (v := .agg #[.int .i64 z, .int .i64 x, .string g]) (by simp [results, Try.results46, go_sem, p0, p1, p2]) rfl (drawn_end (by omega) (by omega) (by omega) (by omega) hg6 r9 (by omega) o9 hRl)
    by_cases q2 : v = 2
    · subst q2
      go_wp2_with fail
      refine (of_any R (k + 4) w7.heap.size 4 _ [⟨#[]⟩, ⟨#[65]⟩, ⟨#[101]⟩, ⟨#[97, 98]⟩] _ (r7.alloc _) (by omega) rfl (by omega) (by omega) (by have := r7.lt; omega) (lit_cells w7 [⟨#[]⟩, ⟨#[65]⟩, ⟨#[101]⟩, ⟨#[97, 98]⟩] _)).mono ?_
      rintro e w8 ⟨x, rfl, hx, r8, o8⟩
      have hx1 : x.size ≤ 2 := by
        simp only [List.mem_cons, List.not_mem_nil, or_false] at hx
        rcases hx with rfl | rfl | rfl | rfl <;> decide
      have E8 := (E7.alloc _).only o8 hbR
      have X8 := (X7.alloc _).only o8 hwR
      have o8' := (o7'.alloc _).trans o8
      clear hx E7 X7 r7 o7' o8 q0 q1
      have X9 := X8.other (p := ⟨B, 2, none⟩) (by show w.heap.size ≠ B; omega) (.string x)
      have r9 := r8.other (p := ⟨B, 2, none⟩) (by show R < B; omega) (.string x)
      have o9 := o8'.store (Nat.le_refl _) (p := ⟨B, 2, none⟩) (by show w.heap.size ≤ B; omega) (.string x)
      obtain ⟨c0, c1, c2, z0, z1, z2⟩ := E8.cells
      obtain ⟨d0, d1, d2, y0, y1, y2⟩ := X8.cells
      clear E8 X8 r8 o8'
      go_wp2
      obtain ⟨p0, p1, p2⟩ := X9.cells3.put (.int .i64 z) (.int .i64 a) (.string x)
      exact bodyPost_ret (v := .agg #[.int .i64 z, .int .i64 a, .string x]) (by simp [results, Try.results46, go_sem, p0, p1, p2]) rfl (drawn_end (by omega) (by omega) (by omega) (by omega) hx1 r9 (by omega) o9 hRl)
    have e0 : (v == 0) = false := by simpa using q0
    have e1 : (v == 1) = false := by simpa using q1
    have e2 : (v == 2) = false := by simpa using q2
    clear q0 q1 q2
    obtain ⟨c0, c1, c2, z0, z1, z2⟩ := E7.cells
    obtain ⟨d0, d1, d2, y0, y1, y2⟩ := X7.cells
    go_wp2
    obtain ⟨p0, p1, p2⟩ := X7.cells3.put (.int .i64 z) (.int .i64 a) (.string g)
    exact bodyPost_ret (v := .agg #[.int .i64 z, .int .i64 a, .string g]) (by simp [results, Try.results46, go_sem, p0, p1, p2]) rfl (drawn_end (by omega) (by omega) (by omega) (by omega) hg6 r7 (by omega) o7' hRl)
end Go.Proofs.Ytiejfbodcjckeaa
