/- Five sets, one for each nonterminal: contracts of their look-up and of their growth. -/
import Derived.Test.YtjpkohahabclgaaSetH
namespace Go.Proofs.Ytjpkohahabclgaa
open Go.ChangeShapes Go.WideShapes Go.ChangeAt Go.RowKit
set_option maxRecDepth 100000
/-- a set for each of A to E -/
structure V5 where
  a : Nat
  b : Nat
  c : Nat
  d : Nat
  e : Nat
def V5.get (v : V5) (c : UInt8) : Nat := if c = 65 then v.a else if c = 66 then v.b else if c = 67 then v.c else if c = 68 then v.d else v.e
def V5.upd (v : V5) (c : UInt8) (m : Nat) : V5 := if c = 65 then { v with a := m } else if c = 66 then { v with b := m } else if c = 67 then { v with c := m } else if c = 68 then { v with d := m } else { v with e := m }
def V5.cells (v : V5) : List Value := [.int .u16 (v.a : Nat), .int .u16 (v.b : Nat), .int .u16 (v.c : Nat), .int .u16 (v.d : Nat), .int .u16 (v.e : Nat)]
def V5.ok (v : V5) : Prop := v.a < 1024 ∧ v.b < 1024 ∧ v.c < 1024 ∧ v.d < 1024 ∧ v.e < 1024
def V5.sum (v : V5) : Nat := v.a + v.b + v.c + v.d + v.e
def Sub5 (v u : V5) : Prop := Sub v.a u.a ∧ Sub v.b u.b ∧ Sub v.c u.c ∧ Sub v.d u.d ∧ Sub v.e u.e
theorem Sub5.refl (v : V5) : Sub5 v v := ⟨Sub.refl _, Sub.refl _, Sub.refl _, Sub.refl _, Sub.refl _⟩
theorem Sub5.trans {v u t : V5} (h : Sub5 v u) (k : Sub5 u t) : Sub5 v t := ⟨h.1.trans k.1, h.2.1.trans k.2.1, h.2.2.1.trans k.2.2.1, h.2.2.2.1.trans k.2.2.2.1, h.2.2.2.2.trans k.2.2.2.2⟩
theorem V5.ext {v u : V5} (h1 : v.a = u.a) (h2 : v.b = u.b) (h3 : v.c = u.c) (h4 : v.d = u.d) (h5 : v.e = u.e) : v = u := by
  cases v; cases u; simp_all
theorem Sub5.antisymm {v u : V5} (h : Sub5 v u) (k : Sub5 u v) : v = u := V5.ext (h.1.antisymm k.1) (h.2.1.antisymm k.2.1) (h.2.2.1.antisymm k.2.2.1) (h.2.2.2.1.antisymm k.2.2.2.1) (h.2.2.2.2.antisymm k.2.2.2.2)
theorem Sub5.get {v u : V5} (h : Sub5 v u) (c : UInt8) : Sub (v.get c) (u.get c) := by
  unfold V5.get
  split
  · exact h.1
  split
  · exact h.2.1
  split
  · exact h.2.2.1
  split
  · exact h.2.2.2.1
  · exact h.2.2.2.2
theorem V5.ok.get {v : V5} (h : v.ok) (c : UInt8) : v.get c < 1024 := by
  unfold V5.get
  split
  · exact h.1
  split
  · exact h.2.1
  split
  · exact h.2.2.1
  split
  · exact h.2.2.2.1
  · exact h.2.2.2.2
theorem V5.ok.upd {v : V5} (h : v.ok) (c : UInt8) {m : Nat} (hm : m < 1024) : (v.upd c m).ok := by
  obtain ⟨h1, h2, h3, h4, h5⟩ := h
  unfold V5.upd
  split
  · exact ⟨hm, h2, h3, h4, h5⟩
  split
  · exact ⟨h1, hm, h3, h4, h5⟩
  split
  · exact ⟨h1, h2, hm, h4, h5⟩
  split
  · exact ⟨h1, h2, h3, hm, h5⟩
  · exact ⟨h1, h2, h3, h4, hm⟩
/-- growing in one place -/
theorem Sub5.upd {v u : V5} (h : Sub5 v u) (c : UInt8) {m : Nat} (hm : Sub m (u.get c)) : Sub5 (v.upd c m) u := by
  obtain ⟨h1, h2, h3, h4, h5⟩ := h
  unfold V5.upd
  unfold V5.get at hm
  split
  · rename_i e; rw [if_pos e] at hm; exact ⟨hm, h2, h3, h4, h5⟩
  rename_i e1; rw [if_neg e1] at hm
  split
  · rename_i e; rw [if_pos e] at hm; exact ⟨h1, hm, h3, h4, h5⟩
  rename_i e2; rw [if_neg e2] at hm
  split
  · rename_i e; rw [if_pos e] at hm; exact ⟨h1, h2, hm, h4, h5⟩
  rename_i e3; rw [if_neg e3] at hm
  split
  · rename_i e; rw [if_pos e] at hm; exact ⟨h1, h2, h3, hm, h5⟩
  · rename_i e; rw [if_neg e] at hm; exact ⟨h1, h2, h3, h4, hm⟩
theorem sub5_upd (v : V5) (c : UInt8) {m : Nat} (hm : Sub (v.get c) m) : Sub5 v (v.upd c m) := by
  have r := fun x => Sub.refl x
  unfold V5.upd
  unfold V5.get at hm
  split
  · rename_i e; rw [if_pos e] at hm; exact ⟨hm, r _, r _, r _, r _⟩
  rename_i e1; rw [if_neg e1] at hm
  split
  · rename_i e; rw [if_pos e] at hm; exact ⟨r _, hm, r _, r _, r _⟩
  rename_i e2; rw [if_neg e2] at hm
  split
  · rename_i e; rw [if_pos e] at hm; exact ⟨r _, r _, hm, r _, r _⟩
  rename_i e3; rw [if_neg e3] at hm
  split
  · rename_i e; rw [if_pos e] at hm; exact ⟨r _, r _, r _, hm, r _⟩
  · rename_i e; rw [if_neg e] at hm; exact ⟨r _, r _, r _, r _, hm⟩
theorem V5.upd_get (v : V5) (c : UInt8) (m : Nat) : (v.upd c m).get c = m := by
  unfold V5.upd V5.get
  by_cases h1 : c = 65
  · subst h1; simp
  by_cases h2 : c = 66
  · subst h2; simp
  by_cases h3 : c = 67
  · subst h3; simp
  by_cases h4 : c = 68
  · subst h4; simp
  · simp [h1, h2, h3, h4]
theorem V5.upd_self (v : V5) (c : UInt8) : v.upd c (v.get c) = v := by
  unfold V5.upd V5.get
  by_cases h1 : c = 65
  · subst h1; simp
  by_cases h2 : c = 66
  · subst h2; simp
  by_cases h3 : c = 67
  · subst h3; simp
  by_cases h4 : c = 68
  · subst h4; simp
  · simp [h1, h2, h3, h4]
theorem Sub5.sum {v u : V5} (h : Sub5 v u) : v.sum ≤ u.sum := by
  obtain ⟨h1, h2, h3, h4, h5⟩ := h
  have := h1.le; have := h2.le; have := h3.le; have := h4.le; have := h5.le
  unfold V5.sum; omega
theorem Sub5.grows {v u : V5} (h : Sub5 v u) (hne : v ≠ u) : v.sum < u.sum := by
  have h0 := h
  obtain ⟨h1, h2, h3, h4, h5⟩ := h
  have := h1.le; have := h2.le; have := h3.le; have := h4.le; have := h5.le
  by_cases e : v.sum = u.sum
  · exfalso
    unfold V5.sum at e
    exact hne (V5.ext (by omega) (by omega) (by omega) (by omega) (by omega))
  · have := h0.sum; omega
theorem V5.ok.sum {v : V5} (h : v.ok) : v.sum < 5120 := by
  obtain ⟨h1, h2, h3, h4, h5⟩ := h
  unfold V5.sum; omega
theorem byte0 (c : UInt8) (h : 0 < (⟨#[c]⟩ : ByteArray).size) : (⟨#[c]⟩ : ByteArray)[0]'h = c := rfl
theorem of5_any (v : V5) (c : UInt8) (w : World) (hc : bigN (c.toNat : Int) = true) :
    Calls Try.prog 65 #[.agg v.cells.toArray, .string ⟨#[c]⟩] w fun e w' => e = .returned (.int .u16 (v.get c : Nat)) ∧ Below w.heap.size w w' := by
  have hx := byte0
  obtain ⟨a, b, d, e, f⟩ := v
  rcases bigN_cases hc with rfl | rfl | rfl | rfl | rfl
  all_goals
    clear hc
    simp only [V5.cells]
    go_enter Try.func65, Try.ntmps65
    go_wp2
    go_ret
    exact ⟨rfl, (Below.refl _ _).alloc (Nat.le_refl _) _⟩
/-- block b holds, from cell o on, the five sets -/
def At5 (w : World) (b o : Nat) (v : V5) : Prop := ∀ i (h : i < 5), w.cell? ⟨b, o + i, none⟩ = some (v.cells[i]'h) ∧ w.frozen? ⟨b, o + i, none⟩ = false
theorem add5_any (v : V5) (c : UInt8) (b o m : Nat) (w : World) (hc : bigN (c.toNat : Int) = true) (hv : v.ok) (hm : m < 1024) (H : At5 w b o v) :
    Calls Try.prog 106 #[.pointer (some ⟨b, o, none⟩), .string ⟨#[c]⟩, .int .u16 (m : Int)] w fun e w' => (∃ u, e = .returned u) ∧ w' = (w.setCell ⟨b, o + (c.toNat - 65), none⟩ (.int .u16 (v.get c ||| m : Nat))).drew := by
  have hx := byte0
  have hor := bits_or (v.get c) m (hv.get c) hm
  obtain ⟨x0, y0⟩ := H 0 (by omega)
  obtain ⟨x1, y1⟩ := H 1 (by omega)
  obtain ⟨x2, y2⟩ := H 2 (by omega)
  obtain ⟨x3, y3⟩ := H 3 (by omega)
  obtain ⟨x4, y4⟩ := H 4 (by omega)
  clear H
  obtain ⟨p, q, r, s, t⟩ := v
  simp only [V5.cells, List.getElem_cons_zero, List.getElem_cons_succ, Nat.add_zero] at x0 x1 x2 x3 x4 y0
  rcases bigN_cases hc with rfl | rfl | rfl | rfl | rfl
  all_goals
    clear hc
    simp [V5.get] at hor
    go_enter Try.func106, Try.ntmps106
    go_wp2
    go_region
    go_end0
    exact ⟨⟨_, rfl⟩, rfl⟩
end Go.Proofs.Ytjpkohahabclgaa
