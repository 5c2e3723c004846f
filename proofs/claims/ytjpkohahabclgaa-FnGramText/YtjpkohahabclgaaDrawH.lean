/- A code of bytes is opened and a grammar is drawn of it. -/
import Derived.Test.YtjpkohahabclgaaDrawG
namespace Go.Proofs.Ytjpkohahabclgaa
open Go.ChangeShapes Go.WideShapes Go.ChangeAt Go.RowKit
/-- a code as it came in -/
def BytesAt (w : World) (a : Option Addr) (n cap : Nat) : Prop := n ≤ cap ∧ cap ≤ maxLen ∧ ∀ i, i < n → ∃ b off, ∃ x : Int, a = some ⟨b, off, none⟩ ∧ b < w.heap.size ∧ w.cell? ⟨b, off + i, none⟩ = some (.int .u8 x) ∧ 0 ≤ x ∧ x ≤ 255
theorem BytesAt.below {w w' : World} {a : Option Addr} {n cap : Nat} (h : BytesAt w a n cap) (hb : Below w.heap.size w w') : BytesAt w' a n cap := by
  refine ⟨h.1, h.2.1, fun i hi => ?_⟩
  obtain ⟨b, off, x, e, hl, hc, hx⟩ := h.2.2 i hi
  exact ⟨b, off, x, e, Nat.lt_of_lt_of_le hl hb.size, by rw [hb.cell (p := ⟨b, _, none⟩) hl]; exact hc, hx⟩
theorem BytesAt.alloc {w : World} {a : Option Addr} {n cap : Nat} (h : BytesAt w a n cap) (o : Obj) : BytesAt (w.alloc o) a n cap := h.below ((Below.refl _ _).alloc (Nat.le_refl _) _)
theorem rd_open {w : World} {a : Option Addr} {n m cap : Nat} (h : BytesAt w a n cap) (hm : m ≤ n) (h2 : m ≤ 2000) {cs : Array Value} (hcs : cs = #[.slice a m cap, .int .i64 0]) : Rdk (w.alloc (.cells cs 129)) w.heap.size 0 := by
  subst hcs
  refine ⟨a, m, cap, 0, by rw [blk_new w _ rfl]; simp, h2, Nat.le_refl _, fun i hi => ?_⟩
  obtain ⟨b, off, x, e, hl, hc, hx⟩ := h.2.2 i (by omega)
  exact ⟨b, off, x, e, hl, by rw [((Below.refl _ _).alloc (Nat.le_refl _) _).cell (p := ⟨b, _, none⟩) hl]; exact hc, hx⟩
def OpenR (w : World) (e : Ending) (w' : World) : Prop := e = .returned (.pointer (some ⟨w.heap.size, 0, none⟩)) ∧ Rdk w' w.heap.size 0 ∧ Below w.heap.size w w'
theorem l17Open_any (a : Option Addr) (n cap : Nat) (w : World) (H : BytesAt w a n cap) :
    Calls Try.prog 83 #[.slice a n cap] w (OpenR w) := by
  have hm := H.2.1
  unfold maxLen at hm
  by_cases h : (2000 : Int) < (n : Int)
  · obtain ⟨b, off, x, rfl, hl, hc, hx⟩ := H.2.2 0 (by omega)
    have hcap : 2000 ≤ cap := by have := H.1; omega
    have hcap' : (2000 : Int) ≤ (cap : Int) := by omega
    go_enter Try.func83, Try.ntmps83
    go_wp2
    go_ret
    exact ⟨rfl, rd_open H (m := 2000) (by omega) (by omega) rfl, (Below.refl _ _).alloc (Nat.le_refl _) _⟩
  · go_enter Try.func83, Try.ntmps83
    go_wp2
    go_ret
    exact ⟨rfl, rd_open H (m := n) (by omega) (by omega) rfl, (Below.refl _ _).alloc (Nat.le_refl _) _⟩
/-- a grammar of at most m rules was made -/
def MadeGm (m : Nat) (w : World) (e : Ending) (w' : World) : Prop := ∃ v st rs, e = .returned v ∧ GramVal w' w.heap.size m v st rs ∧ Below w.heap.size w w'
theorem wrap_end {w wz : World} {m : Nat} {v0 v1 : Value} {st : ByteArray} {rs : List RuleT} (h : GramVal wz (w.heap.size + 1) m (.agg #[v0, v1]) st rs) (hb : Below w.heap.size w wz) :
    MadeGm m w (.returned (.agg #[v0, v1])) ((wz.setCell ⟨w.heap.size, 0, none⟩ v0).setCell ⟨w.heap.size, 1, none⟩ v1) :=
  ⟨_, st, rs, rfl, ((h.other (p := ⟨w.heap.size, 0, none⟩) (Nat.lt_succ_self _) _).other (p := ⟨w.heap.size, 1, none⟩) (Nat.lt_succ_self _) _).mono (Nat.le_succ _),
    (hb.setCell (p := ⟨w.heap.size, 0, none⟩) (Nat.le_refl _) _).setCell (p := ⟨w.heap.size, 1, none⟩) (Nat.le_refl _) _⟩
theorem l1Draw_any (a : Option Addr) (n cap : Nat) (w : World) (H : BytesAt w a n cap) :
    Calls Try.prog 75 #[.slice a n cap] w (MadeGm 10 w) := by
  go_enter Try.func75, Try.ntmps75
  go_wp2_with fail
  have hZ : BoxG (w.alloc (.cells #[.string ⟨#[]⟩, .slice none 0 0] 24)) w.heap.size (.string ⟨#[]⟩) (.slice none 0 0) := blk_new _ _ rfl
  refine (l17Open_any a n cap _ (H.alloc _)).mono ?_
  rintro e w2 ⟨rfl, hrd2, hb2⟩
  have hZ2 := hZ.below hb2
  have hB2 : Below w.heap.size w w2 := ((Below.refl _ _).alloc (Nat.le_refl _) _).trans (hb2.mono (by simp))
  simp only [World.size_alloc] at hrd2
  clear hZ hb2
  go_wp2_with fail
  refine (l1Gram_any (w.heap.size + 1) 0 w2 hrd2 (by omega)).mono ?_
  rintro e w3 ⟨v3, st3, rs3, rfl, ⟨b3, off3, cap3, rfl, hc3, hR3, hl3, hs3, hS3, hb3⟩, hrd3, ho3⟩
  have hZ3 := hZ2.only ho3 (by omega)
  have hlt2 := hrd2.lt
  have hB3 : Below w.heap.size w w3 := hB2.trans (ho3.below _ (by omega) (by omega))
  clear hZ2 hrd2 hB2
  go_wp2_with fail
  refine (l1Bent_any (w.heap.size + 1) (0 + 100) 6 b3 off3 cap3 st3 rs3 w3 hrd3 (by omega) hR3 hl3 (by omega) (by omega) hs3 hS3).mono ?_
  rintro e w4 ⟨v4, st4, rs4, rfl, ⟨b4, off4, cap4, rfl, hc4, hR4, hl4, hs4, hS4, hb4⟩, hrd4, ho4⟩
  have hZ4 := hZ3.only ho4 (by omega)
  have hlt3 := hrd3.lt
  have hB4 : Below w.heap.size w w4 := hB3.trans (ho4.below _ (by omega) (by omega))
  obtain ⟨z0, z1, zf0, zf1⟩ := hZ4.cells
  clear hZ3 hrd3 hB3 hR3 hS3
  go_wp2
  exact bodyPost_ret (v := .agg #[.string st4, .slice (some ⟨b4, off4, none⟩) rs4.length cap4]) (by simp [results, Try.results75, go_sem, z0, z1]) rfl
    (wrap_end ⟨b4, off4, cap4, rfl, hc4, hR4, hl4, hs4, hS4, by omega⟩ hB4)
/-- a draw that hands its code on -/
theorem drawGramOk_any (a : Option Addr) (n cap : Nat) (w : World) (H : BytesAt w a n cap) :
    Calls Try.prog 43 #[.slice a n cap] w (MadeGm 10 w) := by
  go_enter Try.func43, Try.ntmps43
  go_wp2_with fail
  have hZ : BoxG (w.alloc (.cells #[.string ⟨#[]⟩, .slice none 0 0] 24)) w.heap.size (.string ⟨#[]⟩) (.slice none 0 0) := blk_new _ _ rfl
  refine (l1Draw_any a n cap _ (H.alloc _)).mono ?_
  rintro e w4 ⟨v4, st4, rs4, rfl, ⟨b4, off4, cap4, rfl, hc4, hR4, hl4, hs4, hS4, hb4⟩, hb⟩
  simp only [World.size_alloc] at hb4
  have hB4 : Below w.heap.size w w4 := ((Below.refl _ _).alloc (Nat.le_refl _) _).trans (hb.mono (by simp))
  obtain ⟨z0, z1, zf0, zf1⟩ := (hZ.below hb).cells
  clear hZ hb
  go_wp2
  exact bodyPost_ret (v := .agg #[.string st4, .slice (some ⟨b4, off4, none⟩) rs4.length cap4]) (by simp [results, Try.results43, go_sem, z0, z1]) rfl
    (wrap_end ⟨b4, off4, cap4, rfl, hc4, hR4, hl4, hs4, hS4, by omega⟩ hB4)
theorem drawGramText_any (a : Option Addr) (n cap : Nat) (w : World) (H : BytesAt w a n cap) :
    Calls Try.prog 33 #[.slice a n cap] w (MadeGm 10 w) := by
  go_enter Try.func33, Try.ntmps33
  go_wp2_with fail
  have hZ : BoxG (w.alloc (.cells #[.string ⟨#[]⟩, .slice none 0 0] 24)) w.heap.size (.string ⟨#[]⟩) (.slice none 0 0) := blk_new _ _ rfl
  refine (l1Draw_any a n cap _ (H.alloc _)).mono ?_
  rintro e w4 ⟨v4, st4, rs4, rfl, ⟨b4, off4, cap4, rfl, hc4, hR4, hl4, hs4, hS4, hb4⟩, hb⟩
  simp only [World.size_alloc] at hb4
  have hB4 : Below w.heap.size w w4 := ((Below.refl _ _).alloc (Nat.le_refl _) _).trans (hb.mono (by simp))
  obtain ⟨z0, z1, zf0, zf1⟩ := (hZ.below hb).cells
  clear hZ hb
  go_wp2
  exact bodyPost_ret (v := .agg #[.string st4, .slice (some ⟨b4, off4, none⟩) rs4.length cap4]) (by simp [results, Try.results33, go_sem, z0, z1]) rfl
    (wrap_end ⟨b4, off4, cap4, rfl, hc4, hR4, hl4, hs4, hS4, by omega⟩ hB4)
theorem drawGramTrim_any (a : Option Addr) (n cap : Nat) (w : World) (H : BytesAt w a n cap) :
    Calls Try.prog 47 #[.slice a n cap] w (MadeGm 10 w) := by
  go_enter Try.func47, Try.ntmps47
  go_wp2_with fail
  have hZ : BoxG (w.alloc (.cells #[.string ⟨#[]⟩, .slice none 0 0] 24)) w.heap.size (.string ⟨#[]⟩) (.slice none 0 0) := blk_new _ _ rfl
  refine (l1Draw_any a n cap _ (H.alloc _)).mono ?_
  rintro e w4 ⟨v4, st4, rs4, rfl, ⟨b4, off4, cap4, rfl, hc4, hR4, hl4, hs4, hS4, hb4⟩, hb⟩
  simp only [World.size_alloc] at hb4
  have hB4 : Below w.heap.size w w4 := ((Below.refl _ _).alloc (Nat.le_refl _) _).trans (hb.mono (by simp))
  obtain ⟨z0, z1, zf0, zf1⟩ := (hZ.below hb).cells
  clear hZ hb
  go_wp2
  exact bodyPost_ret (v := .agg #[.string st4, .slice (some ⟨b4, off4, none⟩) rs4.length cap4]) (by simp [results, Try.results47, go_sem, z0, z1]) rfl
    (wrap_end ⟨b4, off4, cap4, rfl, hc4, hR4, hl4, hs4, hS4, by omega⟩ hB4)
end Go.Proofs.Ytjpkohahabclgaa
