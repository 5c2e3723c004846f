/- A code of bytes is opened and a grammar is drawn of it. -/
import Derived.Test.YtpkejcjjbkgomaaDoorDrawG
namespace Go.Proofs.YtpkejcjjbkgomaaDoor
open Go.ChangeShapes Go.WideShapes Go.ChangeAt Go.RowKit
/-- a code as it came in -/
def BytesAt (w : World) (a : Option Addr) (n cap : Nat) : Prop := n ≤ cap ∧ cap ≤ maxLen ∧ ∀ i, i < n → ∃ b off, ∃ x : Int, a = some ⟨b, off, none⟩ ∧ b < w.heap.size ∧ w.cell? ⟨b, off + i, none⟩ = some (.int .u8 x) ∧ 0 ≤ x ∧ x ≤ 255
theorem BytesAt.below {w w' : World} {a : Option Addr} {n cap : Nat} (h : BytesAt w a n cap) (hb : Below w.heap.size w w') : BytesAt w' a n cap := by
  refine ⟨h.1, h.2.1, fun i hi => ?_⟩
  obtain ⟨b, off, x, e, hl, hc, hx⟩ := h.2.2 i hi
  exact ⟨b, off, x, e, Nat.lt_of_lt_of_le hl hb.size, by rw [hb.cell (p := ⟨b, _, none⟩) hl]; exact hc, hx⟩
theorem BytesAt.alloc {w : World} {a : Option Addr} {n cap : Nat} (h : BytesAt w a n cap) (o : Obj) : BytesAt (w.alloc o) a n cap := h.below ((Below.refl _ _).alloc (Nat.le_refl _) _)
theorem rd_open {w : World} {a : Option Addr} {n m cap : Nat} (h : BytesAt w a n cap) (hm : m ≤ n) (h2 : m ≤ 2000) {cs : Array Value} (hcs : cs = #[.slice a m cap, .int .i64 0]) : Rdk (w.alloc (.cells cs 154)) w.heap.size 0 := by
  subst hcs
  refine ⟨a, m, cap, 0, by rw [blk_new w _ rfl]; simp, h2, Nat.le_refl _, fun i hi => ?_⟩
  obtain ⟨b, off, x, e, hl, hc, hx⟩ := h.2.2 i (by omega)
  exact ⟨b, off, x, e, hl, by rw [((Below.refl _ _).alloc (Nat.le_refl _) _).cell (p := ⟨b, _, none⟩) hl]; exact hc, hx⟩
def OpenR (w : World) (e : Ending) (w' : World) : Prop := e = .returned (.pointer (some ⟨w.heap.size, 0, none⟩)) ∧ Rdk w' w.heap.size 0 ∧ Below w.heap.size w w'
theorem l17Open_any (a : Option Addr) (n cap : Nat) (w : World) (H : BytesAt w a n cap) :
    Calls Tryd.prog 64 #[.slice a n cap] w (OpenR w) := by
  have hm := H.2.1
  unfold maxLen at hm
  by_cases h : (2000 : Int) < (n : Int)
  · obtain ⟨b, off, x, rfl, hl, hc, hx⟩ := H.2.2 0 (by omega)
    have hcap : 2000 ≤ cap := by have := H.1; omega
    have hcap' : (2000 : Int) ≤ (cap : Int) := by omega
    go_enter Tryd.func64, Tryd.ntmps64
    go_wp2
    go_ret
    exact ⟨rfl, rd_open H (m := 2000) (by omega) (by omega) rfl, (Below.refl _ _).alloc (Nat.le_refl _) _⟩
  · go_enter Tryd.func64, Tryd.ntmps64
    go_wp2
    go_ret
    exact ⟨rfl, rd_open H (m := n) (by omega) (by omega) rfl, (Below.refl _ _).alloc (Nat.le_refl _) _⟩
/-- a grammar of at most m rules was made -/
def MadeGm (m : Nat) (w : World) (e : Ending) (w' : World) : Prop := ∃ v st rs, e = .returned v ∧ GramVal w' w.heap.size m v st rs ∧ Below w.heap.size w w'
theorem wrap_end {w wz : World} {m : Nat} {v0 v1 : Value} {st : ByteArray} {rs : List RuleT} (h : GramVal wz (w.heap.size + 1) m (.agg #[v0, v1]) st rs) (hb : Below w.heap.size w wz) :
    MadeGm m w (.returned (.agg #[v0, v1])) ((wz.setCell ⟨w.heap.size, 0, none⟩ v0).setCell ⟨w.heap.size, 1, none⟩ v1) :=
  ⟨_, st, rs, rfl, ((h.other (p := ⟨w.heap.size, 0, none⟩) (Nat.lt_succ_self _) _).other (p := ⟨w.heap.size, 1, none⟩) (Nat.lt_succ_self _) _).mono (Nat.le_succ _),
    (hb.setCell (p := ⟨w.heap.size, 0, none⟩) (Nat.le_refl _) _).setCell (p := ⟨w.heap.size, 1, none⟩) (Nat.le_refl _) _⟩
end Go.Proofs.YtpkejcjjbkgomaaDoor
