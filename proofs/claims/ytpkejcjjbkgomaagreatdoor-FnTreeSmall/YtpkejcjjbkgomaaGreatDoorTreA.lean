/- Trees in memory; the size of a tree that came in. -/
import Derived.Test.YtpkejcjjbkgomaaGreatDoorOkB
import Derived.Deep.LoopGhost
namespace Go.Proofs.YtpkejcjjbkgomaaGreatDoor
open Go.ChangeShapes Go.WideShapes Go.ChangeAt Go.RowKit
set_option maxRecDepth 100000
inductive Tr where
  | node (s : ByteArray) (r : Int) (ks : List Tr) : Tr
def Tr.sz : Tr → Nat
  | .node _ _ ks => 1 + (ks.map Tr.sz).sum
theorem Tr.sz_kid {s : ByteArray} {r : Int} {ks : List Tr} {k : Tr} (h : k ∈ ks) : k.sz < (Tr.node s r ks).sz := by
  have : k.sz ≤ (ks.map Tr.sz).sum := by
    induction ks with
    | nil => cases h
    | cons x xs ih =>
      rw [List.map_cons, List.sum_cons]
      rcases List.mem_cons.1 h with rfl | h
      · omega
      · have := ih h; omega
  rw [Tr.sz]; omega
/-- what szTree takes off: bytes and kids -/
def Tr.wt : Tr → Nat
  | .node s _ ks => s.size + ks.length + (ks.map Tr.wt).sum
/-- the value v is the tree T in the world w: kid i lies at three cells of the slice; all blocks are from B on -/
inductive TrIn (w : World) (B : Nat) : Value → Tr → Prop
  | node (s : ByteArray) (r : Int) (ks : List Tr) (a : Option Addr) (cap : Nat) (cs : Nat → ByteArray × Int × Value)
      (hs : s.size ≤ maxLen) (hr : (Lit.int .i64 r).wf = true) (hn : ks.length ≤ maxLen) (hc : ks.length ≤ cap)
      (hk : ∀ i, i < ks.length → ∃ g off, a = some ⟨g, off, none⟩ ∧ B ≤ g ∧ g < w.heap.size ∧ w.cell? ⟨g, off + i * 3, none⟩ = some (.string (cs i).1) ∧ w.cell? ⟨g, off + i * 3 + 1, none⟩ = some (.int .i64 (cs i).2.1) ∧ w.cell? ⟨g, off + i * 3 + 2, none⟩ = some (cs i).2.2)
      (ht : ∀ i (h : i < ks.length), TrIn w B (.agg #[.string (cs i).1, .int .i64 (cs i).2.1, (cs i).2.2]) ks[i]) :
      TrIn w B (.agg #[.string s, .int .i64 r, .slice a ks.length cap]) (.node s r ks)
theorem cell_same {w w' : World} {g : Nat} (h : w'.heap[g]? = w.heap[g]?) (o : Nat) : w'.cell? ⟨g, o, none⟩ = w.cell? ⟨g, o, none⟩ := by simp [World.cell?, h]
theorem TrIn.stay {w w' : World} {B : Nat} {v : Value} {T : Tr} (h : TrIn w B v T) (hb : ∀ g, B ≤ g → g < w.heap.size → w'.heap[g]? = w.heap[g]?) (hz : w.heap.size ≤ w'.heap.size) : TrIn w' B v T := by
  induction h with
  | node s r ks a cap cs hs hr hn hc hk _ ih =>
    refine .node s r ks a cap cs hs hr hn hc (fun i hi => ?_) ih
    obtain ⟨g, off, e, hB, hg, c0, c1, c2⟩ := hk i hi
    have hh := hb g hB hg
    exact ⟨g, off, e, hB, Nat.lt_of_lt_of_le hg hz, by rw [cell_same hh, c0], by rw [cell_same hh, c1], by rw [cell_same hh, c2]⟩
theorem TrIn.keep {w w' : World} {B : Nat} {v : Value} {T : Tr} (h : TrIn w B v T) (hb : Below w.heap.size w w') : TrIn w' B v T := h.stay (fun g _ hg => hb.block g hg) hb.size
theorem TrIn.mono {w : World} {B B' : Nat} {v : Value} {T : Tr} (h : TrIn w B v T) (hB : B' ≤ B) : TrIn w B' v T := by
  induction h with
  | node s r ks a cap cs hs hr hn hc hk _ ih =>
    refine .node s r ks a cap cs hs hr hn hc (fun i hi => ?_) ih
    obtain ⟨g, off, e, hb, h⟩ := hk i hi
    exact ⟨g, off, e, by omega, h⟩
/-- the kids ks lie behind a -/
def KidsIn (w : World) (B : Nat) (a : Option Addr) (ks : List Tr) : Prop := ∀ i (h : i < ks.length), ∃ g off s r x, a = some ⟨g, off, none⟩ ∧ B ≤ g ∧ g < w.heap.size ∧ w.cell? ⟨g, off + i * 3, none⟩ = some (.string s) ∧ w.cell? ⟨g, off + i * 3 + 1, none⟩ = some (.int .i64 r) ∧ w.cell? ⟨g, off + i * 3 + 2, none⟩ = some x ∧ TrIn w B (.agg #[.string s, .int .i64 r, x]) ks[i]
theorem KidsIn.below {w w' : World} {B : Nat} {a : Option Addr} {ks : List Tr} (h : KidsIn w B a ks) (hb : Below w.heap.size w w') : KidsIn w' B a ks := fun i hi => by
  obtain ⟨g, off, s, r, x, e, hB, hg, c0, c1, c2, ht⟩ := h i hi
  exact ⟨g, off, s, r, x, e, hB, Nat.lt_of_lt_of_le hg hb.size, by rw [hb.cell (p := ⟨g, _, none⟩) hg, c0], by rw [hb.cell (p := ⟨g, _, none⟩) hg, c1], by rw [hb.cell (p := ⟨g, _, none⟩) hg, c2], ht.keep hb⟩
theorem TrIn.open {w : World} {B : Nat} {v : Value} {T : Tr} (h : TrIn w B v T) : ∃ s r ks a cap, v = .agg #[.string s, .int .i64 r, .slice a ks.length cap] ∧ T = .node s r ks ∧ s.size ≤ maxLen ∧ (Lit.int .i64 r).wf = true ∧ ks.length ≤ maxLen ∧ ks.length ≤ cap ∧ KidsIn w B a ks := by
  cases h with
  | node s r ks a cap cs hs hr hn hc hk ht =>
    refine ⟨s, r, ks, a, cap, rfl, rfl, hs, hr, hn, hc, fun i hi => ?_⟩
    obtain ⟨g, off, e, hB, hg, c0, c1, c2⟩ := hk i hi
    exact ⟨g, off, _, _, _, e, hB, hg, c0, c1, c2, ht i hi⟩
/-- the third cell of a tree is a slice -/
theorem TrIn.third {w : World} {B : Nat} {s : ByteArray} {r : Int} {x : Value} {T : Tr} (h : TrIn w B (.agg #[.string s, .int .i64 r, x]) T) : ∃ a n cap, x = .slice a n cap := by
  obtain ⟨s', r', ks, a, cap, e, _⟩ := h.open
  simp only [Value.agg.injEq, Array.mk.injEq, List.cons.injEq, and_true] at e
  exact ⟨a, _, cap, e.2.2⟩
/-- what szTree and szTreeS tell: never more than was left, and where something is left it is what the tree has taken off -/
def SzSays (wt : Nat) (left : Int) (e : Ending) : Prop := ∃ v : Int, e = .returned (.int .i64 v) ∧ -1 ≤ v ∧ v ≤ left ∧ (0 ≤ v → v + wt ≤ left)
def wtTo (ks : List Tr) (i : Nat) : Nat := ((ks.take i).map Tr.wt).sum
theorem wtTo_succ {ks : List Tr} {i : Nat} (h : i < ks.length) : wtTo ks (i + 1) = wtTo ks i + ks[i].wt := by
  unfold wtTo
  rw [List.take_succ_eq_append_getElem h, List.map_append, List.sum_append]
  simp
theorem wtTo_all (ks : List Tr) : wtTo ks ks.length = (ks.map Tr.wt).sum := by unfold wtTo; rw [List.take_length]
end Go.Proofs.YtpkejcjjbkgomaaGreatDoor
