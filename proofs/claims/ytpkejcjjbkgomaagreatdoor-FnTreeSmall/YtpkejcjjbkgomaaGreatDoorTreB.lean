/- The law's toTree: a fresh copy of the tree that came in. -/
import Derived.Test.YtpkejcjjbkgomaaGreatDoorTreA
import Derived.Test.YtpkejcjjbkgomaaGreatDoorLawB
import Derived.Deep.OwnRows
namespace Go.Proofs.YtpkejcjjbkgomaaGreatDoor
open Go.ChangeShapes Go.WideShapes Go.ChangeAt Go.RowKit Go.Deep
set_option maxRecDepth 100000
theorem TrIn.close {w : World} {B : Nat} {s : ByteArray} {r : Int} {ks : List Tr} {a : Option Addr} {cap : Nat} (hs : s.size ≤ maxLen) (hr : (Lit.int .i64 r).wf = true) (hn : ks.length ≤ maxLen) (hc : ks.length ≤ cap) (h : KidsIn w B a ks) :
    TrIn w B (.agg #[.string s, .int .i64 r, .slice a ks.length cap]) (.node s r ks) := by
  have h1 : ∀ i : Nat, ∃ c : ByteArray × Int × Value, ∀ hi : i < ks.length, (∃ g off, a = some ⟨g, off, none⟩ ∧ B ≤ g ∧ g < w.heap.size ∧ w.cell? ⟨g, off + i * 3, none⟩ = some (.string c.1) ∧ w.cell? ⟨g, off + i * 3 + 1, none⟩ = some (.int .i64 c.2.1) ∧ w.cell? ⟨g, off + i * 3 + 2, none⟩ = some c.2.2) ∧ TrIn w B (.agg #[.string c.1, .int .i64 c.2.1, c.2.2]) ks[i] := by
    intro i
    by_cases hi : i < ks.length
    · obtain ⟨g, off, s', r', x, e, hB, hg, c0, c1, c2, ht⟩ := h i hi
      exact ⟨(s', r', x), fun _ => ⟨⟨g, off, e, hB, hg, c0, c1, c2⟩, ht⟩⟩
    · exact ⟨(ByteArray.empty, 0, undef), fun h => absurd h hi⟩
  obtain ⟨cs, hcs⟩ := Classical.axiomOfChoice h1
  exact .node s r ks a cap cs hs hr hn hc (fun i hi => (hcs i hi).1) (fun i hi => (hcs i hi).2)
def zeroT : Nat → Value
  | 0 => .string ByteArray.empty
  | 1 => .int .i64 0
  | _ => .slice none 0 0
def cellT (c : ByteArray × Int × Value) : Nat → Value
  | 0 => .string c.1
  | 1 => .int .i64 c.2.1
  | _ => c.2.2
def kidCells (cs : Nat → ByteArray × Int × Value) (i q : Nat) : Value := if q / 3 < i then cellT (cs (q / 3)) (q % 3) else zeroT (q % 3)
theorem infoTree : (Tryz.prog.info? 30).map (fun i => (i.zero, i.size, i.bytes)) = some (some (.agg #[.string ByteArray.empty, .int .i64 0, .slice none 0 0]), 3, 48) := by kernel_rfl
theorem run_make_trees (n : Nat) (hn : n ≤ 1048576) (w : World) : (Instr.makeSlice 28 (.int .i64 (n : Int)) (.int .i64 (n : Int))).run Tryz.prog w = .ok (.slice (some ⟨w.heap.size, 0, none⟩) n n) (w.alloc (.cells (madeCells #[.string ByteArray.empty, .int .i64 0, .slice none 0 0] (n * 3)) 30)) := by
  obtain ⟨i, hi, hzz⟩ := Option.map_eq_some_iff.1 infoTree
  simp only [Prod.mk.injEq] at hzz
  obtain ⟨hz, hs, hb⟩ := hzz
  have hr := run_make (P := Tryz.prog) w 28 30 i _ Tryz.underlying28 hi hz .i64 .i64 n n (by omega) (Int.le_refl _) (by rw [hb]; omega) (by omega)
  rw [hs] at hr
  simpa [Value.cells] using hr
theorem made_row (w : World) (n : Nat) (cs : Nat → ByteArray × Int × Value) : (w.alloc (.cells (madeCells #[.string ByteArray.empty, .int .i64 0, .slice none 0 0] (n * 3)) 30)).rowIs w.heap.size 30 (n * 3) (kidCells cs 0) := by
  have hr := World.rowIs_alloc w (madeCells #[.string ByteArray.empty, .int .i64 0, .slice none 0 0] (n * 3)) 30 (kidCells cs 0) (fun i hi => by
    rw [size_madeCells] at hi
    have h3 : i % 3 = 0 ∨ i % 3 = 1 ∨ i % 3 = 2 := by omega
    rcases h3 with h | h | h <;> simp [madeCells, kidCells, zeroT, h, hi])
  rwa [size_madeCells] at hr
theorem kid_cell {w : World} {b n : Nat} {cs : Nat → ByteArray × Int × Value} {i : Nat} (h : w.rowIs b 30 (n * 3) (kidCells cs i)) {j q : Nat} (hj : j < n) (hq : q < 3) : w.cell? ⟨b, j * 3 + q, none⟩ = some (if j < i then cellT (cs j) q else zeroT q) ∧ w.frozen? ⟨b, j * 3 + q, none⟩ = false := by
  refine ⟨?_, h.frozen _⟩
  rw [h.cell (i := j * 3 + q) (by omega)]
  unfold kidCells
  rw [show (j * 3 + q) / 3 = j from by omega, show (j * 3 + q) % 3 = q from by omega]
/-- all blocks from B on are plain cells -/
def PlainFrom (B : Nat) (w : World) : Prop := ∀ g, B ≤ g → g < w.heap.size → ∃ c t, w.heap[g]? = some (.cells c t (0, 0))
theorem PlainFrom.start (w : World) : PlainFrom w.heap.size w := fun g h1 h2 => absurd h2 (by omega)
theorem PlainFrom.alloc {B : Nat} {w : World} (h : PlainFrom B w) (c : Array Value) (t : TypeId) : PlainFrom B (w.alloc (.cells c t)) := fun g h1 h2 => by
  by_cases hg : g < w.heap.size
  · obtain ⟨c', t', e⟩ := h g h1 hg
    exact ⟨c', t', (Deep.blk_alloc_lt _ _ _ hg).trans e⟩
  · have : g = w.heap.size := by simp at h2; omega
    subst this
    exact ⟨c, t, Deep.blk_alloc_new _ _⟩
theorem PlainFrom.set {B : Nat} {w : World} (h : PlainFrom B w) (a : Addr) (v : Value) : PlainFrom B (w.setCell a v) := fun g h1 h2 => by
  obtain ⟨c, t, e⟩ := h g h1 (by simpa using h2)
  by_cases hg : g = a.block
  · subst hg
    obtain ⟨b, o, sp⟩ := a
    dsimp only at e ⊢
    exact ⟨_, t, by simp [World.setCell, Array.getElem?_modify, e]; rfl⟩
  · exact ⟨c, t, (Below.heap_setCell w a v g hg).trans e⟩
theorem PlainFrom.call {B : Nat} {w w' : World} (h : PlainFrom B w) (hb : Below w.heap.size w w') (h' : PlainFrom w.heap.size w') : PlainFrom B w' := fun g h1 h2 => by
  by_cases hg : g < w.heap.size
  · obtain ⟨c, t, e⟩ := h g h1 hg
    exact ⟨c, t, (hb.block g hg).trans e⟩
  · exact h' g (by omega) h2
def MadeTree (T : Tr) (w : World) (e : Ending) (w' : World) : Prop := ∃ u, e = .returned u ∧ TrIn w' w.heap.size u T ∧ Below w.heap.size w w' ∧ PlainFrom w.heap.size w'
def MadeKids (ks : List Tr) (w : World) (e : Ending) (w' : World) : Prop := ∃ b, e = .returned (.slice (some ⟨b, 0, none⟩) ks.length ks.length) ∧ w.heap.size ≤ b ∧ KidsIn w' w.heap.size (some ⟨b, 0, none⟩) ks ∧ Below w.heap.size w w' ∧ PlainFrom w.heap.size w'
def KidsTo (ks : List Tr) (b i : Nat) (w : World) : Prop := ∃ cs, w.rowIs b 30 (ks.length * 3) (kidCells cs i) ∧ ∀ j (h : j < ks.length), j < i → TrIn w (b + 1) (.agg #[.string (cs j).1, .int .i64 (cs j).2.1, (cs j).2.2]) ks[j]
theorem KidsTo.below {ks : List Tr} {b i : Nat} {w w' : World} (h : KidsTo ks b i w) (hb : Below w.heap.size w w') : KidsTo ks b i w' := by
  obtain ⟨cs, h1, h2⟩ := h
  exact ⟨cs, h1.of_block (hb.block b h1.lt), fun j hj hi => (h2 j hj hi).keep hb⟩
theorem KidsTo.put {ks : List Tr} {b i : Nat} {w : World} (h : KidsTo ks b i w) (hi : i < ks.length) {s : ByteArray} {r : Int} {x : Value} (ht : TrIn w (b + 1) (.agg #[.string s, .int .i64 r, x]) ks[i]) :
    KidsTo ks b (i + 1) (((w.setCell ⟨b, i * 3, none⟩ (.string s)).setCell ⟨b, i * 3 + 1, none⟩ (.int .i64 r)).setCell ⟨b, i * 3 + 2, none⟩ x) := by
  obtain ⟨cs, h1, h2⟩ := h
  have hblk : ∀ g, b + 1 ≤ g → g < w.heap.size → (((w.setCell ⟨b, i * 3, none⟩ (.string s)).setCell ⟨b, i * 3 + 1, none⟩ (.int .i64 r)).setCell ⟨b, i * 3 + 2, none⟩ x).heap[g]? = w.heap[g]? := fun g hg _ => by
    rw [Below.heap_setCell _ _ _ _ (by show g ≠ b; omega), Below.heap_setCell _ _ _ _ (by show g ≠ b; omega), Below.heap_setCell _ _ _ _ (by show g ≠ b; omega)]
  refine ⟨fun j => if j = i then (s, r, x) else cs j, (((h1.set (i * 3) (.string s)).set (i * 3 + 1) (.int .i64 r)).set (i * 3 + 2) x).congr (fun q hq => ?_), fun j hj hij => ?_⟩
  · have h3 : q % 3 = 0 ∨ q % 3 = 1 ∨ q % 3 = 2 := by omega
    by_cases hqi : q / 3 = i
    · have hR : kidCells (fun j => if j = i then (s, r, x) else cs j) (i + 1) q = cellT (s, r, x) (q % 3) := by
        unfold kidCells
        rw [if_pos (by omega)]
        simp [hqi]
      rw [hR]
      rcases h3 with h | h | h
      · rw [if_neg (show ¬ q = i * 3 + 2 by omega), if_neg (show ¬ q = i * 3 + 1 by omega), if_pos (show q = i * 3 by omega), h]; rfl
      · rw [if_neg (show ¬ q = i * 3 + 2 by omega), if_pos (show q = i * 3 + 1 by omega), h]; rfl
      · rw [if_pos (show q = i * 3 + 2 by omega), h]; rfl
    · have hR : kidCells (fun j => if j = i then (s, r, x) else cs j) (i + 1) q = kidCells cs i q := by
        unfold kidCells
        by_cases hlt : q / 3 < i
        · rw [if_pos hlt, if_pos (by omega)]; simp [hqi]
        · rw [if_neg hlt, if_neg (by omega)]
      rw [hR, if_neg (show ¬ q = i * 3 + 2 by omega), if_neg (show ¬ q = i * 3 + 1 by omega), if_neg (show ¬ q = i * 3 by omega)]
  · by_cases e : j = i
    · subst e
      dsimp only
      rw [if_pos rfl]
      exact ht.stay hblk (by simp)
    · dsimp only
      rw [if_neg e]
      exact (h2 j hj (by omega)).stay hblk (by simp)
theorem KidsTo.done {ks : List Tr} {b : Nat} {w : World} (h : KidsTo ks b ks.length w) (B : Nat) (hB : B ≤ b) : KidsIn w B (some ⟨b, 0, none⟩) ks := by
  obtain ⟨cs, h1, h2⟩ := h
  intro i hi
  have c0 := (kid_cell h1 hi (q := 0) (by omega)).1
  have c1 := (kid_cell h1 hi (q := 1) (by omega)).1
  have c2 := (kid_cell h1 hi (q := 2) (by omega)).1
  rw [if_pos hi] at c0 c1 c2
  exact ⟨b, 0, (cs i).1, (cs i).2.1, (cs i).2.2, rfl, hB, h1.lt, by rw [Nat.zero_add]; exact c0, by rw [Nat.zero_add]; exact c1, by rw [Nat.zero_add]; exact c2, (h2 i hi hi).mono (by omega)⟩
theorem wt_kid {s : ByteArray} {r : Int} {ks : List Tr} : ks.length ≤ (Tr.node s r ks).wt ∧ ∀ k ∈ ks, k.wt ≤ (Tr.node s r ks).wt := by
  rw [Tr.wt]
  refine ⟨by omega, fun k hk => ?_⟩
  have : k.wt ≤ (ks.map Tr.wt).sum := by
    clear s r
    induction ks with
    | nil => cases hk
    | cons x xs ih =>
      rw [List.map_cons, List.sum_cons]
      rcases List.mem_cons.1 hk with rfl | h
      · omega
      · have := ih h; omega
  omega
def BoxT (w : World) (b : Nat) (v0 v1 v2 : Value) : Prop := w.heap[b]? = some (.cells #[v0, v1, v2] 30)
theorem BoxT.lt {w : World} {b : Nat} {v0 v1 v2 : Value} (h : BoxT w b v0 v1 v2) : b < w.heap.size := (Array.getElem?_eq_some_iff.1 h).1
theorem BoxT.below {w w' : World} {b : Nat} {v0 v1 v2 : Value} (h : BoxT w b v0 v1 v2) (hb : Below w.heap.size w w') : BoxT w' b v0 v1 v2 := (hb.block b h.lt).trans h
theorem BoxT.cells {w : World} {b : Nat} {v0 v1 v2 : Value} (h : BoxT w b v0 v1 v2) : w.cell? ⟨b, 0, none⟩ = some v0 ∧ w.cell? ⟨b, 1, none⟩ = some v1 ∧ w.cell? ⟨b, 2, none⟩ = some v2 ∧ w.frozen? ⟨b, 0, none⟩ = false ∧ w.frozen? ⟨b, 1, none⟩ = false ∧ w.frozen? ⟨b, 2, none⟩ = false :=
  ⟨by rw [cell_of_block h 0]; rfl, by rw [cell_of_block h 1]; rfl, by rw [cell_of_block h 2]; rfl, frozen_of_block h 0, frozen_of_block h 1, frozen_of_block h 2⟩
theorem KidsIn.stay {w w' : World} {B : Nat} {a : Option Addr} {ks : List Tr} (h : KidsIn w B a ks) (hb : ∀ g, B ≤ g → g < w.heap.size → w'.heap[g]? = w.heap[g]?) (hz : w.heap.size ≤ w'.heap.size) : KidsIn w' B a ks := fun i hi => by
  obtain ⟨g, off, s, r, x, e, hB, hg, c0, c1, c2, ht⟩ := h i hi
  have hh := hb g hB hg
  exact ⟨g, off, s, r, x, e, hB, Nat.lt_of_lt_of_le hg hz, by rw [cell_same hh, c0], by rw [cell_same hh, c1], by rw [cell_same hh, c2], ht.stay hb hz⟩
end Go.Proofs.YtpkejcjjbkgomaaGreatDoor
