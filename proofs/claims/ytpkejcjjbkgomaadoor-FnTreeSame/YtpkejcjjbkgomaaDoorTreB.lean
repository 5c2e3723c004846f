/- The law's toTree: a fresh copy of the tree that came in. -/
import Derived.Test.YtpkejcjjbkgomaaDoorTreA
import Derived.Test.YtpkejcjjbkgomaaDoorLawB
import Derived.Deep.OwnRows
namespace Go.Proofs.YtpkejcjjbkgomaaDoor
open Go.ChangeShapes Go.WideShapes Go.ChangeAt Go.RowKit Go.Deep
set_option maxRecDepth 100000
theorem TrIn.close {w : World} {B : Nat} {s : ByteArray} {r : Int} {ks : List Tr} {a : Option Addr} {cap : Nat} (hs : s.size ≤ maxLen) (hr : (Lit.int .i64 r).wf = true) (hn : ks.length ≤ maxLen) (hc : ks.length ≤ cap) (h : KidsIn w B a ks) :
    TrIn w B (.agg #[.string s, .int .i64 r, .slice a ks.length cap]) (.node s r ks) := by
  have h1 : ∀ i : Nat, ∃ c : ByteArray × Int × Value, ∀ hi : i < ks.length, (∃ g off, a = some ⟨g, off, none⟩ ∧ B ≤ g ∧ g < w.heap.size ∧ w.cell? ⟨g, off + i * 3, none⟩ = some (.string c.1) ∧ w.cell? ⟨g, off + i * 3 + 1, none⟩ = some (.int .i64 c.2.1) ∧ w.cell? ⟨g, off + i * 3 + 2, none⟩ = some c.2.2) ∧ TrIn w B (.agg #[.string c.1, .int .i64 c.2.1, c.2.2]) ks[i] := by
    intro i
    by_cases hi : i < ks.length
    · obtain ⟨g, off, s', r', x, e, hB, hg, c0, c1, c2, ht⟩ := h i hi
      exact ⟨(s', r', x), fun _ => ⟨⟨g, off, e, hB, hg, c0, c1, c2⟩, ht⟩⟩
    · exact ⟨(ByteArray.empty, 0, undef), fun h => absurd h hi⟩
  obtain ⟨cs, hcs⟩ := Classical.axiomOfChoice h1
  exact .node s r ks a cap cs hs hr hn hc (fun i hi => (hcs i hi).1) (fun i hi => (hcs i hi).2)
def zeroT : Nat → Value
  | 0 => .string ByteArray.empty
  | 1 => .int .i64 0
  | _ => .slice none 0 0
def cellT (c : ByteArray × Int × Value) : Nat → Value
  | 0 => .string c.1
  | 1 => .int .i64 c.2.1
  | _ => c.2.2
def kidCells (cs : Nat → ByteArray × Int × Value) (i q : Nat) : Value := if q / 3 < i then cellT (cs (q / 3)) (q % 3) else zeroT (q % 3)
theorem infoTree : (Tryd.prog.info? 29).map (fun i => (i.zero, i.size, i.bytes)) = some (some (.agg #[.string ByteArray.empty, .int .i64 0, .slice none 0 0]), 3, 48) := by kernel_rfl
theorem run_make_trees (n : Nat) (hn : n ≤ 1048576) (w : World) : (Instr.makeSlice 27 (.int .i64 (n : Int)) (.int .i64 (n : Int))).run Tryd.prog w = .ok (.slice (some ⟨w.heap.size, 0, none⟩) n n) (w.alloc (.cells (madeCells #[.string ByteArray.empty, .int .i64 0, .slice none 0 0] (n * 3)) 29)) := by
  obtain ⟨i, hi, hzz⟩ := Option.map_eq_some_iff.1 infoTree
  simp only [Prod.mk.injEq] at hzz
  obtain ⟨hz, hs, hb⟩ := hzz
  have hr := run_make (P := Tryd.prog) w 27 29 i _ Tryd.underlying27 hi hz .i64 .i64 n n (by omega) (Int.le_refl _) (by rw [hb]; omega) (by omega)
  rw [hs] at hr
  simpa [Value.cells] using hr
theorem made_row (w : World) (n : Nat) (cs : Nat → ByteArray × Int × Value) : (w.alloc (.cells (madeCells #[.string ByteArray.empty, .int .i64 0, .slice none 0 0] (n * 3)) 29)).rowIs w.heap.size 29 (n * 3) (kidCells cs 0) := by
  have hr := World.rowIs_alloc w (madeCells #[.string ByteArray.empty, .int .i64 0, .slice none 0 0] (n * 3)) 29 (kidCells cs 0) (fun i hi => by
    rw [size_madeCells] at hi
    have h3 : i % 3 = 0 ∨ i % 3 = 1 ∨ i % 3 = 2 := by omega
    rcases h3 with h | h | h <;> simp [madeCells, kidCells, zeroT, h, hi])
  rwa [size_madeCells] at hr
theorem kid_cell {w : World} {b n : Nat} {cs : Nat → ByteArray × Int × Value} {i : Nat} (h : w.rowIs b 29 (n * 3) (kidCells cs i)) {j q : Nat} (hj : j < n) (hq : q < 3) : w.cell? ⟨b, j * 3 + q, none⟩ = some (if j < i then cellT (cs j) q else zeroT q) ∧ w.frozen? ⟨b, j * 3 + q, none⟩ = false := by
  refine ⟨?_, h.frozen _⟩
  rw [h.cell (i := j * 3 + q) (by omega)]
  unfold kidCells
  rw [show (j * 3 + q) / 3 = j from by omega, show (j * 3 + q) % 3 = q from by omega]
/-- all blocks from B on are plain cells -/
def PlainFrom (B : Nat) (w : World) : Prop := ∀ g, B ≤ g → g < w.heap.size → ∃ c t, w.heap[g]? = some (.cells c t (0, 0))
theorem PlainFrom.start (w : World) : PlainFrom w.heap.size w := fun g h1 h2 => absurd h2 (by omega)
theorem PlainFrom.alloc {B : Nat} {w : World} (h : PlainFrom B w) (c : Array Value) (t : TypeId) : PlainFrom B (w.alloc (.cells c t)) := fun g h1 h2 => by
  by_cases hg : g < w.heap.size
  · obtain ⟨c', t', e⟩ := h g h1 hg
    exact ⟨c', t', (Deep.blk_alloc_lt _ _ _ hg).trans e⟩
  · have : g = w.heap.size := by simp at h2; omega
    subst this
    exact ⟨c, t, Deep.blk_alloc_new _ _⟩
theorem PlainFrom.set {B : Nat} {w : World} (h : PlainFrom B w) (a : Addr) (v : Value) : PlainFrom B (w.setCell a v) := fun g h1 h2 => by
  obtain ⟨c, t, e⟩ := h g h1 (by simpa using h2)
  by_cases hg : g = a.block
  · subst hg
    obtain ⟨b, o, sp⟩ := a
    dsimp only at e ⊢
    exact ⟨_, t, by simp [World.setCell, Array.getElem?_modify, e]; rfl⟩
  · exact ⟨c, t, (Below.heap_setCell w a v g hg).trans e⟩
theorem PlainFrom.call {B : Nat} {w w' : World} (h : PlainFrom B w) (hb : Below w.heap.size w w') (h' : PlainFrom w.heap.size w') : PlainFrom B w' := fun g h1 h2 => by
  by_cases hg : g < w.heap.size
  · obtain ⟨c, t, e⟩ := h g h1 hg
    exact ⟨c, t, (hb.block g hg).trans e⟩
  · exact h' g (by omega) h2
def MadeTree (T : Tr) (w : World) (e : Ending) (w' : World) : Prop := ∃ u, e = .returned u ∧ TrIn w' w.heap.size u T ∧ Below w.heap.size w w' ∧ PlainFrom w.heap.size w'
def MadeKids (ks : List Tr) (w : World) (e : Ending) (w' : World) : Prop := ∃ b, e = .returned (.slice (some ⟨b, 0, none⟩) ks.length ks.length) ∧ w.heap.size ≤ b ∧ KidsIn w' w.heap.size (some ⟨b, 0, none⟩) ks ∧ Below w.heap.size w w' ∧ PlainFrom w.heap.size w'
def KidsTo (ks : List Tr) (b i : Nat) (w : World) : Prop := ∃ cs, w.rowIs b 29 (ks.length * 3) (kidCells cs i) ∧ ∀ j (h : j < ks.length), j < i → TrIn w (b + 1) (.agg #[.string (cs j).1, .int .i64 (cs j).2.1, (cs j).2.2]) ks[j]
theorem KidsTo.below {ks : List Tr} {b i : Nat} {w w' : World} (h : KidsTo ks b i w) (hb : Below w.heap.size w w') : KidsTo ks b i w' := by
  obtain ⟨cs, h1, h2⟩ := h
  exact ⟨cs, h1.of_block (hb.block b h1.lt), fun j hj hi => (h2 j hj hi).keep hb⟩
theorem KidsTo.put {ks : List Tr} {b i : Nat} {w : World} (h : KidsTo ks b i w) (hi : i < ks.length) {s : ByteArray} {r : Int} {x : Value} (ht : TrIn w (b + 1) (.agg #[.string s, .int .i64 r, x]) ks[i]) :
    KidsTo ks b (i + 1) (((w.setCell ⟨b, i * 3, none⟩ (.string s)).setCell ⟨b, i * 3 + 1, none⟩ (.int .i64 r)).setCell ⟨b, i * 3 + 2, none⟩ x) := by
  obtain ⟨cs, h1, h2⟩ := h
  have hblk : ∀ g, b + 1 ≤ g → g < w.heap.size → (((w.setCell ⟨b, i * 3, none⟩ (.string s)).setCell ⟨b, i * 3 + 1, none⟩ (.int .i64 r)).setCell ⟨b, i * 3 + 2, none⟩ x).heap[g]? = w.heap[g]? := fun g hg _ => by
    rw [Below.heap_setCell _ _ _ _ (by show g ≠ b; omega), Below.heap_setCell _ _ _ _ (by show g ≠ b; omega), Below.heap_setCell _ _ _ _ (by show g ≠ b; omega)]
  refine ⟨fun j => if j = i then (s, r, x) else cs j, (((h1.set (i * 3) (.string s)).set (i * 3 + 1) (.int .i64 r)).set (i * 3 + 2) x).congr (fun q hq => ?_), fun j hj hij => ?_⟩
  · have h3 : q % 3 = 0 ∨ q % 3 = 1 ∨ q % 3 = 2 := by omega
    by_cases hqi : q / 3 = i
    · have hR : kidCells (fun j => if j = i then (s, r, x) else cs j) (i + 1) q = cellT (s, r, x) (q % 3) := by
        unfold kidCells
        rw [if_pos (by omega)]
        simp [hqi]
      rw [hR]
      rcases h3 with h | h | h
      · rw [if_neg (show ¬ q = i * 3 + 2 by omega), if_neg (show ¬ q = i * 3 + 1 by omega), if_pos (show q = i * 3 by omega), h]; rfl
      · rw [if_neg (show ¬ q = i * 3 + 2 by omega), if_pos (show q = i * 3 + 1 by omega), h]; rfl
      · rw [if_pos (show q = i * 3 + 2 by omega), h]; rfl
    · have hR : kidCells (fun j => if j = i then (s, r, x) else cs j) (i + 1) q = kidCells cs i q := by
        unfold kidCells
        by_cases hlt : q / 3 < i
        · rw [if_pos hlt, if_pos (by omega)]; simp [hqi]
        · rw [if_neg hlt, if_neg (by omega)]
      rw [hR, if_neg (show ¬ q = i * 3 + 2 by omega), if_neg (show ¬ q = i * 3 + 1 by omega), if_neg (show ¬ q = i * 3 by omega)]
  · by_cases e : j = i
    · subst e
      dsimp only
      rw [if_pos rfl]
      exact ht.stay hblk (by simp)
    · dsimp only
      rw [if_neg e]
      exact (h2 j hj (by omega)).stay hblk (by simp)
theorem KidsTo.done {ks : List Tr} {b : Nat} {w : World} (h : KidsTo ks b ks.length w) (B : Nat) (hB : B ≤ b) : KidsIn w B (some ⟨b, 0, none⟩) ks := by
  obtain ⟨cs, h1, h2⟩ := h
  intro i hi
  have c0 := (kid_cell h1 hi (q := 0) (by omega)).1
  have c1 := (kid_cell h1 hi (q := 1) (by omega)).1
  have c2 := (kid_cell h1 hi (q := 2) (by omega)).1
  rw [if_pos hi] at c0 c1 c2
  exact ⟨b, 0, (cs i).1, (cs i).2.1, (cs i).2.2, rfl, hB, h1.lt, by rw [Nat.zero_add]; exact c0, by rw [Nat.zero_add]; exact c1, by rw [Nat.zero_add]; exact c2, (h2 i hi hi).mono (by omega)⟩
set_option maxHeartbeats 2000000 in
theorem toTreeS_of (ks : List Tr) (hkids : ∀ k ∈ ks, ∀ v w, TrIn w 0 v k → Calls Tryd.prog 14 #[v] w (MadeTree k w))
    (a : Option Addr) (cap : Nat) (w : World) (H : KidsIn w 0 a ks) (hn : ks.length ≤ 1048576) :
    Calls Tryd.prog 45 #[.slice a ks.length cap] w (MadeKids ks w) := by
  have hmk := run_make_trees ks.length hn
  have HK := Lib.hid hkids
  have h0 : KidsTo ks w.heap.size 0 (w.alloc (.cells (madeCells #[.string ByteArray.empty, .int .i64 0, .slice none 0 0] (ks.length * 3)) 29)) := ⟨fun _ => (ByteArray.empty, 0, undef), made_row w ks.length _, fun j _ h => absurd h (Nat.not_lt_zero _)⟩
  have hbA := (Below.refl w.heap.size w).alloc (Nat.le_refl _) (.cells (madeCells #[.string ByteArray.empty, .int .i64 0, .slice none 0 0] (ks.length * 3)) 29)
  clear hkids
  go_enter Tryd.func45, Tryd.ntmps45
  go_wp2_with fail
  clear hmk
  go_loopg [4] (ks.length + 1) (fun gk iv wr => ∃ i : Nat, gk = ks.length + 1 - i ∧ i ≤ ks.length ∧ iv = .int .i64 (i : Int) ∧ KidsTo ks w.heap.size i wr ∧ Below w.heap.size w wr ∧ PlainFrom w.heap.size wr)
  case atStart => exact ⟨0, rfl, Nat.zero_le _, rfl, h0, hbA, (PlainFrom.start w).alloc _ _⟩
  case round =>
    clear h0 hbA
    obtain ⟨i, hgk, hi, rfl, hK, hb, hP⟩ := hrel
    have HG := Lib.hid hgk
    clear hgk
    by_cases hlt : i < ks.length
    · have hil : (i : Int) < (ks.length : Int) := by omega
      obtain ⟨g, off, s, r, x, rfl, _, hg, c0, c1, c2, ht⟩ := (H.below hb) i hlt
      obtain ⟨a3, n3, cap3, rfl⟩ := ht.third
      have hbs : w.heap.size < wr.heap.size := by obtain ⟨cs, h1, _⟩ := hK; exact h1.lt
      go_wp2_with fail
      refine (HK.out ks[i] (List.getElem_mem hlt) _ _ ht).mono ?_
      rintro e w3 ⟨u, rfl, hu, hb3, hp3⟩
      have hP3 := hP.call hb3 hp3
      have hK3 := hK.below hb3
      have hB3 := hb.trans (hb3.mono hb.size)
      obtain ⟨s', r', ks', a', cap', rfl, _, _, _, _, _, _⟩ := hu.open
      have hK4 := Lib.hid (hK3.put hlt (hu.mono (by omega)))
      obtain ⟨cs, hrow, _⟩ := hK3
      obtain ⟨d0, f0⟩ := kid_cell hrow hlt (q := 0) (by omega)
      obtain ⟨d1, f1⟩ := kid_cell hrow hlt (q := 1) (by omega)
      obtain ⟨d2, f2⟩ := kid_cell hrow hlt (q := 2) (by omega)
      rw [if_neg (Nat.lt_irrefl _)] at d0 d1 d2
      rw [Nat.add_zero] at d0 f0
      have hB4 := Lib.hid (((hB3.setCell (p := ⟨w.heap.size, i * 3, none⟩) (Nat.le_refl _) (.string s')).setCell (p := ⟨w.heap.size, i * 3 + 1, none⟩) (Nat.le_refl _) (.int .i64 r')).setCell (p := ⟨w.heap.size, i * 3 + 2, none⟩) (Nat.le_refl _) (.slice a' ks'.length cap'))
      have hP4 := Lib.hid (((hP3.set ⟨w.heap.size, i * 3, none⟩ (.string s')).set ⟨w.heap.size, i * 3 + 1, none⟩ (.int .i64 r')).set ⟨w.heap.size, i * 3 + 2, none⟩ (.slice a' ks'.length cap'))
      clear hrow hu hK hb ht c0 c1 c2 hb3 hB3 hP hp3 hP3
      go_wp2_with fail
      go_roundg (ks.length + 1 - (i + 1))
      case measure => have := HG.out; omega
      case rel => exact ⟨i + 1, rfl, by omega, by go_num, hK4.out, hB4.out, hP4.out⟩
    · have hil : ¬ (i : Int) < (ks.length : Int) := by omega
      obtain rfl : i = ks.length := by omega
      have hKd := hK.done w.heap.size (Nat.le_refl _)
      go_wp2_with fail
      go_ret
      exact ⟨w.heap.size, rfl, Nat.le_refl _, hKd, hb, hP⟩
theorem wt_kid {s : ByteArray} {r : Int} {ks : List Tr} : ks.length ≤ (Tr.node s r ks).wt ∧ ∀ k ∈ ks, k.wt ≤ (Tr.node s r ks).wt := by
  rw [Tr.wt]
  refine ⟨by omega, fun k hk => ?_⟩
  have : k.wt ≤ (ks.map Tr.wt).sum := by
    clear s r
    induction ks with
    | nil => cases hk
    | cons x xs ih =>
      rw [List.map_cons, List.sum_cons]
      rcases List.mem_cons.1 hk with rfl | h
      · omega
      · have := ih h; omega
  omega
def BoxT (w : World) (b : Nat) (v0 v1 v2 : Value) : Prop := w.heap[b]? = some (.cells #[v0, v1, v2] 29)
theorem BoxT.lt {w : World} {b : Nat} {v0 v1 v2 : Value} (h : BoxT w b v0 v1 v2) : b < w.heap.size := (Array.getElem?_eq_some_iff.1 h).1
theorem BoxT.below {w w' : World} {b : Nat} {v0 v1 v2 : Value} (h : BoxT w b v0 v1 v2) (hb : Below w.heap.size w w') : BoxT w' b v0 v1 v2 := (hb.block b h.lt).trans h
theorem BoxT.cells {w : World} {b : Nat} {v0 v1 v2 : Value} (h : BoxT w b v0 v1 v2) : w.cell? ⟨b, 0, none⟩ = some v0 ∧ w.cell? ⟨b, 1, none⟩ = some v1 ∧ w.cell? ⟨b, 2, none⟩ = some v2 ∧ w.frozen? ⟨b, 0, none⟩ = false ∧ w.frozen? ⟨b, 1, none⟩ = false ∧ w.frozen? ⟨b, 2, none⟩ = false :=
  ⟨by rw [cell_of_block h 0]; rfl, by rw [cell_of_block h 1]; rfl, by rw [cell_of_block h 2]; rfl, frozen_of_block h 0, frozen_of_block h 1, frozen_of_block h 2⟩
theorem KidsIn.stay {w w' : World} {B : Nat} {a : Option Addr} {ks : List Tr} (h : KidsIn w B a ks) (hb : ∀ g, B ≤ g → g < w.heap.size → w'.heap[g]? = w.heap[g]?) (hz : w.heap.size ≤ w'.heap.size) : KidsIn w' B a ks := fun i hi => by
  obtain ⟨g, off, s, r, x, e, hB, hg, c0, c1, c2, ht⟩ := h i hi
  have hh := hb g hB hg
  exact ⟨g, off, s, r, x, e, hB, Nat.lt_of_lt_of_le hg hz, by rw [cell_same hh, c0], by rw [cell_same hh, c1], by rw [cell_same hh, c2], ht.stay hb hz⟩
set_option maxHeartbeats 2000000 in
theorem toTree_any (m : Nat) : ∀ (T : Tr), T.sz ≤ m → T.wt ≤ 1048576 → ∀ v w, TrIn w 0 v T → Calls Tryd.prog 14 #[v] w (MadeTree T w) := by
  induction m with
  | zero =>
    intro T hT
    cases T with
    | node s r ks => rw [Tr.sz] at hT; omega
  | succ m ih =>
    intro T hT hW v w HT
    obtain ⟨s, r, ks, a, cap, rfl, rfl, hs, hr, hn, hc, HK⟩ := HT.open
    obtain ⟨hw1, hw2⟩ := wt_kid (s := s) (r := r) (ks := ks)
    have hkids : ∀ k ∈ ks, ∀ v w, TrIn w 0 v k → Calls Tryd.prog 14 #[v] w (MadeTree k w) :=
      fun k hk => ih k (by have := Tr.sz_kid (s := s) (r := r) hk; omega) (by have := hw2 k hk; omega)
    have HKI := Lib.hid hkids
    have hn2 : ks.length ≤ 1048576 := by omega
    clear hkids ih hT hw1 hw2 hW
    have hb3 := (((Below.refl w.heap.size w).alloc (Nat.le_refl _) (.cells #[.string s, .int .i64 r, .slice a ks.length cap] 24)).alloc (by simp) (.cells #[.string ⟨#[]⟩, .int .i64 0, .slice none 0 0] 29)).alloc (by simp; omega) (.cells #[.string s, .int .i64 r, .slice none 0 0] 29)
    go_enter Tryd.func14, Tryd.ntmps14
    have hZ3 : BoxT (((w.alloc (.cells #[.string s, .int .i64 r, .slice a ks.length cap] 24)).alloc (.cells #[.string ⟨#[]⟩, .int .i64 0, .slice none 0 0] 29)).alloc (.cells #[.string s, .int .i64 r, .slice none 0 0] 29)) (w.heap.size + 1) (.string ⟨#[]⟩) (.int .i64 0) (.slice none 0 0) := (blk_old _ _ (by simp)).trans (blk_new _ _ (by simp))
    have hO3 : BoxT (((w.alloc (.cells #[.string s, .int .i64 r, .slice a ks.length cap] 24)).alloc (.cells #[.string ⟨#[]⟩, .int .i64 0, .slice none 0 0] 29)).alloc (.cells #[.string s, .int .i64 r, .slice none 0 0] 29)) (w.heap.size + 1 + 1) (.string s) (.int .i64 r) (.slice none 0 0) := blk_new _ _ (by simp)
    have hsz3 : (((w.alloc (.cells #[.string s, .int .i64 r, .slice a ks.length cap] 24)).alloc (.cells #[.string ⟨#[]⟩, .int .i64 0, .slice none 0 0] 29)).alloc (.cells #[.string s, .int .i64 r, .slice none 0 0] 29)).heap.size = w.heap.size + 3 := by simp
    have HSZ := Lib.hid hsz3
    clear hsz3
    go_wp2_with fail
    refine (toTreeS_of ks HKI.out a cap _ (HK.below hb3) hn2).mono ?_
    rintro e w4 ⟨b, rfl, hbge, hKI, hb4, hp4⟩
    have hP4 := ((((PlainFrom.start w).alloc #[.string s, .int .i64 r, .slice a ks.length cap] 24).alloc #[.string ⟨#[]⟩, .int .i64 0, .slice none 0 0] 29).alloc #[.string s, .int .i64 r, .slice none 0 0] 29).call hb4 hp4
    have HPF := Lib.hid ((((hP4.set ⟨w.heap.size + 1 + 1, 2, none⟩ (.slice (some ⟨b, 0, none⟩) ks.length ks.length)).set ⟨w.heap.size + 1, 0, none⟩ (.string s)).set ⟨w.heap.size + 1, 1, none⟩ (.int .i64 r)).set ⟨w.heap.size + 1, 2, none⟩ (.slice (some ⟨b, 0, none⟩) ks.length ks.length))
    clear hp4 hP4
    rw [HSZ.out] at hKI hbge
    have hZ4 := hZ3.below hb4
    have hO4 := hO3.below hb4
    have hB4 := hb3.trans (hb4.mono (by rw [HSZ.out]; omega))
    obtain ⟨o0, o1, o2, of0, of1, of2⟩ := hO4.cells
    obtain ⟨z0, z1, z2, zf0, zf1, zf2⟩ := hZ4.cells
    have hzz := hZ4.lt
    clear hZ3 hO3 hb3 hb4 hZ4 hO4 HKI HK HT
    have hKF : KidsIn ((((w4.setCell ⟨w.heap.size + 1 + 1, 2, none⟩ (.slice (some ⟨b, 0, none⟩) ks.length ks.length)).setCell ⟨w.heap.size + 1, 0, none⟩ (.string s)).setCell ⟨w.heap.size + 1, 1, none⟩ (.int .i64 r)).setCell ⟨w.heap.size + 1, 2, none⟩ (.slice (some ⟨b, 0, none⟩) ks.length ks.length)) (w.heap.size + 3) (some ⟨b, 0, none⟩) ks :=
      hKI.stay (fun g hg _ => by
        rw [Below.heap_setCell _ _ _ _ (by show g ≠ w.heap.size + 1; omega), Below.heap_setCell _ _ _ _ (by show g ≠ w.heap.size + 1; omega), Below.heap_setCell _ _ _ _ (by show g ≠ w.heap.size + 1; omega), Below.heap_setCell _ _ _ _ (by show g ≠ w.heap.size + 1 + 1; omega)]) (by simp)
    have hTF := (TrIn.close hs hr hn (Nat.le_refl _) hKF).mono (B' := w.heap.size) (by omega)
    have hBF := (((hB4.setCell (p := ⟨w.heap.size + 1 + 1, 2, none⟩) (by show _ ≤ w.heap.size + 1 + 1; omega) (.slice (some ⟨b, 0, none⟩) ks.length ks.length)).setCell (p := ⟨w.heap.size + 1, 0, none⟩) (Nat.le_succ _) (.string s)).setCell (p := ⟨w.heap.size + 1, 1, none⟩) (Nat.le_succ _) (.int .i64 r)).setCell (p := ⟨w.heap.size + 1, 2, none⟩) (Nat.le_succ _) (.slice (some ⟨b, 0, none⟩) ks.length ks.length)
    have HTF := Lib.hid hTF
    have HBF := Lib.hid hBF
    clear hKF hTF hBF hB4 hKI
    go_wp2_with fail
    exact bodyPost_ret (v := .agg #[.string s, .int .i64 r, .slice (some ⟨b, 0, none⟩) ks.length ks.length]) (by simp [results, Tryd.results14, go_sem, z0, z1, z2]) rfl ⟨_, rfl, HTF.out, HBF.out, HPF.out⟩
end Go.Proofs.YtpkejcjjbkgomaaDoor
