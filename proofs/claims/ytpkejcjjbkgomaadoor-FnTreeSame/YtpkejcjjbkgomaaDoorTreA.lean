/- Trees in memory; the size of a tree that came in. -/
import Derived.Test.YtpkejcjjbkgomaaDoorOkB
import Derived.Deep.LoopGhost
namespace Go.Proofs.YtpkejcjjbkgomaaDoor
open Go.ChangeShapes Go.WideShapes Go.ChangeAt Go.RowKit
set_option maxRecDepth 100000
inductive Tr where
  | node (s : ByteArray) (r : Int) (ks : List Tr) : Tr
def Tr.sz : Tr → Nat
  | .node _ _ ks => 1 + (ks.map Tr.sz).sum
theorem Tr.sz_kid {s : ByteArray} {r : Int} {ks : List Tr} {k : Tr} (h : k ∈ ks) : k.sz < (Tr.node s r ks).sz := by
  have : k.sz ≤ (ks.map Tr.sz).sum := by
    induction ks with
    | nil => cases h
    | cons x xs ih =>
      rw [List.map_cons, List.sum_cons]
      rcases List.mem_cons.1 h with rfl | h
      · omega
      · have := ih h; omega
  rw [Tr.sz]; omega
/-- what szTree takes off: bytes and kids -/
def Tr.wt : Tr → Nat
  | .node s _ ks => s.size + ks.length + (ks.map Tr.wt).sum
/-- the value v is the tree T in the world w: kid i lies at three cells of the slice; all blocks are from B on -/
inductive TrIn (w : World) (B : Nat) : Value → Tr → Prop
  | node (s : ByteArray) (r : Int) (ks : List Tr) (a : Option Addr) (cap : Nat) (cs : Nat → ByteArray × Int × Value)
      (hs : s.size ≤ maxLen) (hr : (Lit.int .i64 r).wf = true) (hn : ks.length ≤ maxLen) (hc : ks.length ≤ cap)
      (hk : ∀ i, i < ks.length → ∃ g off, a = some ⟨g, off, none⟩ ∧ B ≤ g ∧ g < w.heap.size ∧ w.cell? ⟨g, off + i * 3, none⟩ = some (.string (cs i).1) ∧ w.cell? ⟨g, off + i * 3 + 1, none⟩ = some (.int .i64 (cs i).2.1) ∧ w.cell? ⟨g, off + i * 3 + 2, none⟩ = some (cs i).2.2)
      (ht : ∀ i (h : i < ks.length), TrIn w B (.agg #[.string (cs i).1, .int .i64 (cs i).2.1, (cs i).2.2]) ks[i]) :
      TrIn w B (.agg #[.string s, .int .i64 r, .slice a ks.length cap]) (.node s r ks)
theorem cell_same {w w' : World} {g : Nat} (h : w'.heap[g]? = w.heap[g]?) (o : Nat) : w'.cell? ⟨g, o, none⟩ = w.cell? ⟨g, o, none⟩ := by simp [World.cell?, h]
theorem TrIn.stay {w w' : World} {B : Nat} {v : Value} {T : Tr} (h : TrIn w B v T) (hb : ∀ g, B ≤ g → g < w.heap.size → w'.heap[g]? = w.heap[g]?) (hz : w.heap.size ≤ w'.heap.size) : TrIn w' B v T := by
  induction h with
  | node s r ks a cap cs hs hr hn hc hk _ ih =>
    refine .node s r ks a cap cs hs hr hn hc (fun i hi => ?_) ih
    obtain ⟨g, off, e, hB, hg, c0, c1, c2⟩ := hk i hi
    have hh := hb g hB hg
    exact ⟨g, off, e, hB, Nat.lt_of_lt_of_le hg hz, by rw [cell_same hh, c0], by rw [cell_same hh, c1], by rw [cell_same hh, c2]⟩
theorem TrIn.keep {w w' : World} {B : Nat} {v : Value} {T : Tr} (h : TrIn w B v T) (hb : Below w.heap.size w w') : TrIn w' B v T := h.stay (fun g _ hg => hb.block g hg) hb.size
theorem TrIn.mono {w : World} {B B' : Nat} {v : Value} {T : Tr} (h : TrIn w B v T) (hB : B' ≤ B) : TrIn w B' v T := by
  induction h with
  | node s r ks a cap cs hs hr hn hc hk _ ih =>
    refine .node s r ks a cap cs hs hr hn hc (fun i hi => ?_) ih
    obtain ⟨g, off, e, hb, h⟩ := hk i hi
    exact ⟨g, off, e, by omega, h⟩
/-- the kids ks lie behind a -/
def KidsIn (w : World) (B : Nat) (a : Option Addr) (ks : List Tr) : Prop := ∀ i (h : i < ks.length), ∃ g off s r x, a = some ⟨g, off, none⟩ ∧ B ≤ g ∧ g < w.heap.size ∧ w.cell? ⟨g, off + i * 3, none⟩ = some (.string s) ∧ w.cell? ⟨g, off + i * 3 + 1, none⟩ = some (.int .i64 r) ∧ w.cell? ⟨g, off + i * 3 + 2, none⟩ = some x ∧ TrIn w B (.agg #[.string s, .int .i64 r, x]) ks[i]
theorem KidsIn.below {w w' : World} {B : Nat} {a : Option Addr} {ks : List Tr} (h : KidsIn w B a ks) (hb : Below w.heap.size w w') : KidsIn w' B a ks := fun i hi => by
  obtain ⟨g, off, s, r, x, e, hB, hg, c0, c1, c2, ht⟩ := h i hi
  exact ⟨g, off, s, r, x, e, hB, Nat.lt_of_lt_of_le hg hb.size, by rw [hb.cell (p := ⟨g, _, none⟩) hg, c0], by rw [hb.cell (p := ⟨g, _, none⟩) hg, c1], by rw [hb.cell (p := ⟨g, _, none⟩) hg, c2], ht.keep hb⟩
theorem TrIn.open {w : World} {B : Nat} {v : Value} {T : Tr} (h : TrIn w B v T) : ∃ s r ks a cap, v = .agg #[.string s, .int .i64 r, .slice a ks.length cap] ∧ T = .node s r ks ∧ s.size ≤ maxLen ∧ (Lit.int .i64 r).wf = true ∧ ks.length ≤ maxLen ∧ ks.length ≤ cap ∧ KidsIn w B a ks := by
  cases h with
  | node s r ks a cap cs hs hr hn hc hk ht =>
    refine ⟨s, r, ks, a, cap, rfl, rfl, hs, hr, hn, hc, fun i hi => ?_⟩
    obtain ⟨g, off, e, hB, hg, c0, c1, c2⟩ := hk i hi
    exact ⟨g, off, _, _, _, e, hB, hg, c0, c1, c2, ht i hi⟩
/-- the third cell of a tree is a slice -/
theorem TrIn.third {w : World} {B : Nat} {s : ByteArray} {r : Int} {x : Value} {T : Tr} (h : TrIn w B (.agg #[.string s, .int .i64 r, x]) T) : ∃ a n cap, x = .slice a n cap := by
  obtain ⟨s', r', ks, a, cap, e, _⟩ := h.open
  simp only [Value.agg.injEq, Array.mk.injEq, List.cons.injEq, and_true] at e
  exact ⟨a, _, cap, e.2.2⟩
/-- what szTree and szTreeS tell: never more than was left, and where something is left it is what the tree has taken off -/
def SzSays (wt : Nat) (left : Int) (e : Ending) : Prop := ∃ v : Int, e = .returned (.int .i64 v) ∧ -1 ≤ v ∧ v ≤ left ∧ (0 ≤ v → v + wt ≤ left)
def wtTo (ks : List Tr) (i : Nat) : Nat := ((ks.take i).map Tr.wt).sum
theorem wtTo_succ {ks : List Tr} {i : Nat} (h : i < ks.length) : wtTo ks (i + 1) = wtTo ks i + ks[i].wt := by
  unfold wtTo
  rw [List.take_succ_eq_append_getElem h, List.map_append, List.sum_append]
  simp
theorem wtTo_all (ks : List Tr) : wtTo ks ks.length = (ks.map Tr.wt).sum := by unfold wtTo; rw [List.take_length]
set_option maxHeartbeats 2000000 in
theorem szTreeS_of (ks : List Tr) (hkids : ∀ k ∈ ks, ∀ v w left, TrIn w 0 v k → 0 ≤ left → left ≤ 1048576 → Calls Tryd.prog 12 #[v, .int .i64 left] w fun e w' => SzSays k.wt left e ∧ Below w.heap.size w w')
    (a : Option Addr) (cap : Nat) (w : World) (left : Int) (H : KidsIn w 0 a ks) (hn : ks.length ≤ maxLen) (h0 : 0 ≤ left) (h1 : left ≤ 1048576) :
    Calls Tryd.prog 44 #[.slice a ks.length cap, .int .i64 left] w fun e w' => SzSays (ks.length + (ks.map Tr.wt).sum) left e ∧ Below w.heap.size w w' := by
  unfold maxLen at hn
  by_cases hneg : left - (ks.length : Int) < 0
  · go_enter Tryd.func44, Tryd.ntmps44
    go_wp2_with fail
    go_ret
    exact ⟨⟨-1, rfl, by omega, by omega, fun h => by omega⟩, Below.refl _ _⟩
  · have HK := Lib.hid hkids
    clear hkids
    go_enter Tryd.func44, Tryd.ntmps44
    go_wp2_with fail
    go_loopg [1, 5] (ks.length + 1) (fun gk lv iv wr => ∃ (i : Nat) (l : Int), gk = ks.length + 1 - i ∧ i ≤ ks.length ∧ iv = .int .i64 (i : Int) ∧ lv = .int .i64 l ∧ 0 ≤ l ∧ l + (wtTo ks i : Int) + (ks.length : Int) ≤ left ∧ Below w.heap.size w wr)
    case atStart => exact ⟨0, _, rfl, Nat.zero_le _, rfl, rfl, by omega, by simp [wtTo], Below.refl _ _⟩
    case round =>
      obtain ⟨i, l, hgk, hi, rfl, rfl, hl0, hl1, hb⟩ := hrel
      have HG := Lib.hid hgk
      clear hgk
      by_cases hlt : i < ks.length
      · have hil : (i : Int) < (ks.length : Int) := by omega
        obtain ⟨g, off, s, r, x, rfl, _, hg, c0, c1, c2, ht⟩ := (H.below hb) i hlt
        obtain ⟨a3, n3, cap3, rfl⟩ := ht.third
        have hw := wtTo_succ hlt
        have HW := Lib.hid hw
        clear hw
        go_wp2_with fail
        refine (HK.out ks[i] (List.getElem_mem hlt) _ _ l ht hl0 (by omega)).mono ?_
        rintro e w3 ⟨⟨v, rfl, hv1, hv2, hv3⟩, hb3⟩
        have hB3 := hb.trans (hb3.mono hb.size)
        by_cases hvn : v < 0
        · clear hv3
          go_wp2_with fail
          go_ret
          exact ⟨⟨-1, rfl, by omega, by omega, fun h => by omega⟩, hB3⟩
        · have hv4 := hv3 (by omega)
          have hvn' : ¬ v < 0 := hvn
          clear hv3 c0 c1 c2 ht
          go_wp2_with fail
          go_roundg (ks.length + 1 - (i + 1))
          case measure => have := HG.out; omega
          case rel => exact ⟨i + 1, v, rfl, by omega, by go_num, rfl, by omega, by have := HW.out; omega, hB3⟩
      · have hil : ¬ (i : Int) < (ks.length : Int) := by omega
        obtain rfl : i = ks.length := by omega
        have ha := wtTo_all ks
        have HA := Lib.hid ha
        clear ha
        go_wp2_with fail
        go_ret
        exact ⟨⟨l, rfl, by omega, by omega, fun _ => by have := HA.out; omega⟩, hb⟩
set_option maxHeartbeats 2000000 in
theorem szTree_any (m : Nat) : ∀ (T : Tr), T.sz ≤ m → ∀ v w left, TrIn w 0 v T → 0 ≤ left → left ≤ 1048576 →
    Calls Tryd.prog 12 #[v, .int .i64 left] w fun e w' => SzSays T.wt left e ∧ Below w.heap.size w w' := by
  induction m with
  | zero =>
    intro T hT
    cases T with
    | node s r ks => rw [Tr.sz] at hT; omega
  | succ m ih =>
    intro T hT v w left HT h0 h1
    obtain ⟨s, r, ks, a, cap, rfl, rfl, hs, hr, hn, hc, HK⟩ := HT.open
    have hkids : ∀ k ∈ ks, ∀ v w left, TrIn w 0 v k → 0 ≤ left → left ≤ 1048576 → Calls Tryd.prog 12 #[v, .int .i64 left] w fun e w' => SzSays k.wt left e ∧ Below w.heap.size w w' :=
      fun k hk => ih k (by have := Tr.sz_kid (s := s) (r := r) hk; omega)
    have HKI := Lib.hid hkids
    have hbA := (Below.refl w.heap.size w).alloc (Nat.le_refl _) (.cells #[.string s, .int .i64 r, .slice a ks.length cap] 24)
    have hwt : (Tr.node s r ks).wt = s.size + ks.length + (ks.map Tr.wt).sum := by rw [Tr.wt]
    have HWT := Lib.hid hwt
    clear hkids ih hwt hT
    unfold maxLen at hs
    by_cases hneg : left - (s.size : Int) < 0
    · go_enter Tryd.func12, Tryd.ntmps12
      go_wp2_with fail
      go_ret
      exact ⟨⟨-1, rfl, by omega, by omega, fun h => by omega⟩, hbA⟩
    · go_enter Tryd.func12, Tryd.ntmps12
      go_wp2_with fail
      refine (szTreeS_of ks HKI.out a cap _ (left - (s.size : Int)) (HK.below hbA) hn (by omega) (by omega)).mono ?_
      rintro e w3 ⟨⟨v, rfl, hv1, hv2, hv3⟩, hb3⟩
      have hB3 := hbA.trans (hb3.mono (by simp))
      by_cases hvn : v < 0
      · clear hv3
        go_wp2_with fail
        go_ret
        exact ⟨⟨-1, rfl, by omega, by omega, fun h => by omega⟩, hB3⟩
      · have hv4 := hv3 (by omega)
        clear hv3
        go_wp2_with fail
        go_ret
        exact ⟨⟨v, rfl, by omega, by omega, fun _ => by have := HWT.out; omega⟩, hB3⟩
end Go.Proofs.YtpkejcjjbkgomaaDoor
