/- The contract of markTree: it writes marks over the signs and the rules of a tree's nodes, and into nothing else. -/
import Derived.Test.YtcningdeocmbgaaSzT
import Derived.Test.YtcningdeocmbgaaMarkA
namespace Go.Proofs.Ytcningdeocmbgaa
open Go.ChangeShapes Go.WideShapes Go.ChangeAt Go.RowKit Go.Deep
set_option maxRecDepth 100000
def Tr.kids : Tr → List Tr
  | .node _ _ ks => ks
/-- rows of nodes in the blocks from B to A: which signs and rules they hold is not said -/
def Shp (w : World) (B A : Nat) : Nat → Option Addr → List Tr → Prop
  | 0, _, ks => ks = []
  | m + 1, a, ks => ∀ i (_ : i < ks.length), ∃ g off s r a' cap', a = some ⟨g, off, none⟩ ∧ B ≤ g ∧ g < A ∧ w.cell? ⟨g, off + i * 3, none⟩ = some (.string s) ∧ w.cell? ⟨g, off + i * 3 + 1, none⟩ = some (.int .i64 r) ∧
      w.cell? ⟨g, off + i * 3 + 2, none⟩ = some (.slice a' ks[i].kids.length cap') ∧ Shp w B A m a' ks[i].kids
/-- between the two worlds only strings and numbers in the blocks from B to A were turned -/
structure Ret (B A : Nat) (w w' : World) : Prop where
  os : w'.os = w.os
  tape : w'.tape = w.tape
  output : w'.output = w.output
  size : w.heap.size ≤ w'.heap.size
  same : ∀ g, g < w.heap.size → ¬ (B ≤ g ∧ g < A) → w'.heap[g]? = w.heap[g]?
  fr : ∀ g o, B ≤ g → g < A → w.frozen? ⟨g, o, none⟩ = false → w'.frozen? ⟨g, o, none⟩ = false
  str : ∀ g o s, B ≤ g → g < A → w.cell? ⟨g, o, none⟩ = some (.string s) → ∃ s', w'.cell? ⟨g, o, none⟩ = some (.string s')
  int : ∀ g o r, B ≤ g → g < A → w.cell? ⟨g, o, none⟩ = some (.int .i64 r) → ∃ r', w'.cell? ⟨g, o, none⟩ = some (.int .i64 r')
  sl : ∀ g o a n c, B ≤ g → g < A → w.cell? ⟨g, o, none⟩ = some (.slice a n c) → w'.cell? ⟨g, o, none⟩ = some (.slice a n c)
theorem Ret.refl (B A : Nat) (w : World) : Ret B A w w := ⟨rfl, rfl, rfl, Nat.le_refl _, fun _ _ _ => rfl, fun _ _ _ _ h => h, fun _ _ s _ _ h => ⟨s, h⟩, fun _ _ r _ _ h => ⟨r, h⟩, fun _ _ _ _ _ _ _ h => h⟩
theorem Ret.trans {B A : Nat} {a b c : World} (h : Ret B A a b) (k : Ret B A b c) : Ret B A a c :=
  ⟨k.os.trans h.os, k.tape.trans h.tape, k.output.trans h.output, Nat.le_trans h.size k.size, fun g hg hn => (k.same g (Nat.lt_of_lt_of_le hg h.size) hn).trans (h.same g hg hn),
    fun g o h1 h2 h3 => k.fr g o h1 h2 (h.fr g o h1 h2 h3), fun g o s h1 h2 h3 => by obtain ⟨s', h4⟩ := h.str g o s h1 h2 h3; exact k.str g o s' h1 h2 h4,
    fun g o r h1 h2 h3 => by obtain ⟨r', h4⟩ := h.int g o r h1 h2 h3; exact k.int g o r' h1 h2 h4, fun g o x n y h1 h2 h3 => k.sl g o x n y h1 h2 (h.sl g o x n y h1 h2 h3)⟩
theorem Ret.of_below {B A : Nat} {w w' : World} (hb : Below w.heap.size w w') (hA : A ≤ w.heap.size) : Ret B A w w' :=
  ⟨hb.os, hb.tape, hb.output, hb.size, fun g hg _ => hb.block g hg, fun g o _ h2 h3 => by rw [World.frozen?_of_block (a := ⟨g, o, none⟩) (hb.block g (by omega))]; exact h3,
    fun g o s _ h2 h3 => ⟨s, by rw [hb.cell (p := ⟨g, o, none⟩) (show g < _ by omega)]; exact h3⟩, fun g o r _ h2 h3 => ⟨r, by rw [hb.cell (p := ⟨g, o, none⟩) (show g < _ by omega)]; exact h3⟩,
    fun g o a n c _ h2 h3 => by rw [hb.cell (p := ⟨g, o, none⟩) (show g < _ by omega)]; exact h3⟩
theorem Ret.put_str {B A : Nat} {w : World} {g o : Nat} {s : ByteArray} (hB : B ≤ g) (hA : g < A) (h : w.cell? ⟨g, o, none⟩ = some (.string s)) (s' : ByteArray) : Ret B A w (w.setCell ⟨g, o, none⟩ (.string s')) := by
  have key : ∀ g2 o2 u, w.cell? ⟨g2, o2, none⟩ = some u → (∀ z, u ≠ .string z) → (w.setCell ⟨g, o, none⟩ (.string s')).cell? ⟨g2, o2, none⟩ = some u := fun g2 o2 u hu hn => by
    rw [World.cell?_setCell_other (h := fun e => by rw [← e, h] at hu; simp only [Option.some.injEq] at hu; exact hn _ hu.symm)]
    exact hu
  refine ⟨rfl, rfl, rfl, by simp, fun g2 hg hn => Below.heap_setCell _ _ _ _ (fun e => hn (by have : g2 = g := e; omega)), fun g2 o2 _ _ h3 => by simpa using h3, fun g2 o2 z h1 h2 h3 => ?_, fun g2 o2 r h1 h2 h3 => ⟨r, key _ _ _ h3 (fun z => by simp)⟩, fun g2 o2 a n c h1 h2 h3 => key _ _ _ h3 (fun z => by simp)⟩
  by_cases e : (⟨g, o, none⟩ : Addr) = ⟨g2, o2, none⟩
  · rw [← e]; exact ⟨s', World.cell?_setCell_same _ _ _ h⟩
  · exact ⟨z, by rw [World.cell?_setCell_other (h := e)]; exact h3⟩
theorem Ret.put_int {B A : Nat} {w : World} {g o : Nat} {r : Int} (hB : B ≤ g) (hA : g < A) (h : w.cell? ⟨g, o, none⟩ = some (.int .i64 r)) (r' : Int) : Ret B A w (w.setCell ⟨g, o, none⟩ (.int .i64 r')) := by
  have key : ∀ g2 o2 u, w.cell? ⟨g2, o2, none⟩ = some u → (∀ z, u ≠ .int .i64 z) → (w.setCell ⟨g, o, none⟩ (.int .i64 r')).cell? ⟨g2, o2, none⟩ = some u := fun g2 o2 u hu hn => by
    rw [World.cell?_setCell_other (h := fun e => by rw [← e, h] at hu; simp only [Option.some.injEq] at hu; exact hn _ hu.symm)]
    exact hu
  refine ⟨rfl, rfl, rfl, by simp, fun g2 hg hn => Below.heap_setCell _ _ _ _ (fun e => hn (by have : g2 = g := e; omega)), fun g2 o2 _ _ h3 => by simpa using h3, fun g2 o2 z h1 h2 h3 => ⟨z, key _ _ _ h3 (fun z => by simp)⟩, fun g2 o2 z h1 h2 h3 => ?_, fun g2 o2 a n c h1 h2 h3 => key _ _ _ h3 (fun z => by simp)⟩
  by_cases e : (⟨g, o, none⟩ : Addr) = ⟨g2, o2, none⟩
  · rw [← e]; exact ⟨r', World.cell?_setCell_same _ _ _ h⟩
  · exact ⟨z, by rw [World.cell?_setCell_other (h := e)]; exact h3⟩
theorem Shp.ret {B A : Nat} {w w' : World} (hR : Ret B A w w') : ∀ m a ks, Shp w B A m a ks → Shp w' B A m a ks
  | 0, _, _, h => h
  | m + 1, a, ks, h => fun i hi => by
    obtain ⟨g, off, s, r, a', cap', e, hB, hA, c0, c1, c2, ht⟩ := h i hi
    obtain ⟨s', d0⟩ := hR.str _ _ _ hB hA c0
    obtain ⟨r', d1⟩ := hR.int _ _ _ hB hA c1
    exact ⟨g, off, s', r', a', cap', e, hB, hA, d0, d1, hR.sl _ _ _ _ _ hB hA c2, Shp.ret hR m _ _ ht⟩
/-- nothing in the blocks from B to A is read only -/
def Thaw (w : World) (B A : Nat) : Prop := ∀ g o, B ≤ g → g < A → w.frozen? ⟨g, o, none⟩ = false
theorem Thaw.ret {w w' : World} {B A : Nat} (h : Thaw w B A) (hR : Ret B A w w') : Thaw w' B A := fun g o h1 h2 => hR.fr g o h1 h2 (h g o h1 h2)
theorem len_le_sz : ∀ ks : List Tr, ks.length ≤ (ks.map Tr.sz).sum
  | [] => by simp
  | k :: ks => by
    have := len_le_sz ks
    have h1 : 1 ≤ k.sz := by cases k with | node s r l => rw [Tr.sz]; omega
    simp only [List.length_cons, List.map_cons, List.sum_cons]
    omega
set_option maxHeartbeats 2000000 in
theorem markTreeS_any (B A m : Nat) : ∀ (a : Option Addr) (ks : List Tr) (cap k : Nat) (w : World), Shp w B A m a ks → Thaw w B A → A ≤ w.heap.size → 0 < k → k + 2 * (ks.map Tr.sz).sum ≤ 5000000 →
    Calls Try.prog 39 #[.slice a ks.length cap, .int .i64 (k : Int)] w fun e w' => e = .returned (.int .i64 ((k + 2 * (ks.map Tr.sz).sum : Nat) : Int)) ∧ Ret B A w w' := by
  induction m with
  | zero =>
    intro a ks cap k w h _ _ _ _
    obtain rfl : ks = [] := h
    go_enter Try.func39, Try.ntmps39
    go_wp2
    go_loopw [1, 5] (fun kv iv wr => iv = .int .i64 0 ∧ kv = .int .i64 (k : Nat) ∧ wr = w) (fun _ _ _ => 0)
    case atStart => exact ⟨rfl, rfl, rfl⟩
    case round =>
      obtain ⟨rfl, rfl, rfl⟩ := hrel
      go_wp2
      go_ret
      exact ⟨by simp, Ret.refl _ _ _⟩
  | succ m ih =>
    intro a ks cap k w H HT hA hk0 hk
    have hn := len_le_sz ks
    have HIH := Lib.hid ih
    have HS := Lib.hid H
    have HTH := Lib.hid HT
    clear ih H HT
    go_enter Try.func39, Try.ntmps39
    go_wp2
    go_loopg [1, 5] (ks.length + 1) (fun gk kv iv wr => ∃ i : Nat, gk = ks.length + 1 - i ∧ i ≤ ks.length ∧ iv = .int .i64 (i : Int) ∧ kv = .int .i64 ((k + 2 * szTo ks i : Nat) : Int) ∧ Ret B A w wr)
    case atStart => exact ⟨0, rfl, Nat.zero_le _, rfl, by simp [szTo], Ret.refl _ _ _⟩
    case round =>
      obtain ⟨i, hgk, hi, rfl, rfl, hR⟩ := hrel
      have HG := Lib.hid hgk
      clear hgk
      have hml := szTo_le (ks := ks) i
      by_cases hlt : i < ks.length
      · have hil : (i : Int) < (ks.length : Int) := by omega
        have hms := szTo_succ hlt
        have hm2 := szTo_le (ks := ks) (i + 1)
        obtain ⟨sk, rk, kk, hkk⟩ : ∃ s r kk, ks[i] = Tr.node s r kk := by cases ks[i] with | node s r kk => exact ⟨s, r, kk, rfl⟩
        have hks : ks[i].sz = 1 + (ks[i].kids.map Tr.sz).sum := by rw [hkk, Tr.sz]; rfl
        obtain ⟨g, off, s, r, a', cap', rfl, hB, hgA, c0, c1, c2, ht⟩ := (Shp.ret hR _ _ _ HS.out) i hlt
        have hAr : A ≤ wr.heap.size := Nat.le_trans hA hR.size
        have HKS := Lib.hid hks
        have HMS := Lib.hid hms
        have hsz0 : szTo ks i + (1 + (ks[i].kids.map Tr.sz).sum) ≤ (ks.map Tr.sz).sum := by omega
        clear hks hms hkk
        go_wp2_with fail
        refine (markText_any (k + 2 * szTo ks i) _ (by omega) (by omega)).mono ?_
        rintro e w2 ⟨rfl, hb2⟩
        have R2 : Ret B A w w2 := hR.trans (Ret.of_below hb2 hAr)
        have d0 : w2.cell? ⟨g, off + i * 3, none⟩ = some (.string s) := (hb2.cell (p := ⟨g, _, none⟩) (show g < _ by omega)).trans c0
        have d1 : w2.cell? ⟨g, off + i * 3 + 1, none⟩ = some (.int .i64 r) := (hb2.cell (p := ⟨g, _, none⟩) (show g < _ by omega)).trans c1
        have d2 : w2.cell? ⟨g, off + i * 3 + 2, none⟩ = some (.slice a' ks[i].kids.length cap') := (hb2.cell (p := ⟨g, _, none⟩) (show g < _ by omega)).trans c2
        have f0 := (HTH.out.ret R2) g (off + i * 3) hB hgA
        have f1 := (HTH.out.ret R2) g (off + i * 3 + 1) hB hgA
        clear c0 c1 c2
        go_wp2_with fail
        have R4 : ∀ s' r', Ret B A wr ((w2.setCell ⟨g, off + i * 3, none⟩ (.string s')).setCell ⟨g, off + i * 3 + 1, none⟩ (.int .i64 r')) := fun s' r' =>
          ((Ret.of_below hb2 hAr).trans (Ret.put_str hB hgA d0 s')).trans (Ret.put_int (r := r) hB hgA (by rw [World.cell?_setCell_other (h := by simp)]; exact d1) r')
        rw [show ((k : Int) + 2 * (szTo ks i : Int) + 1 + 1) = ((k + 2 * szTo ks i + 2 : Nat) : Int) by omega]
        refine (HIH.out a' ks[i].kids cap' (k + 2 * szTo ks i + 2) _ (Shp.ret (R4 _ _) _ _ _ ht) (HTH.out.ret (hR.trans (R4 _ _))) (Nat.le_trans hAr (R4 _ _).size) (by omega) (by omega)).mono ?_
        rintro e w5 ⟨rfl, R5⟩
        have R6 := (hR.trans (R4 _ _)).trans R5
        clear R4 R5 d0 d1 d2 f0 f1 hb2 R2 hR ht
        go_wp2_with fail
        go_roundg (ks.length + 1 - (i + 1))
        case measure => have := HG.out; omega
        case rel => exact ⟨i + 1, rfl, by omega, by go_num, by rw [HMS.out, HKS.out]; congr 1; push_cast; omega, R6⟩
      · have hil : ¬ (i : Int) < (ks.length : Int) := by omega
        obtain rfl : i = ks.length := by omega
        have hfin : szTo ks ks.length = (ks.map Tr.sz).sum := by unfold szTo; rw [List.take_length]
        have HF := Lib.hid hfin
        clear hfin
        go_wp2_with fail
        go_ret
        exact ⟨by rw [← HF.out]; rfl, hR⟩
theorem Shp.of_kids {w : World} {B : Nat} : ∀ (m : Nat) (a : Option Addr) (ks : List Tr), (ks.map Tr.sz).sum ≤ m → KidsIn w B a ks → Shp w B w.heap.size m a ks
  | 0, a, ks, hm, _ => by
    have := len_le_sz ks
    have h0 : ks.length = 0 := by omega
    exact List.eq_nil_of_length_eq_zero h0
  | m + 1, a, ks, hm, h => fun i hi => by
    obtain ⟨g, off, s, r, x, e, hB, hg, c0, c1, c2, ht⟩ := h i hi
    obtain ⟨s', r', kk, a', cap', e1, e2, _, _, _, _, hk⟩ := ht.open
    simp only [Value.agg.injEq, Array.mk.injEq, List.cons.injEq] at e1
    obtain ⟨_, _, rfl, _⟩ := e1
    have hsz : ks[i].sz ≤ (ks.map Tr.sz).sum := by
      have h1 := szTo_succ hi
      have h2 := szTo_le (ks := ks) (i + 1)
      omega
    have hkk : ks[i].kids = kk := by rw [e2]; rfl
    have hle : (kk.map Tr.sz).sum ≤ m := by rw [e2, Tr.sz] at hsz; omega
    exact ⟨g, off, s, r, a', cap', e, hB, hg, c0, c1, by rw [hkk]; exact c2, by rw [hkk]; exact Shp.of_kids m a' kk hle hk⟩
set_option maxHeartbeats 2000000 in
theorem markTree_any (B A m : Nat) (s : ByteArray) (r : Int) (a : Option Addr) (ks : List Tr) (cap k : Nat) (w : World) (H : Shp w B A m a ks) (HT : Thaw w B A) (hA : A ≤ w.heap.size) (hk0 : 0 < k) (hk : k + 2 * (ks.map Tr.sz).sum ≤ 5000000) :
    Calls Try.prog 16 #[.agg #[.string s, .int .i64 r, .slice a ks.length cap], .int .i64 (k : Int)] w fun e w' => e = .returned (.int .i64 ((k + 2 * (ks.map Tr.sz).sum : Nat) : Int)) ∧ Ret B A w w' := by
  have hbA := (Below.refl w.heap.size w).alloc (Nat.le_refl _) (.cells #[.string s, .int .i64 r, .slice a ks.length cap] 30)
  have hB0 : BoxT (w.alloc (.cells #[.string s, .int .i64 r, .slice a ks.length cap] 30)) w.heap.size (.string s) (.int .i64 r) (.slice a ks.length cap) := blk_new _ _ rfl
  obtain ⟨o0, o1, o2, of0, of1, of2⟩ := hB0.cells
  have R1 : Ret B A w (w.alloc (.cells #[.string s, .int .i64 r, .slice a ks.length cap] 30)) := Ret.of_below hbA hA
  go_enter Try.func16, Try.ntmps16
  go_wp2_with fail
  refine (markTreeS_any B A m a ks cap k _ (Shp.ret R1 _ _ _ H) (HT.ret R1) (Nat.le_trans hA R1.size) hk0 hk).mono ?_
  rintro e w3 ⟨rfl, R3⟩
  clear o0 o1 o2 of0 of1 of2
  go_wp2_with fail
  go_ret
  exact ⟨rfl, R1.trans R3⟩
end Go.Proofs.Ytcningdeocmbgaa
