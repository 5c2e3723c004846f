/- The program's table of nodes in memory. -/
import Derived.Test.YtpkejcjjbkgomaaDoorNuM
import Derived.Test.YtpkejcjjbkgomaaDoorMapF
import Derived.Test.YtpkejcjjbkgomaaDoorWalkA
import Derived.Test.YtpkejcjjbkgomaaDoorTreF
namespace Go.Proofs.YtpkejcjjbkgomaaDoor
open Go.ChangeShapes Go.WideShapes Go.ChangeAt Go.RowKit Go.Deep
open Go.WideMaps (KeyLaw)
set_option maxRecDepth 100000
/-- a node of the table: the tree, where its kids' numbers lie, and these -/
structure NE where
  t : Tr
  v : Value
  js : List Nat
def ylen (t : Tr) : Nat := (yieldL t).length
def Tr.ks : Tr → List Tr | .node _ _ ks => ks
def cellNE : NE → List Value | ⟨.node s r ks, v, _⟩ => [.string s, .int .i64 r, v, .int .i64 (ylen (.node s r ks) : Int)]
def keyT : Tr → List Nat → Value | .node s r _, js => .agg #[.string s, .int .i64 r, .string ⟨(encK js).toArray⟩]
def WfTr : Tr → Prop | .node s r ks => s.size ≤ maxLen ∧ (Lit.int .i64 r).wf = true ∧ ks.length ≤ 2000000
theorem cellNE_len (e : NE) : (cellNE e).length = 4 := by
  obtain ⟨t, v, js⟩ := e
  cases t; rfl
def flatN (E : List NE) : List Value := E.flatMap cellNE
theorem flatN_len (E : List NE) : (flatN E).length = E.length * 4 := by
  unfold flatN
  induction E with
  | nil => rfl
  | cons e E ih => rw [List.flatMap_cons, List.length_append, ih, cellNE_len, List.length_cons]; omega
theorem flatN_at : ∀ (E : List NE) (i : Nat) (h : i < E.length) (q : Nat), q < 4 → (flatN E)[i * 4 + q]? = (cellNE E[i])[q]?
  | e :: E, 0, _, q, hq => by
    show (cellNE e ++ flatN E)[0 * 4 + q]? = _
    rw [List.getElem?_append_left (by rw [cellNE_len]; omega)]
    simp
  | e :: E, i + 1, h, q, hq => by
    show (cellNE e ++ flatN E)[(i + 1) * 4 + q]? = _
    rw [List.getElem?_append_right (by rw [cellNE_len]; omega), cellNE_len, show (i + 1) * 4 + q - 4 = i * 4 + q from by omega]
    exact flatN_at E i (by simpa using h) q hq
/-- numbers that can be read, in a block of numbers -/
def KidR (w : World) (a : Option Addr) (js : List Nat) : Prop := RowV w a js.length (fun j => .int .i64 ((js.getD j 0 : Nat) : Int)) ∧ ∀ b off fr, a = some ⟨b, off, fr⟩ → ∃ c z, w.heap[b]? = some (.cells c 3 z)
def KidV (w : World) (S : List Nat) (v : Value) (js : List Nat) : Prop := ∃ a cap, v = .slice a js.length cap ∧ js.length ≤ cap ∧ KidR w a js ∧ ∀ b off fr, a = some ⟨b, off, fr⟩ → b ∈ S
theorem KidR.keep {w w' : World} {a : Option Addr} {js : List Nat} (h : KidR w a js) (hs : w.heap.size ≤ w'.heap.size) (hk : ∀ b off fr, a = some ⟨b, off, fr⟩ → b < w.heap.size → w'.heap[b]? = w.heap[b]?) : KidR w' a js := by
  refine ⟨h.1.keep hs (fun b off e hl => hk b off none e hl), fun b off fr e => ?_⟩
  obtain ⟨c, z, hc⟩ := h.2 b off fr e
  exact ⟨c, z, (hk b off fr e (Array.getElem?_eq_some_iff.1 hc).1).trans hc⟩
theorem KidR.lt {w : World} {a : Option Addr} {js : List Nat} (h : KidR w a js) {b off : Nat} {fr : Option Nat} (e : a = some ⟨b, off, fr⟩) : b < w.heap.size := by
  obtain ⟨c, z, hc⟩ := h.2 b off fr e
  exact (Array.getElem?_eq_some_iff.1 hc).1
theorem KidV.keep {w w' : World} {S S' : List Nat} {v : Value} {js : List Nat} (h : KidV w S v js) (hs : w.heap.size ≤ w'.heap.size) (hS : ∀ k, k ∈ S → k ∈ S') (hk : ∀ b, b ∈ S → (∃ c z, w.heap[b]? = some (.cells c 3 z)) → w'.heap[b]? = w.heap[b]?) : KidV w' S' v js := by
  obtain ⟨a, cap, e, hc, hr, hm⟩ := h
  exact ⟨a, cap, e, hc, hr.keep hs (fun b off fr ea _ => hk b (hm b off fr ea) (hr.2 b off fr ea)), fun b off fr ea => hS b (hm b off fr ea)⟩
/-- what the map says of the nodes -/
def tabF (E : List NE) (F : Value → Option Value) : Prop := ∀ x v, F x = some v ↔ ∃ i, ∃ h : i < E.length, x = keyT E[i].t E[i].js ∧ v = .int .i64 ((i : Nat) : Int)
/-- the table at tp, in blocks of S, holds the trees L -/
structure TabE (w : World) (S : List Nat) (tp mb : Nat) (nv : Value) (E : List NE) (F : Value → Option Value) : Prop where
  head : w.heap[tp]? = some (.cells #[nv, .map (some mb)] 136)
  hin : tp ∈ S
  min : mb ∈ S
  mp : MapF Tryd.prog 178 w mb F
  tf : tabF E F
  row : w.ownsRow 0 141 4 nv E.length (flatN E)
  rin : ∀ g, nv.ownBlock = some g → g ∈ S
  kids : ∀ e ∈ E, IxAt (E.map NE.t) e.js e.t.ks ∧ KidV w S e.v e.js ∧ WfTr e.t
  lt : ∀ k ∈ S, k < w.heap.size
def TabM (w : World) (S : List Nat) (tp : Nat) (L : List Tr) : Prop := ∃ mb nv E F, E.map NE.t = L ∧ TabE w S tp mb nv E F
theorem TabE.keep {w w' : World} {S : List Nat} {tp mb : Nat} {nv : Value} {E : List NE} {F : Value → Option Value} (h : TabE w S tp mb nv E F) (hs : w.heap.size ≤ w'.heap.size) (hk : ∀ k ∈ S, w'.heap[k]? = w.heap[k]?) : TabE w' S tp mb nv E F := by
  refine ⟨(hk _ h.hin).trans h.head, h.hin, h.min, h.mp.keep (hk _ h.min), h.tf, ?_, h.rin, fun e he => ⟨(h.kids e he).1, (h.kids e he).2.1.keep hs (fun _ hk => hk) (fun b hb _ => hk b hb), (h.kids e he).2.2⟩, fun k hk' => Nat.lt_of_lt_of_le (h.lt k hk') hs⟩
  refine ⟨h.row.1, ?_⟩
  rcases h.row.2 with h0 | ⟨g, cap, cur, hv, hg, hh, hr⟩
  · exact .inl h0
  · exact .inr ⟨g, cap, cur, hv, hg, (hk g (h.rin g (by rw [hv]; rfl))).trans hh, hr⟩
theorem TabM.keep {w w' : World} {S : List Nat} {tp : Nat} {L : List Tr} (h : TabM w S tp L) (hs : w.heap.size ≤ w'.heap.size) (hk : ∀ k ∈ S, w'.heap[k]? = w.heap[k]?) : TabM w' S tp L := by
  obtain ⟨mb, nv, E, F, e, h⟩ := h
  exact ⟨mb, nv, E, F, e, h.keep hs hk⟩
theorem TabM.lt {w : World} {S : List Nat} {tp : Nat} {L : List Tr} (h : TabM w S tp L) : ∀ k ∈ S, k < w.heap.size := by
  obtain ⟨mb, nv, E, F, e, h⟩ := h
  exact h.lt
theorem TabM.hin {w : World} {S : List Nat} {tp : Nat} {L : List Tr} (h : TabM w S tp L) : tp ∈ S := by
  obtain ⟨mb, nv, E, F, e, h⟩ := h
  exact h.hin
/-- a node's cells -/
theorem TabE.at {w : World} {S : List Nat} {tp mb : Nat} {nv : Value} {E : List NE} {F : Value → Option Value} (h : TabE w S tp mb nv E F) (hpos : 0 < E.length) : ∃ g cap, nv = .slice (some ⟨g, 0, none⟩) E.length cap ∧ E.length ≤ cap ∧ g ∈ S ∧ ∀ i (hi : i < E.length) q, q < 4 → w.cell? ⟨g, i * 4 + q, none⟩ = (cellNE E[i])[q]? := by
  rcases h.row.2 with ⟨_, h0⟩ | ⟨g, cap, cur, hv, hg, hh, hn, hm, hs, ht⟩
  · omega
  · refine ⟨g, cap, hv, hn, h.rin g (by rw [hv]; rfl), fun i hi q hq => ?_⟩
    rw [cell_of_block hh, ← flatN_at E i hi q hq, ← ht]
    show cur[i * 4 + q]? = (cur.toList.take (E.length * 4))[i * 4 + q]?
    rw [List.getElem?_take, if_pos (by omega), Array.getElem?_toList]
theorem node_law : KeyLaw Tryd.prog 178 := deep_law_laid (show laidOutB Tryd.prog = true by kernel_rfl) (m := 2) (by omega) (of_decide_eq_true (by kernel_rfl)) (by kernel_rfl) (by kernel_rfl)
theorem node_key (t : Tr) (js : List Nat) (h : WfTr t) (hj : (encK js).length ≤ maxLen) : ∃ l, Go.keyOf Tryd.prog 178 (keyT t js) = some l := by
  obtain ⟨s, r, ks⟩ := t
  have hu := Tryd.underlying178
  have hk : Tryd.prog.keyType 178 = true := by kernel_rfl
  have hc : Tryd.prog.cellsOf 178 = 3 := by kernel_rfl
  have c3 : Tryd.prog.cellsOf 3 = 1 := by kernel_rfl
  have c9 : Tryd.prog.cellsOf 9 = 1 := by kernel_rfl
  have hf : (keyT (.node s r ks) js).formed Tryd.prog 178 = true := by simp [keyT, Value.formed, hu, hc]
  have hpos : 0 < Tryd.prog.types.size := of_decide_eq_true (by kernel_rfl)
  obtain ⟨m, hm⟩ : ∃ m, Tryd.prog.types.size = m + 1 := ⟨_, (Nat.succ_pred_eq_of_pos hpos).symm⟩
  unfold Go.keyOf
  rw [hu, hk, hf, hm]
  have h1 := h.1
  have h2 := h.2.1
  have h3 : ByteArray.size ⟨(encK js).toArray⟩ ≤ maxLen := hj
  simp [keyT, Value.cells, Program.keyLits, hu, hc, c3, c9, Tryd.underlying3, Tryd.underlying9, h1, h2, h3]
theorem keyT_inj {a b : Tr} {js ks : List Nat} {L : List Tr} (h : keyT a js = keyT b ks) (ha : IxAt L js a.ks) (hb : IxAt L ks b.ks) : a = b := by
  obtain ⟨s, r, us⟩ := a; obtain ⟨s', r', vs⟩ := b
  simp [keyT] at h
  obtain ⟨rfl, rfl, h⟩ := h
  obtain rfl := encK_inj h
  rw [show us = vs from IxAt.det ha hb]
theorem keyT_same {t : Tr} {js ks : List Nat} {L : List Tr} (hn : L.Nodup) (ha : IxAt L js t.ks) (hb : IxAt L ks t.ks) : keyT t js = keyT t ks := by rw [IxAt.inj hn ha hb]
theorem encN_len (n : Nat) : (encN n).length ≤ n + 2 := by
  unfold encN
  have : ∀ u : Nat, (Go.Lib.decDigits u).length ≤ u + 1 := by
    intro u
    induction u using Nat.strongRecOn with
    | _ u ih =>
      by_cases h : u < 10
      · rw [Go.Lib.decDigits_one h]; simp
      · rw [Go.Lib.decDigits, dif_neg h, List.length_append]
        have := ih (u / 10) (by omega)
        simp
        omega
  rw [List.length_append]
  have := this n
  simp
  omega
end Go.Proofs.YtpkejcjjbkgomaaDoor
namespace Go.Proofs.YtpkejcjjbkgomaaDoor
open Go.ChangeShapes Go.WideShapes Go.ChangeAt Go.RowKit Go.Deep
set_option maxRecDepth 100000
def szTo (ks : List Tr) (i : Nat) : Nat := ((ks.take i).map Tr.sz).sum
theorem szTo_succ {ks : List Tr} {i : Nat} (h : i < ks.length) : szTo ks (i + 1) = szTo ks i + ks[i].sz := by
  unfold szTo
  rw [List.take_succ_eq_append_getElem h, List.map_append, List.sum_append]
  simp
theorem sum_take_le (l : List Nat) : ∀ i, (l.take i).sum ≤ l.sum := fun i => by
  have : l.sum = (l.take i).sum + (l.drop i).sum := by rw [← List.sum_append, List.take_append_drop]
  omega
theorem szTo_le {ks : List Tr} (i : Nat) : szTo ks i ≤ (ks.map Tr.sz).sum := by
  unfold szTo
  rw [List.map_take]
  exact sum_take_le _ i
end Go.Proofs.YtpkejcjjbkgomaaDoor
namespace Go.Proofs.YtpkejcjjbkgomaaDoor
open Go.ChangeShapes Go.WideShapes Go.ChangeAt Go.RowKit Go.Deep
set_option maxRecDepth 100000
theorem ylen_le (t : Tr) : ylen t ≤ t.sz := yield_len _ t (Nat.le_refl _)
def yTo (ks : List Tr) (i : Nat) : Nat := ((ks.take i).map ylen).sum
theorem yTo_succ {ks : List Tr} {i : Nat} (h : i < ks.length) : yTo ks (i + 1) = yTo ks i + ylen ks[i] := by
  unfold yTo
  rw [List.take_succ_eq_append_getElem h, List.map_append, List.sum_append]
  simp
theorem yTo_le {ks : List Tr} (i : Nat) : yTo ks i ≤ (ks.map Tr.sz).sum := by
  have h1 : yTo ks i ≤ (ks.map ylen).sum := by
    unfold yTo
    rw [List.map_take]
    exact sum_take_le _ i
  have h2 : ∀ l : List Tr, (l.map ylen).sum ≤ (l.map Tr.sz).sum := by
    intro l
    induction l with
    | nil => simp
    | cons x xs ih =>
      have := ylen_le x
      simp only [List.map_cons, List.sum_cons]
      omega
  have := h2 ks
  omega
theorem len_le_sum : ∀ ks : List Tr, ks.length ≤ (ks.map Tr.sz).sum
  | [] => by simp
  | x :: xs => by
    have h1 : 1 ≤ x.sz := by cases x; rw [Tr.sz]; omega
    have h2 := len_le_sum xs
    simp only [List.map_cons, List.sum_cons, List.length_cons]
    omega
theorem ylen_small {s : ByteArray} {r : Int} {ks : List Tr} (h : isSmallS s = true) : ylen (.node s r ks) = s.size := by
  unfold ylen
  rw [yieldL, if_pos h]
  exact Array.length_toList
theorem ylen_else {s : ByteArray} {r : Int} {ks : List Tr} (h : isSmallS s = false) : ylen (.node s r ks) = yTo ks ks.length := by
  unfold ylen yTo
  rw [yieldL, if_neg (by rw [h]; simp), List.take_length, List.length_flatMap]
  rfl
theorem IxAt.entry {E : List NE} {js : List Nat} {ks : List Tr} (h : IxAt (E.map NE.t) js ks) (i : Nat) (hi : i < ks.length) : ∃ h2 : js.getD i 0 < E.length, (E[js.getD i 0]).t = ks[i] := by
  have hl := h.len
  have h1 := h.at i (by omega) hi
  have e : js.getD i 0 = js[i]'(by omega) := by rw [List.getD_eq_getElem?_getD, List.getElem?_eq_getElem (by omega)]; rfl
  rw [e]
  rw [List.getElem?_map] at h1
  cases hx : E[js[i]'(by omega)]? with
  | none => rw [hx] at h1; simp at h1
  | some x =>
    rw [hx] at h1
    obtain ⟨h2, h3⟩ := List.getElem?_eq_some_iff.1 hx
    refine ⟨h2, ?_⟩
    rw [h3]
    simpa using h1
theorem cellNE_long {e : NE} : (cellNE e)[3]? = some (.int .i64 (ylen e.t : Int)) := by
  obtain ⟨⟨s, r, ks⟩, v, js⟩ := e
  rfl
/-- what longOf reads of the table -/
def LongR (w : World) (tp : Nat) (E : List NE) : Prop := 0 < E.length → ∃ g cp, w.cell? ⟨tp, 0, none⟩ = some (.slice (some ⟨g, 0, none⟩) E.length cp) ∧ ∀ i (hi : i < E.length), w.cell? ⟨g, i * 4 + 3, none⟩ = some (.int .i64 (ylen E[i].t : Int))
theorem TabE.long {w w' : World} {S : List Nat} {tp mb : Nat} {nv : Value} {E : List NE} {F : Value → Option Value} (h : TabE w S tp mb nv E F) (hk : ∀ k ∈ S, k ≠ mb → w'.heap[k]? = w.heap[k]?) : LongR w' tp E := fun hpos => by
  have hm : ∀ {k c t z}, w.heap[k]? = some (.cells c t z) → k ≠ mb := fun {k c t z} hc e => by
    obtain ⟨es, ck, hb, _⟩ := h.mp
    rw [e, hb] at hc
    cases hc
  have htp := h.head
  rcases h.row.2 with ⟨_, h0⟩ | ⟨g, cap, cur, rfl, hg, hh, hr⟩
  · omega
  · obtain ⟨g', cap', e, _, hgS, hc⟩ := h.at hpos
    simp only [Value.slice.injEq, Option.some.injEq, Addr.mk.injEq, true_and, and_true] at e
    obtain ⟨rfl, rfl⟩ := e
    refine ⟨g, cap, ?_, fun i hi => ?_⟩
    · rw [World.cell?_of_block (w := w) (a := ⟨tp, 0, none⟩) (hk tp h.hin (hm htp)), cell_of_block htp]; rfl
    · rw [World.cell?_of_block (w := w) (a := ⟨g, i * 4 + 3, none⟩) (hk g hgS (hm hh)), hc i hi 3 (by omega), cellNE_long]
theorem LongR.below {w w' : World} {tp : Nat} {E : List NE} (h : LongR w tp E) (hb : Below w.heap.size w w') : LongR w' tp E := fun hpos => by
  obtain ⟨g, cp, h1, h2⟩ := h hpos
  exact ⟨g, cp, by rw [hb.cell (p := ⟨tp, 0, none⟩) (World.block_lt_of_cell? _ _ h1)]; exact h1, fun i hi => by rw [hb.cell (p := ⟨g, i * 4 + 3, none⟩) (World.block_lt_of_cell? _ _ (h2 i hi))]; exact h2 i hi⟩
set_option maxHeartbeats 2000000 in
theorem longOf_any (s : ByteArray) (r : Int) (ks : List Tr) (w : World) (tp : Nat) (E : List NE) (H : LongR w tp E) (a : Option Addr) (cap : Nat) (js : List Nat) (HK : KidR w a js)
    (hix : IxAt (E.map NE.t) js ks) (hz : (Tr.node s r ks).sz ≤ 5000000) :
    Calls Tryd.prog 113 #[.pointer (some ⟨tp, 0, none⟩), .string s, .slice a js.length cap] w fun e w' => e = .returned (.int .i64 (ylen (.node s r ks) : Int)) ∧ w' = w := by
  have hlen := hix.len
  rw [Tr.sz] at hz
  cases hsm : isSmallS s with
  | true =>
    have HY := Lib.hid (ylen_small (r := r) (ks := ks) hsm)
    go_enter Tryd.func113, Tryd.ntmps113
    go_wp2_with (go_at_call 71; refine (signSmall_any _ _).mono ?_; rintro e w' ⟨rfl, rfl⟩; rw [hsm])
    go_ret
    exact ⟨by rw [HY.out]; rfl, rfl⟩
  | false =>
    have HY := Lib.hid (ylen_else (r := r) (ks := ks) hsm)
    have hkl : ks.length ≤ 5000000 := by have := len_le_sum ks; omega
    have HIX := Lib.hid hix
    have HH := Lib.hid H
    have HL := Lib.hid hlen
    have hjl : js.length ≤ 5000000 := by omega
    clear hix H hlen
    go_enter Tryd.func113, Tryd.ntmps113
    go_wp2_with (go_at_call 71; refine (signSmall_any _ _).mono ?_; rintro e w' ⟨rfl, rfl⟩; rw [hsm])
    go_loopg [7, 16] (js.length + 1) (fun gk nv iv wr => ∃ i : Nat, gk = js.length + 1 - i ∧ i ≤ js.length ∧ iv = .int .i64 (i : Int) ∧ nv = .int .i64 ((yTo ks i : Nat) : Int) ∧ w = wr)
    case atStart => exact ⟨0, rfl, Nat.zero_le _, rfl, by simp [yTo], rfl⟩
    case round =>
      obtain ⟨i, hgk, hi, rfl, rfl, rfl⟩ := hrel
      have HG := Lib.hid hgk
      clear hgk
      by_cases hlt : i < js.length
      · have hil : (i : Int) < (js.length : Int) := by omega
        have hik : i < ks.length := by have := HL.out; omega
        obtain ⟨b, off, rfl, _, hc⟩ := HK.1 i hlt
        obtain ⟨h2, h3⟩ := HIX.out.entry i hik
        obtain ⟨g, cp, k0, hcell⟩ := HH.out (by omega)
        have k3 := hcell (js.getD i 0) h2
        rw [h3] at k3
        have hms := yTo_succ hik
        have hm2 := yTo_le (ks := ks) (i + 1)
        have hkm : yTo ks i + ylen ks[i] ≤ 5000000 := by omega
        have HMS := Lib.hid hms
        have hjE : ((js.getD i 0 : Nat) : Int) < (E.length : Int) := by omega
        have hj0 : (0 : Int) ≤ ((js.getD i 0 : Nat) : Int) := by omega
        clear hms hm2 hcell h3 hz
        have ej : js.getD i 0 = js[i] := by rw [List.getD_eq_getElem?_getD, List.getElem?_eq_getElem hlt]; rfl
        have hc' : w.cell? ⟨b, off + i, none⟩ = some (.int .i64 ((js[i] : Nat) : Int)) := by rw [← ej]; exact hc
        rw [ej] at k3 hjE hj0 h2
        clear hc ej
        generalize js[i] = j at *
        go_wp2_with fail
        go_roundg (js.length + 1 - (i + 1))
        case measure => have := HG.out; omega
        case rel => exact ⟨i + 1, rfl, by omega, by go_num, by rw [HMS.out]; go_num, rfl⟩
      · have hil : ¬ (i : Int) < (js.length : Int) := by omega
        have HI : Hid (i = ks.length) := by show _ = _; have := HL.out; omega
        go_wp2_with fail
        go_ret
        exact ⟨by rw [HY.out, ← HI.out]; rfl, rfl⟩
theorem makeN (W : World) : (Instr.makeMap 133 none).run Tryd.prog W = .ok (.map (some W.heap.size)) (W.alloc (.map #[] 0)) := by simp [Instr.makeMap]
theorem newNodeTable_any (w : World) :
    Calls Tryd.prog 47 #[] w fun e w' => e = .returned (.pointer (some ⟨w.heap.size + 1, 0, none⟩)) ∧ TabM w' [w.heap.size, w.heap.size + 1] (w.heap.size + 1) [] ∧ Below w.heap.size w w' := by
  have hmk := makeN
  have hb2 := ((Below.refl w.heap.size w).alloc (Nat.le_refl _) (.map #[] 0)).alloc (by simp) (.cells #[.slice none 0 0, .map (some w.heap.size)] 136)
  have h1 : ((w.alloc (.map #[] 0)).alloc (.cells #[.slice none 0 0, .map (some w.heap.size)] 136)).heap[w.heap.size + 1]? = some (.cells #[.slice none 0 0, .map (some w.heap.size)] 136) := blk_new _ _ (by simp)
  have h2 : MapF Tryd.prog 178 ((w.alloc (.map #[] 0)).alloc (.cells #[.slice none 0 0, .map (some w.heap.size)] 136)) w.heap.size (fun _ => none) := (MapF.made w).keep (blk_old _ _ (by simp))
  have HT : Hid (TabM ((w.alloc (.map #[] 0)).alloc (.cells #[.slice none 0 0, .map (some w.heap.size)] 136)) [w.heap.size, w.heap.size + 1] (w.heap.size + 1) []) :=
    ⟨w.heap.size, .slice none 0 0, [], fun _ => none, rfl, h1, by simp, by simp, h2, (by
      intro x v
      constructor
      · intro h; cases h
      · rintro ⟨i, h, _⟩
        exact absurd h (by simp)), ⟨rfl, .inl ⟨rfl, rfl⟩⟩, by simp [Value.ownBlock], by simp, fun k hk => by simp at hk; simp; omega⟩
  clear h1 h2
  go_enter Tryd.func47, Tryd.ntmps47
  go_wp2_with fail
  go_ret
  exact ⟨by simp, HT.out, hb2⟩
end Go.Proofs.YtpkejcjjbkgomaaDoor
