/- The program's table of nodes in memory. -/
import Derived.Test.YtpkejcjjbkgomaaDoorNuM
import Derived.Test.YtpkejcjjbkgomaaDoorMapF
import Derived.Test.YtpkejcjjbkgomaaDoorWalkA
namespace Go.Proofs.YtpkejcjjbkgomaaDoor
open Go.ChangeShapes Go.WideShapes Go.ChangeAt Go.RowKit Go.Deep
open Go.WideMaps (KeyLaw)
set_option maxRecDepth 100000
/-- a node of the table: the tree, where its kids' numbers lie, and these -/
structure NE where
  t : Tr
  v : Value
  js : List Nat
def ylen (t : Tr) : Nat := (yieldL t).length
def Tr.ks : Tr → List Tr | .node _ _ ks => ks
def cellNE : NE → List Value | ⟨.node s r ks, v, _⟩ => [.string s, .int .i64 r, v, .int .i64 (ylen (.node s r ks) : Int)]
def keyT : Tr → List Nat → Value | .node s r _, js => .agg #[.string s, .int .i64 r, .string ⟨(encK js).toArray⟩]
def WfTr : Tr → Prop | .node s r ks => s.size ≤ maxLen ∧ (Lit.int .i64 r).wf = true ∧ ks.length ≤ 2000000
theorem cellNE_len (e : NE) : (cellNE e).length = 4 := by
  obtain ⟨t, v, js⟩ := e
  cases t; rfl
def flatN (E : List NE) : List Value := E.flatMap cellNE
theorem flatN_len (E : List NE) : (flatN E).length = E.length * 4 := by
  unfold flatN
  induction E with
  | nil => rfl
  | cons e E ih => rw [List.flatMap_cons, List.length_append, ih, cellNE_len, List.length_cons]; omega
theorem flatN_at : ∀ (E : List NE) (i : Nat) (h : i < E.length) (q : Nat), q < 4 → (flatN E)[i * 4 + q]? = (cellNE E[i])[q]?
  | e :: E, 0, _, q, hq => by
    show (cellNE e ++ flatN E)[0 * 4 + q]? = _
    rw [List.getElem?_append_left (by rw [cellNE_len]; omega)]
    simp
  | e :: E, i + 1, h, q, hq => by
    show (cellNE e ++ flatN E)[(i + 1) * 4 + q]? = _
    rw [List.getElem?_append_right (by rw [cellNE_len]; omega), cellNE_len, show (i + 1) * 4 + q - 4 = i * 4 + q from by omega]
    exact flatN_at E i (by simpa using h) q hq
/-- numbers that can be read, in a block of numbers -/
def KidR (w : World) (a : Option Addr) (js : List Nat) : Prop := RowV w a js.length (fun j => .int .i64 ((js.getD j 0 : Nat) : Int)) ∧ ∀ b off fr, a = some ⟨b, off, fr⟩ → ∃ c z, w.heap[b]? = some (.cells c 3 z)
def KidV (w : World) (S : List Nat) (v : Value) (js : List Nat) : Prop := ∃ a cap, v = .slice a js.length cap ∧ js.length ≤ cap ∧ KidR w a js ∧ ∀ b off fr, a = some ⟨b, off, fr⟩ → b ∈ S
theorem KidR.keep {w w' : World} {a : Option Addr} {js : List Nat} (h : KidR w a js) (hs : w.heap.size ≤ w'.heap.size) (hk : ∀ b off fr, a = some ⟨b, off, fr⟩ → b < w.heap.size → w'.heap[b]? = w.heap[b]?) : KidR w' a js := by
  refine ⟨h.1.keep hs (fun b off e hl => hk b off none e hl), fun b off fr e => ?_⟩
  obtain ⟨c, z, hc⟩ := h.2 b off fr e
  exact ⟨c, z, (hk b off fr e (Array.getElem?_eq_some_iff.1 hc).1).trans hc⟩
theorem KidR.lt {w : World} {a : Option Addr} {js : List Nat} (h : KidR w a js) {b off : Nat} {fr : Option Nat} (e : a = some ⟨b, off, fr⟩) : b < w.heap.size := by
  obtain ⟨c, z, hc⟩ := h.2 b off fr e
  exact (Array.getElem?_eq_some_iff.1 hc).1
theorem KidV.keep {w w' : World} {S S' : List Nat} {v : Value} {js : List Nat} (h : KidV w S v js) (hs : w.heap.size ≤ w'.heap.size) (hS : ∀ k, k ∈ S → k ∈ S') (hk : ∀ b, b ∈ S → (∃ c z, w.heap[b]? = some (.cells c 3 z)) → w'.heap[b]? = w.heap[b]?) : KidV w' S' v js := by
  obtain ⟨a, cap, e, hc, hr, hm⟩ := h
  exact ⟨a, cap, e, hc, hr.keep hs (fun b off fr ea _ => hk b (hm b off fr ea) (hr.2 b off fr ea)), fun b off fr ea => hS b (hm b off fr ea)⟩
/-- what the map says of the nodes -/
def tabF (E : List NE) (F : Value → Option Value) : Prop := ∀ x v, F x = some v ↔ ∃ i, ∃ h : i < E.length, x = keyT E[i].t E[i].js ∧ v = .int .i64 ((i : Nat) : Int)
/-- the table at tp, in blocks of S, holds the trees L -/
structure TabE (w : World) (S : List Nat) (tp mb : Nat) (nv : Value) (E : List NE) (F : Value → Option Value) : Prop where
  head : w.heap[tp]? = some (.cells #[nv, .map (some mb)] 136)
  hin : tp ∈ S
  min : mb ∈ S
  mp : MapF Tryd.prog 178 w mb F
  tf : tabF E F
  row : w.ownsRow 0 141 4 nv E.length (flatN E)
  rin : ∀ g, nv.ownBlock = some g → g ∈ S
  kids : ∀ e ∈ E, IxAt (E.map NE.t) e.js e.t.ks ∧ KidV w S e.v e.js ∧ WfTr e.t
  lt : ∀ k ∈ S, k < w.heap.size
def TabM (w : World) (S : List Nat) (tp : Nat) (L : List Tr) : Prop := ∃ mb nv E F, E.map NE.t = L ∧ TabE w S tp mb nv E F
theorem TabE.keep {w w' : World} {S : List Nat} {tp mb : Nat} {nv : Value} {E : List NE} {F : Value → Option Value} (h : TabE w S tp mb nv E F) (hs : w.heap.size ≤ w'.heap.size) (hk : ∀ k ∈ S, w'.heap[k]? = w.heap[k]?) : TabE w' S tp mb nv E F := by
  refine ⟨(hk _ h.hin).trans h.head, h.hin, h.min, h.mp.keep (hk _ h.min), h.tf, ?_, h.rin, fun e he => ⟨(h.kids e he).1, (h.kids e he).2.1.keep hs (fun _ hk => hk) (fun b hb _ => hk b hb), (h.kids e he).2.2⟩, fun k hk' => Nat.lt_of_lt_of_le (h.lt k hk') hs⟩
  refine ⟨h.row.1, ?_⟩
  rcases h.row.2 with h0 | ⟨g, cap, cur, hv, hg, hh, hr⟩
  · exact .inl h0
  · exact .inr ⟨g, cap, cur, hv, hg, (hk g (h.rin g (by rw [hv]; rfl))).trans hh, hr⟩
theorem TabM.keep {w w' : World} {S : List Nat} {tp : Nat} {L : List Tr} (h : TabM w S tp L) (hs : w.heap.size ≤ w'.heap.size) (hk : ∀ k ∈ S, w'.heap[k]? = w.heap[k]?) : TabM w' S tp L := by
  obtain ⟨mb, nv, E, F, e, h⟩ := h
  exact ⟨mb, nv, E, F, e, h.keep hs hk⟩
theorem TabM.lt {w : World} {S : List Nat} {tp : Nat} {L : List Tr} (h : TabM w S tp L) : ∀ k ∈ S, k < w.heap.size := by
  obtain ⟨mb, nv, E, F, e, h⟩ := h
  exact h.lt
theorem TabM.hin {w : World} {S : List Nat} {tp : Nat} {L : List Tr} (h : TabM w S tp L) : tp ∈ S := by
  obtain ⟨mb, nv, E, F, e, h⟩ := h
  exact h.hin
/-- a node's cells -/
theorem TabE.at {w : World} {S : List Nat} {tp mb : Nat} {nv : Value} {E : List NE} {F : Value → Option Value} (h : TabE w S tp mb nv E F) (hpos : 0 < E.length) : ∃ g cap, nv = .slice (some ⟨g, 0, none⟩) E.length cap ∧ E.length ≤ cap ∧ g ∈ S ∧ ∀ i (hi : i < E.length) q, q < 4 → w.cell? ⟨g, i * 4 + q, none⟩ = (cellNE E[i])[q]? := by
  rcases h.row.2 with ⟨_, h0⟩ | ⟨g, cap, cur, hv, hg, hh, hn, hm, hs, ht⟩
  · omega
  · refine ⟨g, cap, hv, hn, h.rin g (by rw [hv]; rfl), fun i hi q hq => ?_⟩
    rw [cell_of_block hh, ← flatN_at E i hi q hq, ← ht]
    show cur[i * 4 + q]? = (cur.toList.take (E.length * 4))[i * 4 + q]?
    rw [List.getElem?_take, if_pos (by omega), Array.getElem?_toList]
theorem node_law : KeyLaw Tryd.prog 178 := deep_law_laid (show laidOutB Tryd.prog = true by kernel_rfl) (m := 2) (by omega) (of_decide_eq_true (by kernel_rfl)) (by kernel_rfl) (by kernel_rfl)
theorem node_key (t : Tr) (js : List Nat) (h : WfTr t) (hj : (encK js).length ≤ maxLen) : ∃ l, Go.keyOf Tryd.prog 178 (keyT t js) = some l := by
  obtain ⟨s, r, ks⟩ := t
  have hu := Tryd.underlying178
  have hk : Tryd.prog.keyType 178 = true := by kernel_rfl
  have hc : Tryd.prog.cellsOf 178 = 3 := by kernel_rfl
  have c3 : Tryd.prog.cellsOf 3 = 1 := by kernel_rfl
  have c9 : Tryd.prog.cellsOf 9 = 1 := by kernel_rfl
  have hf : (keyT (.node s r ks) js).formed Tryd.prog 178 = true := by simp [keyT, Value.formed, hu, hc]
  have hpos : 0 < Tryd.prog.types.size := of_decide_eq_true (by kernel_rfl)
  obtain ⟨m, hm⟩ : ∃ m, Tryd.prog.types.size = m + 1 := ⟨_, (Nat.succ_pred_eq_of_pos hpos).symm⟩
  unfold Go.keyOf
  rw [hu, hk, hf, hm]
  have h1 := h.1
  have h2 := h.2.1
  have h3 : ByteArray.size ⟨(encK js).toArray⟩ ≤ maxLen := hj
  simp [keyT, Value.cells, Program.keyLits, hu, hc, c3, c9, Tryd.underlying3, Tryd.underlying9, h1, h2, h3]
theorem keyT_inj {a b : Tr} {js ks : List Nat} {L : List Tr} (h : keyT a js = keyT b ks) (ha : IxAt L js a.ks) (hb : IxAt L ks b.ks) : a = b := by
  obtain ⟨s, r, us⟩ := a; obtain ⟨s', r', vs⟩ := b
  simp [keyT] at h
  obtain ⟨rfl, rfl, h⟩ := h
  obtain rfl := encK_inj h
  rw [show us = vs from IxAt.det ha hb]
theorem keyT_same {t : Tr} {js ks : List Nat} {L : List Tr} (hn : L.Nodup) (ha : IxAt L js t.ks) (hb : IxAt L ks t.ks) : keyT t js = keyT t ks := by rw [IxAt.inj hn ha hb]
theorem encN_len (n : Nat) : (encN n).length ≤ n + 2 := by
  unfold encN
  have : ∀ u : Nat, (Go.Lib.decDigits u).length ≤ u + 1 := by
    intro u
    induction u using Nat.strongRecOn with
    | _ u ih =>
      by_cases h : u < 10
      · rw [Go.Lib.decDigits_one h]; simp
      · rw [Go.Lib.decDigits, dif_neg h, List.length_append]
        have := ih (u / 10) (by omega)
        simp
        omega
  rw [List.length_append]
  have := this n
  simp
  omega
end Go.Proofs.YtpkejcjjbkgomaaDoor
