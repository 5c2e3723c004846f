/- Rows of trees of the call's own: a tree more, the last ones made one. -/
import Derived.Test.YtcningdeocmbgaaOwA
import Derived.Maps.AppendAt
namespace Go.Proofs.Ytcningdeocmbgaa
open Go.ChangeShapes Go.WideShapes Go.ChangeAt Go.RowKit Go.Deep
set_option maxRecDepth 100000
/-- a tree as it lies in three cells -/
abbrev KidO := ByteArray × Int × Value
def kidO (u : KidO) : Value := .agg #[.string u.1, .int .i64 u.2.1, u.2.2]
def flatO (us : List KidO) : List Value := us.flatMap fun u => [.string u.1, .int .i64 u.2.1, u.2.2]
theorem flatO_len (us : List KidO) : (flatO us).length = us.length * 3 := by
  unfold flatO
  induction us with
  | nil => rfl
  | cons x l ih => rw [List.flatMap_cons, List.length_append, ih, List.length_cons]; simp; omega
theorem flatO_at : ∀ (us : List KidO) (j : Nat) (h : j < us.length), (flatO us)[j * 3]? = some (.string us[j].1) ∧ (flatO us)[j * 3 + 1]? = some (.int .i64 us[j].2.1) ∧ (flatO us)[j * 3 + 2]? = some us[j].2.2
  | [], j, h => absurd h (Nat.not_lt_zero _)
  | x :: us, 0, h => ⟨rfl, rfl, rfl⟩
  | x :: us, j + 1, h => by
    have h' : j < us.length := by simpa using h
    have := flatO_at us j h'
    have e : flatO (x :: us) = [.string x.1, .int .i64 x.2.1, x.2.2] ++ flatO us := rfl
    rw [e, List.getElem?_append_right (by simp; omega), List.getElem?_append_right (by simp; omega), List.getElem?_append_right (by simp; omega)]
    simp only [List.length_cons, List.length_nil, Nat.reduceAdd, List.getElem_cons_succ]
    rw [show (j + 1) * 3 - 3 = j * 3 from by omega, show (j + 1) * 3 + 1 - 3 = j * 3 + 1 from by omega, show (j + 1) * 3 + 2 - 3 = j * 3 + 2 from by omega]
    exact this
theorem flatO_append (us vs : List KidO) : flatO (us ++ vs) = flatO us ++ flatO vs := by simp [flatO]
theorem flatO_snoc (us : List KidO) (u : KidO) : flatO (us ++ [u]) = flatO us ++ [.string u.1, .int .i64 u.2.1, u.2.2] := by simp [flatO]
theorem flatO_take (us : List KidO) : ∀ k, k ≤ us.length → (flatO us).take (k * 3) = flatO (us.take k) := fun k hk => by
  have h : flatO us = flatO (us.take k) ++ flatO (us.drop k) := by rw [← flatO_append, List.take_append_drop]
  rw [h, List.take_append_of_le_length (by rw [flatO_len, List.length_take]; omega)]
  exact List.take_of_length_le (by rw [flatO_len, List.length_take]; omega)
theorem flatO_drop (us : List KidO) : ∀ k, k ≤ us.length → (flatO us).drop (k * 3) = flatO (us.drop k) := fun k hk => by
  have h : flatO us = flatO (us.take k) ++ flatO (us.drop k) := by rw [← flatO_append, List.take_append_drop]
  have hl : (flatO (us.take k)).length = k * 3 := by rw [flatO_len, List.length_take]; omega
  rw [h, ← hl, List.drop_left]
/-- the three cells of one tree -/
def KidOk (w : World) (u : KidO) (t : OT) : Prop := ∃ a cap, u = (t.s, t.r, .slice a t.ks.length cap) ∧ t.ks.length ≤ cap ∧ t.s.size ≤ maxLen ∧ (Lit.int .i64 t.r).wf = true ∧ t.ks.length ≤ maxLen ∧ OwnK w t.g a t.ks
theorem KidOk.keep {w w' : World} {u : KidO} {t : OT} (h : KidOk w u t) (hk : ∀ b ∈ t.bs, w'.heap[b]? = w.heap[b]?) : KidOk w' u t := by
  obtain ⟨a, cap, h1, h2, h3, h4, h5, h6⟩ := h
  exact ⟨a, cap, h1, h2, h3, h4, h5, h6.keep (fun b hb => hk b (by rw [OT.bs_eq]; exact hb))⟩
theorem KidOk.lt {w : World} {u : KidO} {t : OT} (h : KidOk w u t) : ∀ b ∈ t.bs, b < w.heap.size := by
  obtain ⟨a, cap, h1, h2, h3, h4, h5, h6⟩ := h
  intro b hb
  rw [OT.bs_eq] at hb
  exact h6.lt b hb
theorem KidOk.one {w : World} {u : KidO} {t : OT} (h : KidOk w u t) : u.2.2.oneCell' = true := by
  obtain ⟨a, cap, rfl, _⟩ := h
  rfl
/-- the value is that tree, as TrIn says -/
theorem KidOk.tree {w : World} {u : KidO} {t : OT} (h : KidOk w u t) : TrIn w 0 (kidO u) t.tr := by
  obtain ⟨a, cap, rfl, h2, h3, h4, h5, h6⟩ := h
  have := TrIn.close (w := w) (B := 0) (s := t.s) (r := t.r) (ks := t.ks.map OT.tr) (a := a) (cap := cap) h3 h4 (by simpa using h5) (by simpa using h2) h6.kids
  rw [OT.tr_eq]
  simpa [kidO] using this
/-- trees of the call's own in a row of the call's own -/
structure TreesW (w : World) (B : Nat) (v : Value) (us : List KidO) (ts : List OT) : Prop where
  row : w.ownsRow B 30 3 v us.length (flatO us)
  len : us.length = ts.length
  kid : ∀ j (h : j < us.length), KidOk w us[j] (ts[j]'(by rw [← len]; exact h))
  nd : (ts.flatMap OT.bs).Nodup
  low : ∀ b ∈ ts.flatMap OT.bs, B ≤ b ∧ b < w.heap.size ∧ v.ownBlock ≠ some b
theorem TreesW.nil (w : World) (B : Nat) : TreesW w B (.slice none 0 0) [] [] := ⟨⟨rfl, .inl ⟨rfl, rfl⟩⟩, rfl, fun j h => absurd h (Nat.not_lt_zero _), List.nodup_nil, fun b h => by cases h⟩
theorem mem_bs {ts : List OT} {j : Nat} (h : j < ts.length) {b : Nat} (hb : b ∈ ts[j].bs) : b ∈ ts.flatMap OT.bs := List.mem_flatMap.2 ⟨_, List.getElem_mem h, hb⟩
theorem TreesW.keep {w w' : World} {B : Nat} {v : Value} {us : List KidO} {ts : List OT} (h : TreesW w B v us ts) (hk : ∀ b, B ≤ b → b < w.heap.size → w'.heap[b]? = w.heap[b]?) (hs : w.heap.size ≤ w'.heap.size) : TreesW w' B v us ts := by
  refine ⟨⟨h.row.1, ?_⟩, h.len, fun j hj => (h.kid j hj).keep fun b hb => ?_, h.nd, fun b hb => ?_⟩
  · rcases h.row.2 with h0 | ⟨g, cap, cur, hv, hg, hh, hl, hm, hz, ht⟩
    · exact .inl h0
    · exact .inr ⟨g, cap, cur, hv, hg, (hk g hg (Array.getElem?_eq_some_iff.1 hh).1).trans hh, hl, hm, hz, ht⟩
  · have := h.low b (mem_bs (by rw [← h.len]; exact hj) hb)
    exact hk b this.1 this.2.1
  · have := h.low b hb
    exact ⟨this.1, Nat.lt_of_lt_of_le this.2.1 hs, this.2.2⟩
theorem TreesW.below {w w' : World} {B : Nat} {v : Value} {us : List KidO} {ts : List OT} (h : TreesW w B v us ts) (hb : Below w.heap.size w w') : TreesW w' B v us ts := h.keep (fun b _ hl => hb.block b hl) hb.size
theorem TreesW.mono {w : World} {B B' : Nat} {v : Value} {us : List KidO} {ts : List OT} (h : TreesW w B v us ts) (hB : B' ≤ B) : TreesW w B' v us ts := by
  refine ⟨⟨h.row.1, ?_⟩, h.len, h.kid, h.nd, fun b hb => ⟨Nat.le_trans hB (h.low b hb).1, (h.low b hb).2⟩⟩
  rcases h.row.2 with h0 | ⟨g, cap, cur, hv, hg, hh⟩
  · exact .inl h0
  · exact .inr ⟨g, cap, cur, hv, Nat.le_trans hB hg, hh⟩
theorem TreesW.block {w : World} {B : Nat} {v : Value} {us : List KidO} {ts : List OT} (h : TreesW w B v us ts) : ∀ k, v.ownBlock = some k → B ≤ k ∧ k < w.heap.size := by
  intro k hk
  rcases h.row.2 with ⟨hv, _⟩ | ⟨g, _, _, hv, hg, hh, _⟩
  · rw [hv] at hk; simp [Value.ownBlock] at hk
  · rw [hv] at hk; simp [Value.ownBlock] at hk; subst hk; exact ⟨hg, (Array.getElem?_eq_some_iff.1 hh).1⟩
/-- a tree more -/
theorem TreesW.push {w w' : World} {B : Nat} {v v' : Value} {us : List KidO} {ts : List OT} {u : KidO} {t : OT} {L : Nat} (H : TreesW w B v us ts) (hu : KidOk w u t) (hrow : w'.ownsRow B 30 3 v' (us.length + 1) (flatO (us ++ [u])))
    (hf : ∀ b, b < w.heap.size → v.ownBlock ≠ some b → w'.heap[b]? = w.heap[b]?) (hs : w.heap.size ≤ w'.heap.size) (hat : v'.ownBlock = v.ownBlock ∨ v'.ownBlock = some L) (hL : w.heap.size ≤ L)
    (hnd : ((ts ++ [t]).flatMap OT.bs).Nodup) (hlow : ∀ b ∈ t.bs, B ≤ b ∧ v.ownBlock ≠ some b) : TreesW w' B v' (us ++ [u]) (ts ++ [t]) := by
  have hlow' : ∀ b ∈ (ts ++ [t]).flatMap OT.bs, B ≤ b ∧ b < w.heap.size ∧ v.ownBlock ≠ some b := by
    intro b hb
    rw [List.flatMap_append, List.flatMap_singleton] at hb
    rcases List.mem_append.1 hb with hb | hb
    · exact H.low b hb
    · exact ⟨(hlow b hb).1, hu.lt b hb, (hlow b hb).2⟩
  refine ⟨by rw [List.length_append]; exact hrow, by simp [H.len], fun j hj => ?_, hnd, fun b hb => ?_⟩
  · by_cases h : j < us.length
    · have hk : j < ts.length := by rw [← H.len]; exact h
      rw [List.getElem_append_left h]
      simp only [List.getElem_append_left hk]
      exact (H.kid j h).keep fun b hb => hf b (H.low b (mem_bs hk hb)).2.1 (H.low b (mem_bs hk hb)).2.2
    · have e : j = us.length := by simp at hj; omega
      subst e
      have e2 := H.len
      simp only [List.getElem_concat_length, e2]
      exact hu.keep fun b hb => hf b (hu.lt b hb) (hlow b hb).2
  · have := hlow' b hb
    refine ⟨this.1, Nat.lt_of_lt_of_le this.2.1 hs, ?_⟩
    rcases hat with h | h
    · rw [h]; exact this.2.2
    · rw [h]; intro e; simp at e; omega
/-- the first k of them, as a shorter slice of the same row -/
theorem TreesW.first {w : World} {B g n cap : Nat} {us : List KidO} {ts : List OT} (H : TreesW w B (.slice (some ⟨g, 0, none⟩) n cap) us ts) (k : Nat) (hk : k ≤ us.length) : TreesW w B (.slice (some ⟨g, 0, none⟩) k cap) (us.take k) (ts.take k) := by
  have hsub : ∀ b ∈ (ts.take k).flatMap OT.bs, b ∈ ts.flatMap OT.bs := fun b hb => by
    obtain ⟨t, ht, hb⟩ := List.mem_flatMap.1 hb
    exact List.mem_flatMap.2 ⟨t, List.mem_of_mem_take ht, hb⟩
  have hl := H.len
  refine ⟨⟨by rw [flatO_len], ?_⟩, by simp [hl], fun j hj => ?_, ?_, fun b hb => ?_⟩
  · rcases H.row.2 with ⟨h0, _⟩ | ⟨g', cap', cur, hv, hg, hh, hlc, hm, hz, ht⟩
    · cases h0
    · simp only [Value.slice.injEq, Option.some.injEq, Addr.mk.injEq] at hv
      obtain ⟨⟨rfl, _⟩, rfl, rfl⟩ := hv
      refine .inr ⟨g, cap, cur, by rw [List.length_take, Nat.min_eq_left hk], hg, hh, by rw [List.length_take]; omega, hm, hz, ?_⟩
      rw [List.length_take, Nat.min_eq_left hk, ← flatO_take us k hk, ← ht, List.take_take, Nat.min_eq_left (by omega)]
  · have hj' : j < us.length := by rw [List.length_take] at hj; omega
    simp only [List.getElem_take]
    exact H.kid j hj'
  · have := H.nd
    rw [← List.take_append_drop k ts, List.flatMap_append, List.nodup_append] at this
    exact this.1
  · exact H.low b (hsub b hb)
/-- the blocks of the first k and of a node over the others -/
theorem node_bs {ts : List OT} {k g : Nat} {s : ByteArray} {r : Int} : (ts.take k ++ [OT.node g s r (ts.drop k)]).flatMap OT.bs = (ts.take k).flatMap OT.bs ++ ((if (ts.drop k).length = 0 then [] else [g]) ++ (ts.drop k).flatMap OT.bs) := by
  rw [List.flatMap_append, List.flatMap_singleton, OT.bs]
theorem node_nodup {ts : List OT} {k g : Nat} {s : ByteArray} {r : Int} (h : (ts.flatMap OT.bs).Nodup) (hg : ∀ b ∈ ts.flatMap OT.bs, b ≠ g) : ((ts.take k ++ [OT.node g s r (ts.drop k)]).flatMap OT.bs).Nodup := by
  rw [node_bs]
  have h2 := h
  rw [← List.take_append_drop k ts, List.flatMap_append, List.nodup_append] at h2
  obtain ⟨a1, a2, a3⟩ := h2
  have m1 : ∀ b ∈ (ts.take k).flatMap OT.bs, b ∈ ts.flatMap OT.bs := fun b hb => by
    obtain ⟨t, ht, hb⟩ := List.mem_flatMap.1 hb
    exact List.mem_flatMap.2 ⟨t, List.mem_of_mem_take ht, hb⟩
  have m2 : ∀ b ∈ (ts.drop k).flatMap OT.bs, b ∈ ts.flatMap OT.bs := fun b hb => by
    obtain ⟨t, ht, hb⟩ := List.mem_flatMap.1 hb
    exact List.mem_flatMap.2 ⟨t, List.mem_of_mem_drop ht, hb⟩
  split
  · rw [List.nil_append, List.nodup_append]
    exact ⟨a1, a2, a3⟩
  · rw [List.nodup_append, List.nodup_append]
    refine ⟨a1, ⟨by simp, a2, fun x hx y hy => ?_⟩, fun x hx y hy => ?_⟩
    · rw [List.mem_singleton] at hx
      subst hx
      exact fun e => hg y (m2 y hy) e.symm
    · rcases List.mem_append.1 hy with hy | hy
      · rw [List.mem_singleton] at hy
        subst hy
        exact hg x (m1 x hx)
      · exact a3 x hx y hy
/-- a node over the trees from k on: its kids are a copy in a new row -/
theorem TreesW.node {w w' : World} {B : Nat} {v v2 : Value} {us : List KidO} {ts : List OT} {k : Nat} {s : ByteArray} {r : Int} (H : TreesW w B v us ts) (hk : k ≤ us.length) (hb : ∀ b, b < w.heap.size → w'.heap[b]? = w.heap[b]?)
    (hrow : w'.ownsRow B 30 3 v2 (us.length - k) (flatO (us.drop k))) (hnew : ∀ g, v2.ownBlock = some g → w.heap.size ≤ g) (hs : s.size ≤ maxLen) (hr : (Lit.int .i64 r).wf = true) :
    ∃ g, KidOk w' (s, r, v2) (.node g s r (ts.drop k)) ∧ ((ts.take k ++ [OT.node g s r (ts.drop k)]).flatMap OT.bs).Nodup ∧ ∀ b ∈ (OT.node g s r (ts.drop k)).bs, B ≤ b ∧ v.ownBlock ≠ some b := by
  have hl := H.len
  have hdl : (ts.drop k).length = us.length - k := by rw [List.length_drop, hl]
  have m2 : ∀ b ∈ (ts.drop k).flatMap OT.bs, b ∈ ts.flatMap OT.bs := fun b hb => by
    obtain ⟨t, ht, hb⟩ := List.mem_flatMap.1 hb
    exact List.mem_flatMap.2 ⟨t, List.mem_of_mem_drop ht, hb⟩
  rcases hrow.2 with ⟨hv, h0⟩ | ⟨g, cap, cur, hv, hg, hh, hlc, hcm, hz, ht⟩
  · have hd : ts.drop k = [] := List.eq_nil_of_length_eq_zero (by rw [hdl]; exact h0)
    refine ⟨w.heap.size, ⟨none, 0, ?_, ?_⟩, node_nodup H.nd (fun b hb => by have := (H.low b hb).2.1; omega), fun b hb => ?_⟩
    · rw [hv, hd]; rfl
    · rw [hd]; exact ⟨Nat.zero_le _, hs, hr, Nat.zero_le _, OwnK.none _ _⟩
    · rw [hd, OT.bs] at hb; simp at hb
  · have hgl := hnew g (by rw [hv]; rfl)
    refine ⟨g, ⟨some ⟨g, 0, none⟩, cap, ?_, ?_⟩, node_nodup H.nd (fun b hb => by have := (H.low b hb).2.1; omega), fun b hb => ?_⟩
    · rw [hv]; simp only [OT.s, OT.r, OT.ks, hdl]
    · refine ⟨by show (ts.drop k).length ≤ cap; omega, hs, hr, by show (ts.drop k).length ≤ maxLen; omega, ?_⟩
      show OwnK w' g (some ⟨g, 0, none⟩) (ts.drop k)
      by_cases hd : ts.drop k = []
      · rw [hd]; exact OwnK.none _ _
      · have hkid : ∀ i (h : i < (ts.drop k).length), ∃ q : Option Addr × Nat, us[k + i]'(by omega) = ((ts.drop k)[i].s, (ts.drop k)[i].r, .slice q.1 (ts.drop k)[i].ks.length q.2) ∧ (ts.drop k)[i].ks.length ≤ q.2 ∧ (ts.drop k)[i].s.size ≤ maxLen ∧ (Lit.int .i64 (ts.drop k)[i].r).wf = true ∧ (ts.drop k)[i].ks.length ≤ maxLen ∧ OwnK w' (ts.drop k)[i].g q.1 (ts.drop k)[i].ks := fun i hi => by
          obtain ⟨a, c, h1, h2, h3, h4, h5, h6⟩ := H.kid (k + i) (by omega)
          have e : (ts.drop k)[i] = ts[k + i]'(by omega) := List.getElem_drop ..
          rw [e]
          exact ⟨(a, c), h1, h2, h3, h4, h5, h6.keep fun b hbm => hb b (H.low b (mem_bs (j := k + i) (by omega) (by rw [OT.bs_eq]; exact hbm))).2.1⟩
        have each : ∀ i : Nat, ∃ q : Option Addr × Nat, ∀ h : i < (ts.drop k).length, us[k + i]'(by omega) = ((ts.drop k)[i].s, (ts.drop k)[i].r, .slice q.1 (ts.drop k)[i].ks.length q.2) ∧ (ts.drop k)[i].ks.length ≤ q.2 ∧ (ts.drop k)[i].s.size ≤ maxLen ∧ (Lit.int .i64 (ts.drop k)[i].r).wf = true ∧ (ts.drop k)[i].ks.length ≤ maxLen ∧ OwnK w' (ts.drop k)[i].g q.1 (ts.drop k)[i].ks := fun i => by
          by_cases h : i < (ts.drop k).length
          · obtain ⟨q, hq⟩ := hkid i h
            exact ⟨q, fun _ => hq⟩
          · exact ⟨(none, 0), fun h' => absurd h' h⟩
        obtain ⟨q, hq⟩ := Classical.axiomOfChoice each
        refine OwnK.row g _ cur (fun i => (q i).1) (fun i => (q i).2) hd hh (by rw [hdl, hz]; exact Nat.mul_le_mul_right 3 hlc) (fun i hi => ?_) (fun i hi => (hq i hi).2.2.2.2.2)
        obtain ⟨h1, h2, h3, h4, h5, _⟩ := hq i hi
        have hi' : i < (us.drop k).length := by rw [List.length_drop]; omega
        obtain ⟨f0, f1, f2⟩ := flatO_at (us.drop k) i hi'
        have e : (us.drop k)[i] = us[k + i]'(by omega) := List.getElem_drop ..
        rw [e, h1] at f0 f1 f2
        have cv : ∀ q x, q < (us.length - k) * 3 → (flatO (us.drop k))[q]? = some x → cur[q]? = some x := by
          intro q x hq hx
          rw [← ht, List.getElem?_take, if_pos hq] at hx
          simpa using hx
        exact ⟨cv _ _ (by omega) f0, cv _ _ (by omega) f1, cv _ _ (by omega) f2, h2, h3, h4, h5⟩
    · rw [OT.bs] at hb
      rcases List.mem_append.1 hb with hb | hb
      · split at hb
        · cases hb
        · rw [List.mem_singleton] at hb
          subst hb
          exact ⟨hg, fun e => by have := (H.block b e).2; omega⟩
      · have := H.low b (m2 b hb)
        exact ⟨this.1, this.2.2⟩
end Go.Proofs.Ytcningdeocmbgaa
