/- The contract of the program's StepsOf. -/
import Derived.Test.YtcningdeocmbgaaStA
import Derived.Test.YtcningdeocmbgaaTokA
import Derived.Maps.OwnIn
import Derived.Stop.RegionWithIn
namespace Go.Proofs.Ytcningdeocmbgaa
open Go.ChangeShapes Go.WideShapes Go.ChangeAt Go.RowKit Go.Deep
attribute [local go_sem] Oper.semAt_some
set_option maxRecDepth 100000
/-- the step of a node -/
def stepR (r : Int) : StpT := if r = -1 then (1, 0) else (2, r)
/-- the steps of a tree, a node behind its kids -/
def stepsN : Tr → List StpT
  | .node _ r ks => ks.flatMap stepsN ++ [stepR r]
def sRun : List (PT × Bool) → List StpT
  | [] => []
  | (_, true) :: es => sRun es
  | (t, false) :: es => stepR t.r :: sRun es
theorem sRun_kids : ∀ (l : List PT), (∀ t ∈ l, ∀ rest, sRun (t.evs ++ rest) = stepsN t.tr ++ sRun rest) → ∀ rest, sRun (l.flatMap PT.evs ++ rest) = (l.map PT.tr).flatMap stepsN ++ sRun rest
  | [], _, rest => rfl
  | t :: l, h, rest => by
    rw [List.flatMap_cons, List.append_assoc, h t (List.mem_cons_self ..), sRun_kids l (fun x hx => h x (List.mem_cons_of_mem _ hx)), List.map_cons, List.flatMap_cons, List.append_assoc]
theorem sRun_evs (m : Nat) : ∀ (t : PT), t.sz ≤ m → ∀ rest, sRun (t.evs ++ rest) = stepsN t.tr ++ sRun rest := by
  induction m with
  | zero => intro t h; have := t.sz_pos; omega
  | succ m ih =>
    intro t h rest
    have hk := sRun_kids t.ks (fun k hk => ih k (by have := PT.sz_kid hk; omega))
    rw [t.evs_eq, List.cons_append, sRun, List.append_assoc, t.tr_eq, stepsN, hk, List.append_assoc]
    rfl
theorem sRun_all (t : PT) : sRun t.evs = stepsN t.tr := by
  have h := sRun_evs _ t (Nat.le_refl _) []
  rw [List.append_nil] at h
  rw [h]; simp [sRun]
theorem kidsToS_all {f : Tr → Bool} {rt : ByteArray} {ks : List Tr} : ∀ n, n ≤ ks.length → kidsTo f rt ks n = true → ∀ i (_ : i < n) (hk : i < ks.length), f ks[i] = true
  | 0, _, _, i, hi, _ => absurd hi (Nat.not_lt_zero _)
  | n + 1, hn, h, i, hi, hk => by
    rw [kidsTo_succ (by omega), Bool.and_eq_true] at h
    by_cases e : i = n
    · subst e
      have := h.2
      unfold kidB at this
      rw [Bool.and_eq_true] at this
      exact this.2
    · exact kidsToS_all n (by omega) h.1 i (by omega) hk
theorem flatS_congr {α β : Type} {f g : α → List β} : ∀ l : List α, (∀ x ∈ l, f x = g x) → l.flatMap f = l.flatMap g
  | [], _ => rfl
  | x :: l, h => by rw [List.flatMap_cons, List.flatMap_cons, h x (List.mem_cons_self ..), flatS_congr l (fun y hy => h y (List.mem_cons_of_mem _ hy))]
theorem stepsN_shape (rs : List RuleT) : ∀ d T, shapeB rs d T = true → stepsN T = stepsL T
  | 0, T, h => by rw [shapeB] at h; cases h
  | d + 1, .node s r ks, h => by
    rw [shapeB] at h
    rw [stepsN, stepsL]
    split at h
    · rw [Bool.and_eq_true] at h
      have h1 : r = -1 := by simpa using h.1
      have h2 : ks = [] := by simpa using h.2
      subst h1; subst h2; rfl
    · split at h
      case h_1 rt hrt =>
        have h0 : 0 ≤ r := by
          unfold ruleAt at hrt
          split at hrt
          · cases hrt
          · omega
        unfold stepR
        rw [if_neg (by omega), if_neg (by omega)]
        congr 1
        have hk := kidsToS_all ks.length (Nat.le_refl _) h
        have : ∀ k ∈ ks, stepsN k = stepsL k := fun k hm => by
          obtain ⟨i, hi, rfl⟩ := List.getElem_of_mem hm
          exact stepsN_shape rs d _ (hk i hi hi)
        exact flatS_congr _ this
      case h_2 => cases h
theorem stepsN_ok {st : ByteArray} {rs : List RuleT} {T : Tr} (h : treeOkB st rs T = true) : stepsN T = stepsL T := by
  unfold treeOkB at h
  rw [Bool.and_eq_true, Bool.and_eq_true] at h
  exact stepsN_shape rs 20 T h.2.1
/-- append, under a name that the walk does not open -/
@[irreducible] def appS (ats : Array TypeId) (ty : TypeId) (args : Array Value) : Sem Value := Builtin.append_ ats ty args
theorem builtin_appS (ats : Array TypeId) (ty : TypeId) (cs : Array Bool) (args : Array Value) : builtin .append ats ty cs args = (do pure (.value (← appS ats ty args))) := by unfold appS; rfl
theorem RowS.stay {w w' : World} {B : Nat} {v : Value} {zs : List StpT} (h : RowS w B v zs) (hk : ∀ (k : Nat) c, B ≤ k → w.heap[k]? = some (.cells c 57) → w'.heap[k]? = w.heap[k]?) : RowS w' B v zs := by
  refine ⟨h.1, ?_⟩
  rcases h.2 with h0 | ⟨g, cap, cur, hv, hg, hh, hl, hm, hs, ht⟩
  · exact .inl h0
  · exact .inr ⟨g, cap, cur, hv, hg, (hk g cur hg hh).trans hh, hl, hm, hs, ht⟩
theorem stp_new (W : World) (u0 u1 : Value) (T : TypeId) : ∀ (j : Nat) u, [u0, u1][j]? = some u → (W.alloc (.cells #[u0, u1] T)).cell? ((⟨W.heap.size, 0, none⟩ : Addr).add j) = some u := by
  intro j u hj
  match j, hj with
  | 0, hj => simp at hj; subst hj; simp [Addr.add]
  | 1, hj => simp at hj; subst hj; simp [Addr.add]
/-- what StepsOf holds between two events: steps in nb, the tree's root in nb + 1, the deferred's record nb + 2, the loop's nb + 3 -/
structure StpJ (w0 : World) (nb : Nat) (rec : LoopState → Option Code → Loop) (total : List StpT) (S : List Nat) (_opn : List PT) (es : List (PT × Bool)) (W : World) : Prop where
  bel : Below w0.heap.size w0 W
  st : ∃ zs v, one1 W nb v 37 ∧ RowS W (nb + 4) v zs ∧ zs ++ sRun es = total
  loop : W.heap[nb + 3]? = some (.loop (rec .ready none))
  defs : W.heap[nb + 2]? = some (.deferred (some []))
  own : ∀ k ∈ S, nb + 3 < k ∧ k < W.heap.size
  typ : ∀ k ∈ S, PlaceB W k
  low : w0.heap.size ≤ nb
theorem place_not_step {w : World} {k : Nat} {c : Array Value} {fz : Nat × Nat} (h : PlaceB w k) (h2 : w.heap[k]? = some (.cells c 57 fz)) : False := by
  obtain ⟨c', h⟩ := h
  rw [h] at h2
  simp at h2
theorem StpJ.apart {w0 : World} {nb : Nat} {rec : LoopState → Option Code → Loop} {total : List StpT} {S S' : List Nat} {opn : List PT} {es : List (PT × Bool)} {W W' : World} (h : StpJ w0 nb rec total S opn es W) (ha : Apart S S' W W') (ht : (∀ k ∈ S, PlaceB W k) → ∀ k ∈ S', PlaceB W' k) : StpJ w0 nb rec total S' opn es W' := by
  have hl : nb + 3 < W.heap.size := (Array.getElem?_eq_some_iff.1 h.loop).1
  have hlow := h.low
  have same : ∀ k, k ≤ nb + 3 → W'.heap[k]? = W.heap[k]? := fun k hk => ha.block k (by omega) (fun hm => by have := h.own k hm; omega)
  obtain ⟨zs, v, h1, h2, h3⟩ := h.st
  refine ⟨ha.belowOf h.bel (fun k hk => by have := h.own k hk; omega) h.bel.size, ⟨zs, v, (same _ (by omega)).trans h1, h2.stay (fun k c _ hk => ha.block k (Array.getElem?_eq_some_iff.1 hk).1 (fun hm => place_not_step (h.typ k hm) hk)), h3⟩, (same _ (by omega)).trans h.loop, (same _ (by omega)).trans h.defs, ?_, ht h.typ, h.low⟩
  intro k hk
  rcases ha.own k hk with h' | h'
  · have := h.own k h'; have := ha.size; omega
  · omega
/-- what one event may turn: the loop's record, rules, rows of steps behind them -/
structure TurnS (nb : Nat) (W W' : World) : Prop where
  os : W'.os = W.os
  tape : W'.tape = W.tape
  output : W'.output = W.output
  size : W.heap.size ≤ W'.heap.size
  high : ∀ k o, W.heap[k]? = some o → k ≠ nb → k ≠ nb + 3 → (nb + 4 ≤ k → ∀ c fz, o ≠ .cells c 57 fz) → W'.heap[k]? = some o
theorem TurnS.trans {nb : Nat} {a b c : World} (h : TurnS nb a b) (k : TurnS nb b c) : TurnS nb a c :=
  ⟨k.os.trans h.os, k.tape.trans h.tape, k.output.trans h.output, Nat.le_trans h.size k.size, fun i o hi h1 h2 h3 => k.high i o (h.high i o hi h1 h2 h3) h1 h2 h3⟩
theorem TurnS.put (nb : Nat) (W : World) (o : Obj) : TurnS nb W (W.putObj (nb + 3) o) :=
  ⟨rfl, rfl, rfl, by simp, fun k _ h _ h3 _ => (World.putObj_heap_other h3).trans h⟩
theorem TurnS.set (nb : Nat) (W : World) (v : Value) : TurnS nb W (W.setCell ⟨nb, 0, none⟩ v) :=
  ⟨rfl, rfl, rfl, by simp, fun k _ h h2 _ _ => (Below.heap_setCell W _ v k h2).trans h⟩
theorem TurnS.alloc (nb : Nat) (W : World) (o : Obj) : TurnS nb W (W.alloc o) :=
  ⟨rfl, rfl, rfl, by simp, fun k _ h _ _ _ => (blk_old _ _ (Array.getElem?_eq_some_iff.1 h).1).trans h⟩
theorem TurnS.grow {nb : Nat} {W W' : World} {v : Value} {zs : List StpT} (h : RowS W (nb + 4) v zs) (hg : W.grownBy W' v.ownBlock) : TurnS nb W W' := by
  refine ⟨hg.os, hg.tape, hg.output, hg.size, fun k o hk _ _ h3 => ?_⟩
  rw [hg.block k (Array.getElem?_eq_some_iff.1 hk).1 ?_, hk]
  intro e
  rcases h.2 with ⟨h0, _⟩ | ⟨g, cap, cur, hv, hB, hh, _⟩
  · rw [h0] at e; simp [Value.ownBlock] at e
  · rw [hv] at e
    simp only [Value.ownBlock, Option.some.injEq] at e
    subst e
    rw [hh] at hk
    simp only [Option.some.injEq] at hk
    exact h3 hB _ _ hk.symm
theorem StpJ.upd {w0 : World} {nb : Nat} {rec : LoopState → Option Code → Loop} {total : List StpT} {S : List Nat} {opn opn' : List PT} {es es' : List (PT × Bool)} {W W' : World} (h : StpJ w0 nb rec total S opn es W) (ht : TurnS nb W W')
    (hs : ∃ zs v, one1 W' nb v 37 ∧ RowS W' (nb + 4) v zs ∧ zs ++ sRun es' = total) (hl : W'.heap[nb + 3]? = some (.loop (rec .ready none))) :
    StpJ w0 nb rec total S opn' es' W' ∧ Keeps S (TM w0.heap.size (nb + 1)) W W' := by
  have hlt : nb + 3 < W.heap.size := (Array.getElem?_eq_some_iff.1 h.loop).1
  have hlow := h.low
  have sameL : ∀ k, k < nb + 4 → k ≠ nb → k ≠ nb + 3 → W'.heap[k]? = W.heap[k]? := fun k hk h1 h2 => by
    have hk' : k < W.heap.size := by omega
    rw [Array.getElem?_eq_getElem hk']
    exact ht.high k _ (Array.getElem?_eq_getElem hk') h1 h2 (fun h => by omega)
  have sameS : ∀ k ∈ S, W'.heap[k]? = W.heap[k]? := fun k hk => by
    obtain ⟨c, hc⟩ := h.typ k hk
    have := h.own k hk
    rw [hc]
    exact ht.high _ _ hc (by omega) (by omega) (fun _ c fz => by simp)
  refine ⟨⟨h.bel.trans ⟨ht.os, ht.tape, ht.output, by have := ht.size; omega, fun k hk => sameL k (by omega) (by omega) (by omega)⟩, hs, hl, (sameL _ (by omega) (by omega) (by omega)).trans h.defs, fun k hk => ⟨(h.own k hk).1, Nat.lt_of_lt_of_le (h.own k hk).2 ht.size⟩, fun k hk => ?_, h.low⟩, fun k hk => ?_, ht.size⟩
  · obtain ⟨c, hc⟩ := h.typ k hk
    exact ⟨c, (sameS k hk).trans hc⟩
  · rcases hk with hk | hk
    · exact sameS k hk
    · rcases hk with hk | hk <;> exact sameL k (by omega) (by omega) (by omega)
theorem stepsN_len (m : Nat) : ∀ (T : Tr), T.sz ≤ m → (stepsN T).length ≤ T.sz := by
  induction m with
  | zero =>
    intro T hT
    cases T with
    | node s r ks => rw [Tr.sz] at hT; omega
  | succ m ih =>
    intro T hT
    cases T with
    | node s r ks =>
      have hk : ∀ k ∈ ks, (stepsN k).length ≤ k.sz := fun k hk => ih k (by have := Tr.sz_kid (s := s) (r := r) hk; omega)
      have hall : ∀ l : List Tr, (∀ k ∈ l, (stepsN k).length ≤ k.sz) → (l.flatMap stepsN).length ≤ (l.map Tr.sz).sum := by
        intro l
        induction l with
        | nil => intro _; simp
        | cons x xs ih2 =>
          intro h
          have h1 := h x (List.mem_cons_self ..)
          have h2 := ih2 (fun k hk => h k (List.mem_cons_of_mem _ hk))
          simp only [List.flatMap_cons, List.length_append, List.map_cons, List.sum_cons]
          omega
      have := hall ks hk
      rw [stepsN, Tr.sz, List.length_append, List.length_singleton]
      omega
attribute [-go_sem] BigFrame.builtin_append
attribute [local go_sem ↓] builtin_appS
set_option maxHeartbeats 4000000 in
theorem stepsOf_any (st : ByteArray) (ag : Option Addr) (cg : Nat) (rs : List RuleT) (T : Tr) (v : Value) (w : World) (HR : RulesAt w ag rs) (hcg : rs.length ≤ cg) (HT : TrIn w 0 v T) (hz : T.sz ≤ 2000000) :
    Calls Try.prog 21 #[.agg #[.string st, .slice ag rs.length cg], v] w fun e w' => ∃ x, e = .returned x ∧ RowS w' w.heap.size x (stepsOfM st rs T) ∧ Below w.heap.size w w' := by
  obtain ⟨i0, hi0, hz0, hz1, hz2⟩ := info_parts infoStep
  obtain ⟨s, r, ks, a, cap, rfl, hTe, _⟩ := HT.open
  have hb2 := ((Below.refl w.heap.size w).alloc (Nat.le_refl _) (.cells #[.string st, .slice ag rs.length cg] 35)).alloc (by simp) (.cells #[.string s, .int .i64 r, .slice a ks.length cap] 30)
  have hG2 : GB2 ((w.alloc (.cells #[.string st, .slice ag rs.length cg] 35)).alloc (.cells #[.string s, .int .i64 r, .slice a ks.length cap] 30)) w.heap.size (.string st) (.slice ag rs.length cg) := (blk_old _ _ (by simp)).trans (blk_new _ _ rfl)
  have hT2 : BoxT ((w.alloc (.cells #[.string st, .slice ag rs.length cg] 35)).alloc (.cells #[.string s, .int .i64 r, .slice a ks.length cap] 30)) (w.heap.size + 1) (.string s) (.int .i64 r) (.slice a ks.length cap) := blk_new _ _ (by simp)
  have HR2 := HR.below hb2 (Nat.le_refl _)
  have HT2 := HT.keep hb2
  have hHM : stepsOfM st rs T = if treeOkB st rs T = true ∧ (s.toList == st.toList) = true then stepsL T ++ [(3, 0)] else [] := by rw [hTe, stepsOfM]
  have HHM := Lib.hid hHM
  clear hHM hTe
  obtain ⟨g0, g1⟩ := hG2.cells
  obtain ⟨o0, o1, o2, of0, of1, of2⟩ := hT2.cells
  refine (callsIn_wide (n := 3)).1 ?_
  refine callsIn_of_wp_marks Try.func21 rfl trivial ?_ rfl
  simp only [Try.ntmps21, List.size_toArray, List.length_cons, List.length_nil, Nat.reduceAdd, Nat.reduceSub, Array.replicate_succ, Array.replicate_zero, List.push_toArray, List.append_toArray, List.nil_append, List.cons_append]
  gi_wp2
  refine ⟨trivial, (callsIn_wide.2 (treeOk_any st ag cg rs T _ _ HR2 hcg HT2 hz)).mono ?_⟩
  rintro e w3 ⟨rfl, hb3⟩
  have hB3 := hb2.trans (hb3.mono hb2.size)
  have hT3 := hT2.below hb3
  have hz3 : w.heap.size + 2 ≤ w3.heap.size := by have := hb3.size; simp at this; omega
  have hG3 : GB2 w3 w.heap.size (.string st) (.slice ag rs.length cg) := (hb3.block _ (by simp; omega)).trans hG2
  clear o0 o1 o2 of0 of1 of2 hb2 hT2 hb3 g0 g1 hG2 HR2 HT2
  obtain ⟨g0, g1⟩ := hG3.cells
  obtain ⟨o0, o1, o2, of0, of1, of2⟩ := hT3.cells
  cases hok : treeOkB st rs T with
  | false =>
    have HM : Hid (stepsOfM st rs T = []) := by show _ = _; rw [HHM.out, hok, if_neg (by simp)]
    gi_wp2
    exact ⟨_, results_tmp rfl _ _ _, ⟨_, rfl, by rw [HM.out]; exact RowS.none _ _, hB3⟩⟩
  | true =>
  cases hst : (s.toList == st.toList) with
  | false =>
    have HM : Hid (stepsOfM st rs T = []) := by show _ = _; rw [HHM.out, hst, if_neg (by simp)]
    have hne : (s.toList != st.toList) = true := by rw [bne, hst]; rfl
    gi_wp2
    exact ⟨_, results_tmp rfl _ _ _, ⟨_, rfl, by rw [HM.out]; exact RowS.none _ _, hB3⟩⟩
  | true =>
    have HM : Hid (stepsOfM st rs T = stepsN T ++ [(3, 0)]) := by show _ = _; rw [HHM.out, hok, hst, if_pos ⟨rfl, rfl⟩, stepsN_ok hok]
    have hne : (s.toList != st.toList) = false := by rw [bne, hst]; rfl
    have hT4 := hT3.below ((Below.refl _ _).alloc (Nat.le_refl _) (.cells #[.slice none 0 0] 37))
    obtain ⟨p0, p1, p2, pf0, pf1, pf2⟩ := hT4.cells
    gi_wp2
    refine ⟨trivial, (callsIn_wide.2 (walk_any s r _ _)).mono ?_⟩
    rintro e w5 ⟨rfl, rfl⟩
    clear o0 o1 o2 of0 of1 of2 p0 p1 p2 pf0 pf1 pf2 g0 g1
    gi_wp2
    refine wpIn_rangeFunc_open rfl (by omega) rfl trivial (enters_of Try.func66 (by kernel_rfl) rfl) ?_
    intro fn hfn
    simp only [World.size_alloc, Nat.add_assoc, Nat.reduceAdd]
    generalize hrec : recOf fn _ _ _ _ _ = rec
    have hold : ∀ g, g < w.heap.size → ((((w3.alloc (.cells #[.slice none 0 0] 37)).alloc (.cells #[.string s, .int .i64 r, .slice a ks.length cap] 30)).alloc (.deferred (some []))).alloc (.loop (rec .ready none))).heap[g]? = w.heap[g]? := fun g hg => by
      rw [blk_old _ _ (by simp; omega), blk_old _ _ (by simp; omega), blk_old _ _ (by simp; omega), blk_old _ _ (by omega)]
      exact hB3.block g hg
    have hbox : ((((w3.alloc (.cells #[.slice none 0 0] 37)).alloc (.cells #[.string s, .int .i64 r, .slice a ks.length cap] 30)).alloc (.deferred (some []))).alloc (.loop (rec .ready none))).heap[w3.heap.size + 1]? = some (.cells #[.string s, .int .i64 r, .slice a ks.length cap] 30) := (blk_old _ _ (by simp)).trans ((blk_old _ _ (by simp)).trans (blk_new _ _ (by simp)))
    obtain ⟨t0, ht1, ht2, ht3, ht4⟩ := HT.root (tb := w3.heap.size + 1) hold (by rw [cell_of_block hbox]; rfl) (by rw [cell_of_block hbox]; rfl) (by rw [cell_of_block hbox]; rfl)
    have htot : sRun t0.evs = stepsN T := by rw [sRun_all, ht3]
    have hrlen := stepsN_len _ T (Nat.le_refl _)
    refine (walk1_in 2 (w3.heap.size + 3) (w3.heap.size + 1) (TM w.heap.size (w3.heap.size + 1)) t0 (StpJ w w3.heap.size rec (stepsN T)) (fun _ => False) (by unfold PT.sz; rw [ht3]; exact hz) ht1 ht2 ?l1 ?l2 ?l3 _ (fun k hk => by simp; rcases hk with h | h <;> omega) ?l4 (ht4.stay (fun _ _ => rfl) (fun g hg => by rcases hg with h | h; exact .inl h.2; exact .inr h))).mono ?_
    case l1 => exact fun S S' o es W W' h ha ht => h.apart ha ht
    case l4 =>
      refine ⟨?_, ⟨[], .slice none 0 0, ?_, ⟨rfl, .inl ⟨rfl, rfl⟩⟩, by rw [htot]; rfl⟩, blk_new _ _ (by simp), (blk_old _ _ (by simp)).trans (blk_new _ _ (by simp)), (fun k h => by cases h), (fun k h => by cases h), by omega⟩
      · exact (((hB3.alloc (by omega) _).alloc (by simp; omega) _).alloc (by simp; omega) _).alloc (by simp; omega) _
      · exact (((one1.alloc (show one1 _ w3.heap.size _ _ from blk_new _ _ rfl) _).alloc _).alloc _)
    case l2 =>
      clear hold hbox ht1 ht2 ht3 ht4 hT4 hT3 hB3 htot HM
      intro S opn es W t hJ hpt hdec
      have j3 := hJ.loop
      have hl := (Array.getElem?_eq_some_iff.1 j3).1
      have HJ := Lib.hid hJ
      obtain ⟨zs, v, hv, hrow, hrun⟩ := hJ.st
      have hlow := hJ.low
      have T1 := TurnS.put w3.heap.size W (.loop (rec .busy none))
      have pl : (W.putObj (w3.heap.size + 3) (.loop (rec .busy none))).heap[w3.heap.size + 3]? = some (.loop (rec .busy none)) := World.putObj_heap_same hl
      have hv1 := hv.put (c := w3.heap.size + 3) (by omega) (.loop (rec .busy none))
      have hrow1 : RowS (W.putObj (w3.heap.size + 3) (.loop (rec .busy none))) (w3.heap.size + 4) v zs := hrow.stay (fun k c hB _ => World.putObj_heap_other (by omega))
      rw [← hrec] at j3
      refine YieldAt.mono (R := fun e W' => ∃ j, e = .returned (.bool j.isNone) ∧ (j = none ∧ StpJ w w3.heap.size rec (stepsN T) S (t :: opn) es W' ∧ Keeps S (TM w.heap.size (w3.heap.size + 1)) W W')) (yieldAt_open hfn j3 rfl ?_) ?_
      rotate_left
      · rintro e W' ⟨j, rfl, rfl, h, hk⟩
        exact ⟨hk, .inl ⟨rfl, h⟩⟩
      · rw [hrec] at j3 ⊢
        clear hrec
        gi_wp2
        refine ⟨j3, ?_⟩
        rw [sRun] at hrun
        have HRUN := Lib.hid hrun
        clear hJ hv hrow j3 hrun hdec
        generalize W.putObj (w3.heap.size + 3) (.loop (rec .busy none)) = W1 at *
        obtain ⟨c1, f1⟩ := hv1.cell
        gi_wp2
        obtain ⟨z1, z2⟩ := HJ.out.upd (opn' := t :: opn) (es' := es) (T1.trans (TurnS.put _ _ (.loop (rec .ready none)))) ⟨zs, v, hv1.put (by omega) _, hrow1.stay (fun k c hB _ => World.putObj_heap_other (by omega)), HRUN.out⟩ (World.putObj_heap_same (Array.getElem?_eq_some_iff.1 pl).1)
        exact ⟨pl, rfl, z1, z2⟩
    case l3 =>
      clear hold hbox ht1 ht2 ht3 ht4 hT4 hT3 hB3 htot HM
      intro S opn es W t hJ hpt
      have j3 := hJ.loop
      have hl := (Array.getElem?_eq_some_iff.1 j3).1
      have HJ := Lib.hid hJ
      obtain ⟨zs, v, hv, hrow, hrun⟩ := hJ.st
      have hlow := hJ.low
      have T1 := TurnS.put w3.heap.size W (.loop (rec .busy none))
      have pl : (W.putObj (w3.heap.size + 3) (.loop (rec .busy none))).heap[w3.heap.size + 3]? = some (.loop (rec .busy none)) := World.putObj_heap_same hl
      have hv1 := hv.put (c := w3.heap.size + 3) (by omega) (.loop (rec .busy none))
      have hrow1 : RowS (W.putObj (w3.heap.size + 3) (.loop (rec .busy none))) (w3.heap.size + 4) v zs := hrow.stay (fun k c hB _ => World.putObj_heap_other (by omega))
      have hM1 : ∀ k, TM w.heap.size (w3.heap.size + 1) k → (W.putObj (w3.heap.size + 3) (.loop (rec .busy none))).heap[k]? = W.heap[k]? := fun k hk => World.putObj_heap_other (by rcases hk with h | h <;> omega)
      obtain ⟨_, _, hMt, k0, k1, _⟩ := (hpt.stay hM1 (fun _ h => h)).open
      have hl1 : w3.heap.size + 4 ≤ (W.putObj (w3.heap.size + 3) (.loop (rec .busy none))).heap.size := by simp; omega
      rw [← hrec] at j3
      refine YieldAt.mono (R := fun e W' => ∃ j, e = .returned (.bool j.isNone) ∧ (j = none ∧ StpJ w w3.heap.size rec (stepsN T) S opn es W' ∧ Keeps S (TM w.heap.size (w3.heap.size + 1)) W W')) (yieldAt_open hfn j3 rfl ?_) ?_
      rotate_left
      · rintro e W' ⟨j, rfl, rfl, h, hk⟩
        exact ⟨hk, .inl ⟨rfl, h⟩⟩
      · rw [hrec] at j3 ⊢
        clear hrec
        gi_wp2
        refine ⟨j3, ?_⟩
        rw [sRun] at hrun
        have hzl : zs.length ≤ 2000000 := by have := congrArg List.length hrun; rw [List.length_append] at this; omega
        have HRUN := Lib.hid hrun
        clear hJ hv hrow j3 hM1 hrun
        generalize W.putObj (w3.heap.size + 3) (.loop (rec .busy none)) = W1 at *
        obtain ⟨c1, f1⟩ := hv1.cell
        by_cases hr : t.r = -1
        · have hrb : (t.r == -1) = true := by simp [hr]
          have HST : Hid (stepR t.r = (1, 0)) := by show _ = _; unfold stepR; rw [if_pos hr]
          have hrow2 : RowS (W1.alloc (.cells #[.int .i64 1, .int .i64 0] 57)) (w3.heap.size + 4) v zs := hrow1.stay (fun k c _ hk => blk_old _ _ (Array.getElem?_eq_some_iff.1 hk).1)
          obtain ⟨v', w6, hap, h1, h2, _, h4⟩ := run_append_own_at (P := Try.prog) (W1.alloc (.cells #[.int .i64 1, .int .i64 0] 57)) (w3.heap.size + 4) 37 37 57 i0 (.agg #[.int .i64 0, .int .i64 0]) 2 16 Try.underlying37 hi0 hz0 hz1 hz2 rfl (by decide) v zs.length (flatS zs) hrow2 ⟨W1.heap.size, 0, none⟩ 1 1 [.int .i64 1, .int .i64 0] rfl (stp_new W1 _ _ _) (by intro u hu; simp at hu; rcases hu with rfl | rfl <;> rfl) (by unfold maxLen; omega) (by omega) (by simp; omega)
          have hap' : (appS #[37, 37] 37 #[v, .slice (some ⟨W1.heap.size, 0, none⟩) 1 1]).run Try.prog (W1.alloc (.cells #[.int .i64 1, .int .i64 0] 57)) = .ok v' w6 := by unfold appS; exact hap
          have T2 : TurnS w3.heap.size W1 w6 := (TurnS.alloc w3.heap.size W1 (.cells #[.int .i64 1, .int .i64 0] 57)).trans (TurnS.grow (W := (W1.alloc (.cells #[.int .i64 1, .int .i64 0] 57))) hrow2 ⟨h2.os, h2.tape, h2.output, h2.size, h2.block⟩)
          clear hap
          have hv2 : one1 (W1.alloc (.cells #[.int .i64 1, .int .i64 0] 57)) w3.heap.size v 37 := hv1.alloc _
          have hnr : some w3.heap.size ≠ v.ownBlock := by
            intro e
            rcases hrow1.2 with ⟨h0, _⟩ | ⟨g, _, _, hv', hB, _⟩
            · rw [h0] at e; simp [Value.ownBlock] at e
            · rw [hv'] at e; simp only [Value.ownBlock, Option.some.injEq] at e; omega
          have hv6 : one1 w6 w3.heap.size v 37 := (h2.block w3.heap.size hv2.lt hnr).trans hv2
          have pl6 : w6.heap[w3.heap.size + 3]? = some (.loop (rec .busy none)) := by
            have hnr3 : some (w3.heap.size + 3) ≠ v.ownBlock := by
              intro e
              rcases hrow1.2 with ⟨h0, _⟩ | ⟨g, _, _, hv', hB, _⟩
              · rw [h0] at e; simp [Value.ownBlock] at e
              · rw [hv'] at e; simp only [Value.ownBlock, Option.some.injEq] at e; omega
            have hp := blk_old W1 (.cells #[.int .i64 1, .int .i64 0] 57) (Array.getElem?_eq_some_iff.1 pl).1
            exact (h2.block _ (by have := (Array.getElem?_eq_some_iff.1 pl).1; simp; omega) hnr3).trans (hp.trans pl)
          have hrow6 : RowS w6 (w3.heap.size + 4) v' (zs ++ [(1, 0)]) := by
            unfold RowS
            rw [List.length_append, flatS_append]
            exact h1
          rcases h1.2 with ⟨_, h0⟩ | ⟨g', cp', cur, hv', _⟩
          · omega
          subst hv'
          obtain ⟨c6, f6⟩ := hv6.cell
          obtain ⟨c2, f2⟩ := hv2.cell
          clear h1 h2 h4 hv2 hnr
          have HV6 := Lib.hid hv6
          have HR6 := Lib.hid hrow6
          have HT2 := Lib.hid (T1.trans T2)
          have HP6 := Lib.hid pl6
          clear hv6 hrow6 T1 T2 hrow1 hrow2 pl pl6
          gi_wp2
          have hv7 := HV6.out.set (.slice (some ⟨g', 0, none⟩) (zs.length + 1) cp')
          have pl7 := blk_set HP6.out (p := ⟨w3.heap.size, 0, none⟩) (by show w3.heap.size + 3 ≠ w3.heap.size; omega) (.slice (some ⟨g', 0, none⟩) (zs.length + 1) cp')
          obtain ⟨z1, z2⟩ := HJ.out.upd (opn' := opn) (es' := es) ((HT2.out.trans (TurnS.set w3.heap.size w6 (.slice (some ⟨g', 0, none⟩) (zs.length + 1) cp'))).trans (TurnS.put _ _ (.loop (rec .ready none)))) ⟨zs ++ [(1, 0)], _, hv7.put (by omega) _, (HR6.out.stay (w' := w6.setCell ⟨w3.heap.size, 0, none⟩ (.slice (some ⟨g', 0, none⟩) (zs.length + 1) cp')) (fun k c hB _ => Below.heap_setCell _ _ _ _ (by show k ≠ w3.heap.size; omega))).stay (fun k c hB _ => World.putObj_heap_other (by omega)), by have := HRUN.out; rw [HST.out] at this; rw [List.append_assoc]; exact this⟩ (World.putObj_heap_same (Array.getElem?_eq_some_iff.1 pl7).1)
          exact ⟨pl7, rfl, z1, z2⟩
        · have hrb : (t.r == -1) = false := by simp [hr]
          have HST : Hid (stepR t.r = (2, t.r)) := by show _ = _; unfold stepR; rw [if_neg hr]
          have hrow2 : RowS (W1.alloc (.cells #[.int .i64 2, .int .i64 t.r] 57)) (w3.heap.size + 4) v zs := hrow1.stay (fun k c _ hk => blk_old _ _ (Array.getElem?_eq_some_iff.1 hk).1)
          obtain ⟨v', w6, hap, h1, h2, _, h4⟩ := run_append_own_at (P := Try.prog) (W1.alloc (.cells #[.int .i64 2, .int .i64 t.r] 57)).drew (w3.heap.size + 4) 37 37 57 i0 (.agg #[.int .i64 0, .int .i64 0]) 2 16 Try.underlying37 hi0 hz0 hz1 hz2 rfl (by decide) v zs.length (flatS zs) hrow2 ⟨W1.heap.size, 0, none⟩ 1 1 [.int .i64 2, .int .i64 t.r] rfl (stp_new W1 _ _ _) (by intro u hu; simp at hu; rcases hu with rfl | rfl <;> rfl) (by unfold maxLen; omega) (by omega) (by simp; omega)
          have hap' : (appS #[37, 37] 37 #[v, .slice (some ⟨W1.heap.size, 0, none⟩) 1 1]).run Try.prog (W1.alloc (.cells #[.int .i64 2, .int .i64 t.r] 57)).drew = .ok v' w6 := by unfold appS; exact hap
          have T2 : TurnS w3.heap.size W1 w6 := (TurnS.alloc w3.heap.size W1 (.cells #[.int .i64 2, .int .i64 t.r] 57)).trans (TurnS.grow (W := (W1.alloc (.cells #[.int .i64 2, .int .i64 t.r] 57))) hrow2 ⟨h2.os, h2.tape, h2.output, h2.size, h2.block⟩)
          clear hap
          have hv2 : one1 (W1.alloc (.cells #[.int .i64 2, .int .i64 t.r] 57)) w3.heap.size v 37 := hv1.alloc _
          have hnr : some w3.heap.size ≠ v.ownBlock := by
            intro e
            rcases hrow1.2 with ⟨h0, _⟩ | ⟨g, _, _, hv', hB, _⟩
            · rw [h0] at e; simp [Value.ownBlock] at e
            · rw [hv'] at e; simp only [Value.ownBlock, Option.some.injEq] at e; omega
          have hv6 : one1 w6 w3.heap.size v 37 := (h2.block w3.heap.size hv2.lt hnr).trans hv2
          have pl6 : w6.heap[w3.heap.size + 3]? = some (.loop (rec .busy none)) := by
            have hnr3 : some (w3.heap.size + 3) ≠ v.ownBlock := by
              intro e
              rcases hrow1.2 with ⟨h0, _⟩ | ⟨g, _, _, hv', hB, _⟩
              · rw [h0] at e; simp [Value.ownBlock] at e
              · rw [hv'] at e; simp only [Value.ownBlock, Option.some.injEq] at e; omega
            have hp := blk_old W1 (.cells #[.int .i64 2, .int .i64 t.r] 57) (Array.getElem?_eq_some_iff.1 pl).1
            exact (h2.block _ (by have := (Array.getElem?_eq_some_iff.1 pl).1; simp; omega) hnr3).trans (hp.trans pl)
          have hrow6 : RowS w6 (w3.heap.size + 4) v' (zs ++ [(2, t.r)]) := by
            unfold RowS
            rw [List.length_append, flatS_append]
            exact h1
          rcases h1.2 with ⟨_, h0⟩ | ⟨g', cp', cur, hv', _⟩
          · omega
          subst hv'
          obtain ⟨c6, f6⟩ := hv6.cell
          obtain ⟨c2, f2⟩ := hv2.cell
          clear h1 h2 h4 hv2 hnr
          have HV6 := Lib.hid hv6
          have HR6 := Lib.hid hrow6
          have HT2 := Lib.hid (T1.trans T2)
          have HP6 := Lib.hid pl6
          clear hv6 hrow6 T1 T2 hrow1 hrow2 pl pl6
          gi_wp2
          gi_region_with fail
          all_goals
            (gi_wp2
             have hv7 := HV6.out.set (.slice (some ⟨g', 0, none⟩) (zs.length + 1) cp')
             have pl7 := blk_set HP6.out (p := ⟨w3.heap.size, 0, none⟩) (by show w3.heap.size + 3 ≠ w3.heap.size; omega) (.slice (some ⟨g', 0, none⟩) (zs.length + 1) cp')
             obtain ⟨z1, z2⟩ := HJ.out.upd (opn' := opn) (es' := es) ((HT2.out.trans (TurnS.set w3.heap.size w6 (.slice (some ⟨g', 0, none⟩) (zs.length + 1) cp'))).trans (TurnS.put _ _ (.loop (rec .ready none)))) ⟨zs ++ [(2, t.r)], _, hv7.put (by omega) _, (HR6.out.stay (w' := w6.setCell ⟨w3.heap.size, 0, none⟩ (.slice (some ⟨g', 0, none⟩) (zs.length + 1) cp')) (fun k c hB _ => Below.heap_setCell _ _ _ _ (by show k ≠ w3.heap.size; omega))).stay (fun k c hB _ => World.putObj_heap_other (by omega)), by have := HRUN.out; rw [HST.out] at this; rw [List.append_assoc]; exact this⟩ (World.putObj_heap_same (Array.getElem?_eq_some_iff.1 pl7).1)
             exact ⟨pl7, rfl, z1, z2⟩)
    rintro e W ⟨⟨v, rfl⟩, ⟨S, hJ⟩ | hS⟩
    · obtain ⟨zs, v', hc, hrow, hrun⟩ := hJ.st
      have q1 := hc.put (c := w3.heap.size + 3) (by omega) (.loop (rec .exhausted none))
      have q4 : (W.putObj (w3.heap.size + 3) (.loop (rec .exhausted none))).heap[w3.heap.size + 2]? = some (.deferred (some [])) := (World.putObj_heap_other (by omega)).trans hJ.defs
      have q5 := Below.putObj hJ.bel (r := w3.heap.size + 3) (by omega) (.loop (rec .exhausted none))
      have q6 : RowS (W.putObj (w3.heap.size + 3) (.loop (rec .exhausted none))) (w3.heap.size + 4) v' zs := hrow.stay (fun k c hB _ => World.putObj_heap_other (by omega))
      have hlt5 : w3.heap.size + 4 ≤ (W.putObj (w3.heap.size + 3) (.loop (rec .exhausted none))).heap.size := by have := (Array.getElem?_eq_some_iff.1 hJ.loop).1; simp; omega
      refine ⟨v, .ready, none, rfl, by simp, hJ.loop, ?_⟩
      unfold afterSeq
      clear hJ ht4 hold hbox
      generalize W.putObj (w3.heap.size + 3) (.loop (rec .exhausted none)) = W5 at *
      obtain ⟨c1, c2⟩ := q1.cell
      have hzs : zs = stepsN T := by simpa [sRun] using hrun
      have hzl : zs.length ≤ 2000000 := by rw [hzs]; exact Nat.le_trans (stepsN_len _ T (Nat.le_refl _)) hz
      have HZ := Lib.hid hzs
      have hB5 := q5.size
      have hb6 := (Below.refl _ _).alloc (Nat.le_refl W5.heap.size) (.cells #[.int .i64 3, .int .i64 0] 57)
      have hrow5 := q6.below hb6
      clear hzs hrun
      gi_wp2_with (gi_at_builtin; refine wpListIn_append_own_at _ rfl _ _ 37 rfl (w3.heap.size + 4) 57 i0 (.agg #[.int .i64 0, .int .i64 0]) 2 16 Try.underlying37 hi0 hz0 hz1 hz2 rfl (by decide) v' zs.length (flatS zs) rfl hrow5 ⟨W5.heap.size, 0, none⟩ 1 1 [.int .i64 3, .int .i64 0] rfl rfl ?c1 ?c2 (by unfold maxLen; omega) (by omega) (by simp; omega) ?_; rotate_right 1; intro v6 w6 hown6 hgrow _ hat)
      case c1 => exact stp_new W5 _ _ _
      case c2 => intro u hu; simp at hu; rcases hu with rfl | rfl <;> rfl
      have hbR := (Below.refl (w3.heap.size + 4) _).grown hgrow (by simp; omega) hrow5.row
      have q7 : w6.heap[w3.heap.size + 2]? = some (.deferred (some [])) := (hbR.block _ (by omega)).trans ((blk_old _ _ (by omega)).trans q4)
      have q8 : Below w.heap.size w w6 := (q5.alloc q5.size _).trans (hbR.mono (by omega))
      have q9 : RowS w6 (w3.heap.size + 4) v6 (zs ++ [(3, 0)]) := by
        unfold RowS
        rw [List.length_append, flatS_append]
        exact hown6
      have hs6 := hbR.size
      simp at hs6
      clear hown6 hgrow hat hbR hb6 hrow5 q6 q1 c1 c2
      gi_wp2
      refine ⟨by simp, .inl ⟨_, _, rfl, run_takeDeferred q7, ?_⟩⟩
      exact ⟨_, results_tmp rfl _ _ _, ⟨_, rfl, by rw [HM.out, ← HZ.out]; exact (q9.stay (fun k c hB _ => World.putObj_heap_other (by omega))).mono (by omega), Below.putObj q8 (by omega) _⟩⟩
    · exact hS.elim
end Go.Proofs.Ytcningdeocmbgaa
