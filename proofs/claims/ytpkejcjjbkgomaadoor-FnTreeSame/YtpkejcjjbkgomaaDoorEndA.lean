/- Maps keyed by pointers to nodes; a tree made in plain memory. -/
import Derived.Test.YtpkejcjjbkgomaaDoorTokA
import Derived.LaidEql
import Derived.MapKept
namespace Go.Proofs.YtpkejcjjbkgomaaDoor
open Go.ChangeShapes Go.WideShapes Go.ChangeAt Go.RowKit Go.Deep
set_option maxRecDepth 100000
def PlainB (w : World) (k : Nat) : Prop := ∃ c t, w.heap[k]? = some (.cells c t (0, 0))
theorem PlainB.of_block {w w' : World} {k : Nat} (h : PlainB w k) (e : w'.heap[k]? = w.heap[k]?) : PlainB w' k := by
  obtain ⟨c, t, h⟩ := h
  exact ⟨c, t, e.trans h⟩
theorem infoTree' : (Tryd.prog.info? 29).map (fun i => i.size) = some 3 := by kernel_rfl
theorem equalIn_same (d : Nat) (a : Addr) (w : World) : (Op.equalIn (d + 1) 109 (.pointer (some a)) (.pointer (some a))).run Tryd.prog w = .ok true w := by
  obtain ⟨i, hi, _⟩ := Option.map_eq_some_iff.1 infoTree'
  simp [Op.equalIn, run_underlying Tryd.underlying109, sizeOf, typeInfo, hi, run_sameAddr_same]
theorem equalIn_other (d : Nat) {a b : Addr} {w : World} (hne : a ≠ b) (ha : PlainB w a.block) (hb : PlainB w b.block) : (Op.equalIn (d + 1) 109 (.pointer (some a)) (.pointer (some b))).run Tryd.prog w = .ok false w := by
  obtain ⟨i, hi, hs⟩ := Option.map_eq_some_iff.1 infoTree'
  obtain ⟨c, t, ha⟩ := ha
  obtain ⟨c', t', hb⟩ := hb
  simp [Op.equalIn, run_underlying Tryd.underlying109, sizeOf, typeInfo, hi, hs, run_sameAddr_other w hne ha hb]
theorem equal_same (a : Addr) (w : World) : (Op.equal 109 (.pointer (some a)) (.pointer (some a))).run Tryd.prog w = .ok true w := equalIn_same 9999 a w
theorem equal_other {a b : Addr} {w : World} (hne : a ≠ b) (ha : PlainB w a.block) (hb : PlainB w b.block) : (Op.equal 109 (.pointer (some a)) (.pointer (some b))).run Tryd.prog w = .ok false w := equalIn_other 9999 hne ha hb
theorem asking_none (k : Value) (w : World) : ∀ (l : List MapEntry) (i : Nat), (∀ e ∈ l, (Op.equal 109 k e.key).run Tryd.prog w = .ok false w) → (Instr.findAsking 109 k l i).run Tryd.prog w = .ok none w
  | [], i, _ => by simp [Instr.findAsking]
  | e :: l, i, h => by
    have h1 := h e (List.mem_cons_self ..)
    have h2 := asking_none k w l (i + 1) (fun x hx => h x (List.mem_cons_of_mem _ hx))
    simp [Instr.findAsking, h1, h2]
theorem asking_last (k : Value) (w : World) (x : MapEntry) (hx : (Op.equal 109 k x.key).run Tryd.prog w = .ok true w) : ∀ (l : List MapEntry) (i : Nat), (∀ e ∈ l, (Op.equal 109 k e.key).run Tryd.prog w = .ok false w) → (Instr.findAsking 109 k (l ++ [x]) i).run Tryd.prog w = .ok (some (i + l.length, x.val)) w
  | [], i, _ => by simp [Instr.findAsking, hx]
  | e :: l, i, h => by
    have h1 := h e (List.mem_cons_self ..)
    have h2 := asking_last k w x hx l (i + 1) (fun x hx => h x (List.mem_cons_of_mem _ hx))
    simp [Instr.findAsking, h1, h2]
    omega
theorem find_asks (a : Option Addr) (l : List MapEntry) (w : World) (r : Option (Nat × Value)) (h : (Instr.findAsking 109 (.pointer a) l 0).run Tryd.prog w = .ok r w) : (Instr.findKey 109 (.pointer a) l).run Tryd.prog w = .ok r w := by
  cases l with
  | nil =>
    simp only [Instr.findAsking, Sem.run_pure, Result.ok.injEq, and_true] at h
    subst h
    simp [Instr.findKey, run_underlying Tryd.underlying109, Instr.findNow]
  | cons e l => simp [Instr.findKey, run_underlying Tryd.underlying109, Instr.findNow, Instr.sameNow, h]
theorem check_at (d : Nat) (em : Bool) (a : Option Addr) (w : World) : (Instr.checkKey em (d + 1) 109 (.pointer a)).run Tryd.prog w = .ok () w := by
  unfold Instr.checkKey
  simp [run_underlying Tryd.underlying109]
theorem check_ptr (em : Bool) (a : Option Addr) (w : World) : (Instr.checkKey em 10000 109 (.pointer a)).run Tryd.prog w = .ok () w := check_at 9999 em a w
theorem infoBool : (Tryd.prog.info? 4).map (fun i => i.zero) = some (some (.bool false)) := by kernel_rfl
theorem lookup_none {mb : Nat} {es : Array MapEntry} {ck : Nat} {a : Option Addr} {w : World} (hm : w.heap[mb]? = some (.map es ck)) (h : ∀ e ∈ es.toList, (Op.equal 109 (.pointer a) e.key).run Tryd.prog w = .ok false w) :
    (Instr.lookup 132 (.map (some mb)) (.pointer a) false).run Tryd.prog w = .ok (.bool false) w := by
  obtain ⟨i, hi, hz⟩ := Option.map_eq_some_iff.1 infoBool
  have hf := find_asks a es.toList w none (asking_none _ w es.toList 0 h)
  simp [Instr.lookup, run_underlying Tryd.underlying132, MapKept.run_getObj_map hm, check_ptr, hf, zeroValue, typeInfo, hi, hz]
theorem update_new {mb : Nat} {es : Array MapEntry} {ck : Nat} {a : Option Addr} {v : Value} {w : World} (hm : w.heap[mb]? = some (.map es ck)) (h : ∀ e ∈ es.toList, (Op.equal 109 (.pointer a) e.key).run Tryd.prog w = .ok false w) :
    (Instr.mapUpdate 132 (.map (some mb)) (.pointer a) v).run Tryd.prog w = .ok () (w.putObj mb (.map (es.push { key := .pointer a, val := v, born := ck }) (ck + 1))) := by
  have hf := find_asks a es.toList w none (asking_none _ w es.toList 0 h)
  simp [Instr.mapUpdate, run_underlying Tryd.underlying132, MapKept.run_getObj_map hm, check_ptr, hf, MapKept.run_setObj_map _ hm, World.putObj]
theorem delete_last {mb : Nat} {es : Array MapEntry} {ck : Nat} {a : Option Addr} {w : World} {l : List MapEntry} {x : MapEntry} (hm : w.heap[mb]? = some (.map es ck)) (hes : es.toList = l ++ [x]) (hx : (Op.equal 109 (.pointer a) x.key).run Tryd.prog w = .ok true w) (h : ∀ e ∈ l, (Op.equal 109 (.pointer a) e.key).run Tryd.prog w = .ok false w) (ty : TypeId) :
    (Builtin.delete_ #[132, 109] ty #[.map (some mb), .pointer a]).run Tryd.prog w = .ok (.tuple #[]) (w.putObj mb (.map (es.eraseIdxIfInBounds l.length) ck)) := by
  have hf := find_asks a es.toList w (some (l.length, x.val)) (by rw [hes]; have := asking_last (.pointer a) w x hx l 0 h; rwa [Nat.zero_add] at this)
  simp [Builtin.delete_, run_underlying Tryd.underlying132, MapKept.run_getObj_map hm, check_ptr, hf, MapKept.run_setObj_map _ hm, World.putObj]
theorem erase_last {es : Array MapEntry} {l : List MapEntry} {x : MapEntry} (h : es.toList = l ++ [x]) : (es.eraseIdxIfInBounds l.length).toList = l := by
  have hs : es.size = l.length + 1 := by rw [← Array.length_toList, h]; simp
  rw [Array.eraseIdxIfInBounds, dif_pos (by omega), Array.toList_eraseIdx, h, List.eraseIdx_append_of_length_le (Nat.le_refl _)]
  simp
/-- a tree in plain memory, all in blocks of A -/
def TrQ (w : World) (A : Nat → Prop) (v : Value) (T : Tr) : Prop := ∃ (s : ByteArray) (r : Int) (ps : List PT) (a : Option Addr) (cap : Nat) (M : Nat → Prop), v = .agg #[.string s, .int .i64 r, .slice a ps.length cap] ∧ T = .node s r (ps.map PT.tr) ∧ s.size ≤ maxLen ∧ (Lit.int .i64 r).wf = true ∧ ps.length ≤ maxLen ∧ ps.length ≤ cap ∧
  (∀ i (h : i < ps.length), ∃ g off, a = some ⟨g, off, none⟩ ∧ ps[i].b = g ∧ ps[i].o = off + i * 3) ∧ (∀ i (h : i < ps.length), PtIn w M ps[i]) ∧ ∀ k, M k → A k ∧ PlainB w k
/-- the same, from the block B on -/
def TrP (w : World) (B : Nat) (v : Value) (T : Tr) : Prop := TrQ w (fun k => B ≤ k) v T
theorem PlainB.lt {w : World} {k : Nat} (h : PlainB w k) : k < w.heap.size := by
  obtain ⟨c, t, h⟩ := h
  exact (Array.getElem?_eq_some_iff.1 h).1
theorem TrQ.stay {w w' : World} {A : Nat → Prop} {v : Value} {T : Tr} (h : TrQ w A v T) (hb : ∀ k, A k → k < w.heap.size → w'.heap[k]? = w.heap[k]?) : TrQ w' A v T := by
  obtain ⟨s, r, ps, a, cap, M, e1, e2, h1, h2, h3, h4, h5, h6, h7⟩ := h
  have same : ∀ k, M k → w'.heap[k]? = w.heap[k]? := fun k hk => hb k (h7 k hk).1 (h7 k hk).2.lt
  exact ⟨s, r, ps, a, cap, M, e1, e2, h1, h2, h3, h4, h5, fun i hi => (h6 i hi).stay same (fun _ h => h), fun k hk => ⟨(h7 k hk).1, (h7 k hk).2.of_block (same k hk)⟩⟩
theorem TrQ.mono {w : World} {A A' : Nat → Prop} {v : Value} {T : Tr} (h : TrQ w A v T) (hA : ∀ k, A k → k < w.heap.size → A' k) : TrQ w A' v T := by
  obtain ⟨s, r, ps, a, cap, M, e1, e2, h1, h2, h3, h4, h5, h6, h7⟩ := h
  exact ⟨s, r, ps, a, cap, M, e1, e2, h1, h2, h3, h4, h5, h6, fun k hk => ⟨hA k (h7 k hk).1 (h7 k hk).2.lt, (h7 k hk).2⟩⟩
theorem TrP.stay {w w' : World} {B : Nat} {v : Value} {T : Tr} (h : TrP w B v T) (hb : ∀ k, B ≤ k → k < w.heap.size → w'.heap[k]? = w.heap[k]?) : TrP w' B v T := TrQ.stay h hb
theorem TrP.keep {w w' : World} {B : Nat} {v : Value} {T : Tr} (h : TrP w B v T) (hb : Below w.heap.size w w') : TrP w' B v T := h.stay fun k _ hk => hb.block k hk
theorem TrP.mono {w : World} {B B' : Nat} {v : Value} {T : Tr} (h : TrP w B v T) (hB : B' ≤ B) : TrP w B' v T := TrQ.mono h fun _ hk _ => Nat.le_trans hB hk
/-- a node with its place is a tree in memory -/
theorem PtIn.trIn {w : World} {M : Nat → Prop} {B : Nat} (hM : ∀ k, M k → B ≤ k ∧ k < w.heap.size) (m : Nat) : ∀ (t : PT), t.sz ≤ m → PtIn w M t → ∃ x, w.cell? ⟨t.b, t.o + 2, none⟩ = some x ∧ TrIn w B (.agg #[.string t.s, .int .i64 t.r, x]) t.tr := by
  induction m with
  | zero => intro t h; have := t.sz_pos; omega
  | succ m ih =>
    intro t h ht
    obtain ⟨a, cap, hb, c0, c1, c2, h1, h2, h3, h4, h5, h6⟩ := ht.open
    refine ⟨_, c2, ?_⟩
    rw [t.tr_eq]
    have hcl := TrIn.close (w := w) (B := B) (s := t.s) (r := t.r) (ks := t.ks.map PT.tr) (a := a) (cap := cap) h1 h2 (by simpa using h3) (by simpa using h4) (fun i hi => by
      have hi' : i < t.ks.length := by simpa using hi
      obtain ⟨g, off, e, eb, eo⟩ := h5 i hi'
      obtain ⟨x, d2, hx⟩ := ih t.ks[i] (by have := PT.sz_kid (List.getElem_mem hi'); omega) (h6 i hi')
      obtain ⟨_, _, hbk, d0, d1, _⟩ := (h6 i hi').open
      rw [eb, eo] at d0 d1 d2
      rw [eb] at hbk
      exact ⟨g, off, t.ks[i].s, t.ks[i].r, x, e, (hM _ hbk).1, (hM _ hbk).2, d0, d1, d2, by simpa using hx⟩)
    rw [List.length_map] at hcl
    exact hcl
theorem TrP.trB {w : World} {B : Nat} {v : Value} {T : Tr} (h : TrP w B v T) : TrIn w B v T := by
  obtain ⟨s, r, ps, a, cap, M, rfl, rfl, h1, h2, h3, h4, h5, h6, h7⟩ := h
  have hM : ∀ k, M k → B ≤ k ∧ k < w.heap.size := fun k hk => ⟨(h7 k hk).1, (h7 k hk).2.lt⟩
  have hcl := TrIn.close (w := w) (B := B) (s := s) (r := r) (ks := ps.map PT.tr) (a := a) (cap := cap) h1 h2 (by simpa using h3) (by simpa using h4) (fun i hi => by
    have hi' : i < ps.length := by simpa using hi
    obtain ⟨g, off, e, eb, eo⟩ := h5 i hi'
    obtain ⟨x, d2, hx⟩ := PtIn.trIn hM _ ps[i] (Nat.le_refl _) (h6 i hi')
    obtain ⟨_, _, hbk, d0, d1, _⟩ := (h6 i hi').open
    rw [eb, eo] at d0 d1 d2
    rw [eb] at hbk
    exact ⟨g, off, ps[i].s, ps[i].r, x, e, (hM _ hbk).1, (hM _ hbk).2, d0, d1, d2, by simpa using hx⟩)
  rw [List.length_map] at hcl
  exact hcl
theorem TrP.tr {w : World} {B : Nat} {v : Value} {T : Tr} (h : TrP w B v T) : TrIn w 0 v T := h.trB.mono (Nat.zero_le _)
theorem TrP.of_plain {w : World} {B : Nat} {v : Value} {T : Tr} (h : TrIn w B v T) (hp : PlainFrom B w) : TrP w B v T := by
  obtain ⟨s, r, ks, a, cap, rfl, rfl, hs, hr, hn, hc, HK⟩ := h.open
  obtain ⟨ps, e1, e2, e3⟩ := HK.pts (fun i hi b o s2 r2 x d0 d1 d2 hB2 hb2 ht => TrIn.pt _ (Nat.le_refl _) b o s2 r2 x d0 d1 d2 hB2 hb2 ht)
  have hl : ps.length = ks.length := by rw [← e1]; simp
  exact ⟨s, r, ps, a, cap, _, by rw [hl], by rw [e1], hs, hr, by omega, by omega, e2, e3, fun k hk => ⟨hk.1, hp k hk.1 hk.2⟩⟩
/-- the root laid into a new block -/
theorem TrP.root {w w' : World} {B tb : Nat} {s : ByteArray} {r : Int} {x : Value} {T : Tr} (h : TrP w B (.agg #[.string s, .int .i64 r, x]) T) (hb : ∀ g, g < w.heap.size → w'.heap[g]? = w.heap[g]?) (hbox : w'.heap[tb]? = some (.cells #[.string s, .int .i64 r, x] 29)) :
    ∃ (t : PT) (M : Nat → Prop), t.b = tb ∧ t.o = 0 ∧ t.tr = T ∧ PtIn w' M t ∧ (∀ k, M k → PlainB w' k) ∧ ∀ k, M k → k < w.heap.size ∨ k = tb := by
  obtain ⟨s', r', ps, a, cap, M, e, rfl, h1, h2, h3, h4, h5, h6, h7⟩ := h
  simp only [Value.agg.injEq, Array.mk.injEq, List.cons.injEq, Value.string.injEq, Value.int.injEq, true_and, and_true] at e
  obtain ⟨rfl, rfl, rfl⟩ := e
  have same : ∀ k, M k → w'.heap[k]? = w.heap[k]? := fun k hk => hb k (h7 k hk).2.lt
  refine ⟨.node tb 0 s r ps, fun k => M k ∨ k = tb, rfl, rfl, by rw [PT.tr], .node tb 0 s r ps a cap (.inr rfl) (by rw [cell_of_block hbox]; rfl) (by rw [cell_of_block hbox]; rfl) (by rw [cell_of_block hbox]; rfl) h1 h2 h3 h4 h5 (fun i hi => (h6 i hi).stay same (fun _ h => .inl h)), fun k hk => ?_, fun k hk => ?_⟩
  · rcases hk with hk | rfl
    · exact (h7 k hk).2.of_block (same k hk)
    · exact ⟨_, _, hbox⟩
  · rcases hk with hk | hk
    · exact .inl (h7 k hk).2.lt
    · exact .inr hk
end Go.Proofs.YtpkejcjjbkgomaaDoor
