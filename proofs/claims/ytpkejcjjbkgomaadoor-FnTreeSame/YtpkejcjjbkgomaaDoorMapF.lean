/- Maps keyed by structs, as partial functions: look-up, store, and an entry that is found and then stored into. -/
import Derived.Test.YtpkejcjjbkgomaaDoorRowG
import Derived.WideKeyEntry
import Derived.DeepKeys4
namespace Go.Proofs.YtpkejcjjbkgomaaDoor
open Go.ChangeShapes Go.WideShapes Go.ChangeAt Go.RowKit
open Go.WideMaps (KeyLaw)
open Go.ChangeMaps (modify_eq_set)
open Classical
set_option maxRecDepth 100000
section
variable {P : Program} {k t e : TypeId} {w : World} {b : Nat} {F : Value → Option Value}
/-- block b is a map, and it holds just what F says -/
def MapF (P : Program) (k : TypeId) (w : World) (b : Nat) (F : Value → Option Value) : Prop :=
  ∃ es ck, w.heap[b]? = some (.map es ck) ∧ MapKept.Stamped es ck ∧ (∀ x ∈ es.toList, ∃ l, Go.keyOf P k x.key = some l) ∧ ∀ x v, F x = some v ↔ ∃ y ∈ es.toList, y.key = x ∧ y.val = v
noncomputable def putF (F : Value → Option Value) (x v : Value) : Value → Option Value := fun y => if y = x then some v else F y
theorem putF_same (F : Value → Option Value) (x v : Value) : putF F x v x = some v := if_pos rfl
theorem putF_other (F : Value → Option Value) {x y : Value} (v : Value) (h : y ≠ x) : putF F x v y = F y := if_neg h
theorem MapF.lt (h : MapF P k w b F) : b < w.heap.size := by
  obtain ⟨es, ck, hb, _⟩ := h
  exact (Array.getElem?_eq_some_iff.1 hb).1
theorem MapF.keep {w' : World} (h : MapF P k w b F) (hk : w'.heap[b]? = w.heap[b]?) : MapF P k w' b F := by
  obtain ⟨es, ck, hb, h⟩ := h
  exact ⟨es, ck, hk.trans hb, h⟩
theorem MapF.below {w' : World} (h : MapF P k w b F) (hb : Below w.heap.size w w') : MapF P k w' b F := h.keep (hb.block b h.lt)
theorem MapF.made (w : World) : MapF P k (w.alloc (.map #[] 0)) w.heap.size (fun _ => none) :=
  ⟨#[], 0, (MapKept.heap_alloc w _).1, MapKept.stamped_empty 0, by simp, by simp⟩
theorem stamped_key {es : Array MapEntry} {ck : Nat} (h : MapKept.Stamped es ck) {x y : MapEntry} (hx : x ∈ es.toList) (hy : y ∈ es.toList) (he : x.key = y.key) : x = y := by
  have hp := ((MapKept.stamped_iff es ck).1 h).2.2
  obtain ⟨i, hi, rfl⟩ := List.getElem_of_mem hx
  obtain ⟨j, hj, rfl⟩ := List.getElem_of_mem hy
  rw [List.pairwise_iff_getElem] at hp
  rcases Nat.lt_trichotomy i j with h1 | h1 | h1
  · exact absurd he (hp i j hi hj h1)
  · subst h1; rfl
  · exact absurd he.symm (hp j i hj hi h1)
theorem MapF.find (h : MapF P k w b F) (K : KeyLaw P k) {x : Value} {l : Lit} (hx : Go.keyOf P k x = some l) :
    ∃ es ck, w.heap[b]? = some (.map es ck) ∧ MapKept.Stamped es ck ∧ (∀ x ∈ es.toList, ∃ l, Go.keyOf P k x.key = some l) ∧ (∀ x v, F x = some v ↔ ∃ y ∈ es.toList, y.key = x ∧ y.val = v) ∧
      ((F x = none ∧ (Instr.findKey k x es.toList).run P w = .ok none w ∧ ∀ y ∈ es.toList, y.key ≠ x) ∨ ∃ j y, F x = some y.val ∧ (Instr.findKey k x es.toList).run P w = .ok (some (j, y.val)) w ∧ es.toList[j]? = some y ∧ y.key = x) := by
  obtain ⟨es, ck, hb, hs, hk, hF⟩ := h
  refine ⟨es, ck, hb, hs, hk, hF, ?_⟩
  rcases K.find w hx es.toList hk with ⟨h1, h2⟩ | ⟨j, y, h1, h2, h3⟩
  · refine .inl ⟨?_, h1, h2⟩
    cases hf : F x with
    | none => rfl
    | some v =>
      obtain ⟨y, hy, e1, _⟩ := (hF x v).1 hf
      exact absurd e1 (h2 y hy)
  · exact .inr ⟨j, y, (hF x y.val).2 ⟨y, List.mem_of_getElem? h2, h3, rfl⟩, h1, h2, h3⟩
theorem MapF.lookup (h : MapF P k w b F) (K : KeyLaw P k) (ht : P.underlying t = some (.map k e)) {z : Value} (hz : (zeroValue e).run P w = .ok z w) {x : Value} {l : Lit} (hx : Go.keyOf P k x = some l) :
    (Instr.lookup t (.map (some b)) x false).run P w = .ok ((F x).getD z) w := by
  obtain ⟨es, ck, hb, _, _, _, h | ⟨j, y, h0, h1, _⟩⟩ := h.find K hx
  · simp [Instr.lookup, run_underlying ht, MapKept.run_getObj_map hb, K.check w _ hx, h.1, h.2.1, hz]
  · simp [Instr.lookup, run_underlying ht, MapKept.run_getObj_map hb, K.check w _ hx, h0, h1]
theorem MapF.lookup2 (h : MapF P k w b F) (K : KeyLaw P k) (ht : P.underlying t = some (.map k e)) {z : Value} (hz : (zeroValue e).run P w = .ok z w) {x : Value} {l : Lit} (hx : Go.keyOf P k x = some l) :
    (Instr.lookup t (.map (some b)) x true).run P w = .ok (.tuple #[(F x).getD z, .bool (F x).isSome]) w := by
  obtain ⟨es, ck, hb, _, _, _, h | ⟨j, y, h0, h1, _⟩⟩ := h.find K hx
  · simp [Instr.lookup, run_underlying ht, MapKept.run_getObj_map hb, K.check w _ hx, h.1, h.2.1, hz]
  · simp [Instr.lookup, run_underlying ht, MapKept.run_getObj_map hb, K.check w _ hx, h0, h1]
/-- the world with another map at block b -/
def setM (w : World) (b : Nat) (es : Array MapEntry) (ck : Nat) : World := { w with heap := w.heap.setIfInBounds b (.map es ck) }
theorem setM_only {es0 : Array MapEntry} {ck0 : Nat} (_ : w.heap[b]? = some (.map es0 ck0)) (es : Array MapEntry) (ck : Nat) : OnlyG b w (setM w b es ck) :=
  ⟨rfl, rfl, rfl, by simp [setM], fun j _ hR => by simp only [setM]; rw [Array.getElem?_setIfInBounds_ne (fun e => hR e.symm)]⟩
theorem setM_at {es0 : Array MapEntry} {ck0 : Nat} (hb : w.heap[b]? = some (.map es0 ck0)) (es : Array MapEntry) (ck : Nat) : (setM w b es ck).heap[b]? = some (.map es ck) := by
  have := (Array.getElem?_eq_some_iff.1 hb).1
  simp only [setM]
  rw [Array.getElem?_setIfInBounds_self, if_pos this]
theorem push_F {es : Array MapEntry} {ck : Nat} (hs : MapKept.Stamped es ck) (hk : ∀ x ∈ es.toList, ∃ l, Go.keyOf P k x.key = some l) (hF : ∀ x v, F x = some v ↔ ∃ y ∈ es.toList, y.key = x ∧ y.val = v) {x v : Value} {l : Lit} (hx : Go.keyOf P k x = some l) (hn : ∀ y ∈ es.toList, y.key ≠ x) :
    MapKept.Stamped (es.push ⟨x, v, ck⟩) (ck + 1) ∧ (∀ x' ∈ (es.push ⟨x, v, ck⟩).toList, ∃ l, Go.keyOf P k x'.key = some l) ∧ ∀ x' v', putF F x v x' = some v' ↔ ∃ y ∈ (es.push ⟨x, v, ck⟩).toList, y.key = x' ∧ y.val = v' := by
  refine ⟨MapKept.stamped_push hs hn, fun y hy => ?_, fun x' v' => ?_⟩
  · rw [Array.toList_push, List.mem_append, List.mem_singleton] at hy
    rcases hy with hy | rfl
    · exact hk y hy
    · exact ⟨l, hx⟩
  · rw [Array.toList_push]
    simp only [List.mem_append, List.mem_singleton]
    by_cases e : x' = x
    · subst e
      rw [putF_same]
      constructor
      · intro h; cases h; exact ⟨_, .inr rfl, rfl, rfl⟩
      · rintro ⟨y, hy | rfl, e1, e2⟩
        · exact absurd e1 (hn y hy)
        · subst e2; rfl
    · rw [putF_other F v e, hF]
      constructor
      · rintro ⟨y, hy, h⟩; exact ⟨y, .inl hy, h⟩
      · rintro ⟨y, hy | rfl, e1, e2⟩
        · exact ⟨y, hy, e1, e2⟩
        · exact absurd e1.symm e
theorem modify_F {es : Array MapEntry} {ck : Nat} (hs : MapKept.Stamped es ck) (hk : ∀ x ∈ es.toList, ∃ l, Go.keyOf P k x.key = some l) (hF : ∀ x v, F x = some v ↔ ∃ y ∈ es.toList, y.key = x ∧ y.val = v) {x v : Value} {j : Nat} {y : MapEntry} (hj : es.toList[j]? = some y) (hy : y.key = x) (f : MapEntry → MapEntry) (hf : f y = ⟨x, v, y.born⟩) (hf2 : ∀ z, (f z).born = z.born) :
    MapKept.Stamped (es.modify j f) ck ∧ (∀ x' ∈ (es.modify j f).toList, ∃ l, Go.keyOf P k x'.key = some l) ∧ ∀ x' v', putF F x v x' = some v' ↔ ∃ z ∈ (es.modify j f).toList, z.key = x' ∧ z.val = v' := by
  have hl : (es.modify j f).toList = es.toList.set j ⟨x, v, y.born⟩ := by rw [Array.toList_modify, modify_eq_set _ _ _ _ hj, hf]
  have hjl : j < es.toList.length := (List.getElem?_eq_some_iff.1 hj).1
  have hyj : es.toList[j] = y := (List.getElem?_eq_some_iff.1 hj).2
  have hmem : ∀ z, z ∈ (es.modify j f).toList ↔ z = ⟨x, v, y.born⟩ ∨ (z ∈ es.toList ∧ z.key ≠ x) := by
    intro z
    rw [hl, List.mem_iff_getElem]
    constructor
    · rintro ⟨i, hi, rfl⟩
      rw [List.length_set] at hi
      by_cases e : j = i
      · subst e; left; simp
      · right
        rw [List.getElem_set_ne e]
        refine ⟨List.getElem_mem hi, fun e1 => e ?_⟩
        have hp := ((MapKept.stamped_iff es ck).1 hs).2.2
        rw [List.pairwise_iff_getElem] at hp
        rcases Nat.lt_trichotomy i j with h1 | h1 | h1
        · exact absurd (by rw [hyj]; rw [e1, hy]) (hp i j hi hjl h1)
        · exact h1.symm
        · exact absurd (by rw [hyj]; rw [e1, hy]) (hp j i hjl hi h1)
    · rintro (rfl | ⟨h1, h2⟩)
      · exact ⟨j, by simpa using hjl, by simp⟩
      · obtain ⟨i, hi, rfl⟩ := List.getElem_of_mem h1
        have e : j ≠ i := by
          rintro rfl
          exact h2 (by rw [hyj, hy])
        exact ⟨i, by simpa using hi, by rw [List.getElem_set_ne e]⟩
  refine ⟨MapKept.stamped_modify hs j f (fun z _ => hf2 z) (fun z _ hz => ?_), fun z hz => ?_, fun x' v' => ?_⟩
  · rw [← Array.getElem?_toList, hj] at hz
    cases hz
    rw [hf, hy]
  · rcases (hmem z).1 hz with rfl | h
    · obtain ⟨l, hl⟩ := hk y (List.mem_of_getElem? hj)
      exact ⟨l, by rw [← hl, hy]⟩
    · exact hk z h.1
  · by_cases e : x' = x
    · subst e
      rw [putF_same]
      constructor
      · intro h; cases h; exact ⟨_, (hmem _).2 (.inl rfl), rfl, rfl⟩
      · rintro ⟨z, hz, e1, e2⟩
        rcases (hmem z).1 hz with rfl | h
        · subst e2; rfl
        · exact absurd e1 h.2
    · rw [putF_other F v e, hF]
      constructor
      · rintro ⟨z, hz, e1, e2⟩; exact ⟨z, (hmem z).2 (.inr ⟨hz, by rw [e1]; exact e⟩), e1, e2⟩
      · rintro ⟨z, hz, e1, e2⟩
        rcases (hmem z).1 hz with rfl | h
        · exact absurd e1.symm e
        · exact ⟨z, h.1, e1, e2⟩
theorem MapF.update (h : MapF P k w b F) (K : KeyLaw P k) (ht : P.underlying t = some (.map k e)) {x : Value} {l : Lit} (hx : Go.keyOf P k x = some l) (v : Value) :
    ∃ w', (Instr.mapUpdate t (.map (some b)) x v).run P w = .ok () w' ∧ MapF P k w' b (putF F x v) ∧ OnlyG b w w' ∧ w'.heap.size = w.heap.size := by
  obtain ⟨es, ck, hb, hs, hk, hF, ⟨_, h1, h2⟩ | ⟨j, y, _, h1, h2, h3⟩⟩ := h.find K hx
  · refine ⟨setM w b (es.push ⟨x, v, ck⟩) (ck + 1), ?_, ⟨_, _, setM_at hb _ _, push_F hs hk hF hx h2⟩, setM_only hb _ _, by simp [setM]⟩
    simp [Instr.mapUpdate, run_underlying ht, MapKept.run_getObj_map hb, K.check w false hx, h1, MapKept.run_setObj_map _ hb, setM]
  · have hj : es[j]? = some y := by simpa using h2
    refine ⟨setM w b (es.modify j fun z => { z with key := x, val := v }) ck, ?_, ⟨_, _, setM_at hb _ _, modify_F hs hk hF h2 h3 _ (by cases y; rfl) (fun _ => rfl)⟩, setM_only hb _ _, by simp [setM]⟩
    simp [Instr.mapUpdate, run_underlying ht, MapKept.run_getObj_map hb, K.check w false hx, h1, hj, h3, K.stays w hx, MapKept.run_setObj_map _ hb, setM]
theorem MapF.entry (h : MapF P k w b F) (K : KeyLaw P k) (ht : P.underlying t = some (.map k e)) {z : Value} (hz : ∀ u : World, (zeroValue e).run P u = .ok z u) {x : Value} {l : Lit} (hx : Go.keyOf P k x = some l) :
    ∃ (st : Nat) (w1 : World), (Instr.mapEntry t (.map (some b)) x).run P w = .ok (.tuple #[(F x).getD z, .int .i64 st]) w1 ∧ MapF P k w1 b (putF F x ((F x).getD z)) ∧ OnlyG b w w1 ∧ w1.heap.size = w.heap.size ∧
      ∀ (w2 : World) (v : Value), w2.heap[b]? = w1.heap[b]? → ∃ w3, (Instr.entryStore t (.map (some b)) (.int .i64 st) v).run P w2 = .ok () w3 ∧ MapF P k w3 b (putF F x v) ∧ OnlyG b w2 w3 ∧ w3.heap.size = w2.heap.size := by
  obtain ⟨es, ck, hb, hs, hk, hF, ⟨h0, h1, h2⟩ | ⟨j, y, h0, h1, h2, h3⟩⟩ := h.find K hx
  · obtain ⟨s1, s2, _⟩ := (MapKept.stamped_iff es ck).1 hs
    refine ⟨ck, setM w b (es.push ⟨x, z, ck⟩) (ck + 1), ?_, ⟨_, _, setM_at hb _ _, by rw [h0]; exact push_F hs hk hF hx h2⟩, setM_only hb _ _, by simp [setM], fun w2 v hw2 => ?_⟩
    · simp [Instr.mapEntry, run_underlying ht, MapKept.run_getObj_map hb, K.check w false hx, h1, hz, h0, MapKept.run_setObj_map _ hb, setM, goInt]
    · rw [setM_at hb] at hw2
      have hidx : (es.push ⟨x, z, ck⟩).findIdx? (fun e => ((e.born : Nat) : Int) == ((ck : Nat) : Int)) = some es.size := by
        rw [WideElems.findIdx_arr]
        have := WideElems.findIdx_born (l := (es.push ⟨x, z, ck⟩).toList) (j := es.size) (e0 := ⟨x, z, ck⟩) (by
          simp only [Array.toList_push, List.map_append, List.map_cons, List.map_nil]
          refine List.nodup_append.2 ⟨s2, by simp, fun a ha c hc e1 => ?_⟩
          simp only [List.mem_singleton] at hc
          obtain ⟨x, hx, rfl⟩ := List.mem_map.1 ha
          have := s1 x hx
          omega) (by simp)
        exact this
      have hmod : (es.push ⟨x, z, ck⟩).modify es.size (fun e => { e with val := v }) = es.push ⟨x, v, ck⟩ := by
        apply Array.ext'
        rw [Array.toList_modify, Array.toList_push, Array.toList_push, ← Array.length_toList, WideElems.modify_last]
      refine ⟨setM w2 b (es.push ⟨x, v, ck⟩) (ck + 1), ?_, ⟨_, _, setM_at hw2 _ _, push_F hs hk hF hx h2⟩, setM_only hw2 _ _, by simp [setM]⟩
      simp [Instr.entryStore, MapKept.run_getObj_map hw2, asInt, asIntOf, hidx, hmod, MapKept.run_setObj_map _ hw2, setM]
  · obtain ⟨s1, s2, _⟩ := (MapKept.stamped_iff es ck).1 hs
    have hj : es[j]? = some y := by simpa using h2
    have hsame : es.modify j (fun e => { e with key := x }) = es := by
      apply Array.ext'
      rw [Array.toList_modify, modify_eq_set _ _ _ _ h2]
      have : ({ y with key := x } : MapEntry) = y := by rw [← h3]
      rw [this]
      exact WideElems.set_self _ _ _ h2
    have hput : ∀ x' v', putF F x y.val x' = some v' ↔ F x' = some v' := by
      intro x' v'
      by_cases e : x' = x
      · subst e; rw [putF_same, h0]
      · rw [putF_other F _ e]
    refine ⟨y.born, setM w b es ck, ?_, ⟨es, ck, setM_at hb _ _, hs, hk, fun x' v' => by rw [h0]; exact (hput x' v').trans (hF x' v')⟩, setM_only hb _ _, by simp [setM], fun w2 v hw2 => ?_⟩
    · simp [Instr.mapEntry, run_underlying ht, MapKept.run_getObj_map hb, K.check w false hx, h1, hj, h0, h3, K.stays w hx, hsame, MapKept.run_setObj_map _ hb, setM, goInt]
    · rw [setM_at hb] at hw2
      have hidx : es.findIdx? (fun e => ((e.born : Nat) : Int) == ((y.born : Nat) : Int)) = some j := by
        rw [WideElems.findIdx_arr]
        exact WideElems.findIdx_born s2 h2
      refine ⟨setM w2 b (es.modify j fun e => { e with val := v }) ck, ?_, ⟨_, _, setM_at hw2 _ _, modify_F hs hk hF h2 h3 _ (by rw [← h3]) (fun _ => rfl)⟩, setM_only hw2 _ _, by simp [setM]⟩
      simp [Instr.entryStore, MapKept.run_getObj_map hw2, asInt, asIntOf, hidx, MapKept.run_setObj_map _ hw2, setM]
end
end Go.Proofs.YtpkejcjjbkgomaaDoor
