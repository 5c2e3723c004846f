/- The mathematics of StepsTree: a run of steps over a list of trees. -/
import Derived.Test.YtcningdeocmbgaaSgA
import Derived.Test.YtcningdeocmbgaaStA
import Derived.Test.YtcningdeocmbgaaTxtA
namespace Go.Proofs.Ytcningdeocmbgaa
open Go.ChangeShapes Go.WideShapes Go.ChangeAt Go.RowKit Go.Deep
set_option maxRecDepth 100000
def Tr.sg : Tr → ByteArray | .node s _ _ => s
def signsT (Ts : List Tr) : List UInt8 := Ts.flatMap fun t => t.sg.data.toList
theorem OT.sg_tr (t : OT) : t.tr.sg = t.s := by rw [OT.tr_eq]; rfl
theorem signsL_tr (ts : List OT) : signsL ts = signsT (ts.map OT.tr) := by
  unfold signsL signsT
  rw [List.flatMap_map]
  congr 1
  funext t
  rw [OT.sg_tr]
/-- the rule of a number -/
def ruleIx (rs : List RuleT) (r : Int) : Option RuleT := if 0 ≤ r then rs[r.toNat]? else none
/-- the last trees are made one by a rule -/
def joinT (rs : List RuleT) (Ts : List Tr) (r : Int) : Option (List Tr) :=
  match ruleIx rs r with
  | none => none
  | some x => if x.2.size ≤ Ts.length ∧ signsT (Ts.drop (Ts.length - x.2.size)) = x.2.data.toList then some (Ts.take (Ts.length - x.2.size) ++ [.node x.1 r (Ts.drop (Ts.length - x.2.size))]) else none
def leafT (s : ByteArray) (n : Nat) : Tr := .node (bytesOf [s.data.toList.getD n 0]) (-1) []
/-- one step: what was read, and the trees -/
def doT (rs : List RuleT) (s : ByteArray) (q : Nat × List Tr) (z : StpT) : Option (Nat × List Tr) :=
  if z.1 = 2 then (match joinT rs q.2 z.2 with | none => none | some Ts => some (q.1, Ts))
  else if z = (1, 0) ∧ q.1 < s.size then some (q.1 + 1, q.2 ++ [leafT s q.1]) else none
def runT (rs : List RuleT) (s : ByteArray) : List StpT → Nat × List Tr → Option (Nat × List Tr)
  | [], q => some q
  | z :: zs, q => match doT rs s q z with | none => none | some q' => runT rs s zs q'
theorem runT_append (rs : List RuleT) (s : ByteArray) : ∀ (zs ys : List StpT) (q : Nat × List Tr), runT rs s (zs ++ ys) q = match runT rs s zs q with | none => none | some q' => runT rs s ys q'
  | [], ys, q => rfl
  | z :: zs, ys, q => by
    rw [List.cons_append, runT, runT]
    cases doT rs s q z with
    | none => rfl
    | some q' => exact runT_append rs s zs ys q'
def runTo (rs : List RuleT) (s : ByteArray) (zs : List StpT) (k : Nat) : Option (Nat × List Tr) := runT rs s (zs.take k) (0, [])
theorem runTo_zero (rs : List RuleT) (s : ByteArray) (zs : List StpT) : runTo rs s zs 0 = some (0, []) := rfl
theorem runTo_succ {rs : List RuleT} {s : ByteArray} {zs : List StpT} {k : Nat} (h : k < zs.length) {q : Nat × List Tr} (hq : runTo rs s zs k = some q) : runTo rs s zs (k + 1) = doT rs s q zs[k] := by
  unfold runTo at hq ⊢
  rw [List.take_succ_eq_append_getElem h, runT_append, hq]
  show runT rs s [zs[k]] q = _
  rw [runT]
  cases doT rs s q zs[k] <;> rfl
theorem runTo_none {rs : List RuleT} {s : ByteArray} {zs : List StpT} {k L : Nat} (hk : k ≤ L) (h : runTo rs s zs k = none) : runTo rs s zs L = none := by
  have e : zs.take L = zs.take k ++ (zs.take L).drop k := by
    have := List.take_append_drop k (zs.take L)
    rw [List.take_take, Nat.min_eq_left hk] at this
    exact this.symm
  unfold runTo at h ⊢
  rw [e, runT_append, h]
/-- the tree of steps, if they describe one -/
def stepsTreeM (st : ByteArray) (rs : List RuleT) (s : ByteArray) (zs : List StpT) : Option Tr :=
  if gramOkB st rs = true ∧ textB s = true ∧ zs.length ≤ 201 ∧ zs[zs.length - 1]? = some (3, 0) then
    match runTo rs s zs (zs.length - 1) with
    | none => none
    | some q => if q.1 = s.size ∧ signsT q.2 = st.data.toList then q.2.head? else none
  else none
/-- what holds of every state -/
structure StOk (s : ByteArray) (i : Nat) (q : Nat × List Tr) : Prop where
  read : q.1 ≤ s.size
  len : q.2.length ≤ i
  sg : ∀ T ∈ q.2, T.sg.size = 1
  sz : (q.2.map Tr.sz).sum ≤ i
theorem StOk.zero (s : ByteArray) : StOk s 0 (0, []) := ⟨Nat.zero_le _, Nat.le_refl _, fun T h => (by cases h), Nat.le_refl _⟩
theorem one_bytes (c : UInt8) : (bytesOf [c]).size = 1 := rfl
theorem StOk.next {rs : List RuleT} {s : ByteArray} {i : Nat} {q q' : Nat × List Tr} {z : StpT} (h : StOk s i q) (hr : ∀ x ∈ rs, x.1.size = 1) (hd : doT rs s q z = some q') : StOk s (i + 1) q' := by
  unfold doT at hd
  split at hd
  · split at hd
    · cases hd
    · rename_i Ts hj
      simp only [Option.some.injEq] at hd
      subst hd
      unfold joinT at hj
      split at hj
      · cases hj
      · rename_i x hx
        split at hj
        case isFalse => cases hj
        case isTrue hc =>
          simp only [Option.some.injEq] at hj
          subst hj
          have hxm : x ∈ rs := by
            unfold ruleIx at hx
            split at hx
            · exact List.mem_of_getElem? hx
            · cases hx
          refine ⟨h.read, ?_, fun T hT => ?_, ?_⟩
          · have := h.len; simp; omega
          · rcases List.mem_append.1 hT with hT | hT
            · exact h.sg T (List.mem_of_mem_take hT)
            · rw [List.mem_singleton] at hT
              subst hT
              exact hr x hxm
          · have e : (q.2.map Tr.sz).sum = ((q.2.take (q.2.length - x.2.size)).map Tr.sz).sum + ((q.2.drop (q.2.length - x.2.size)).map Tr.sz).sum := by
              rw [← List.sum_append, ← List.map_append, List.take_append_drop]
            have := h.sz
            simp only [List.map_append, List.sum_append, List.map_cons, List.map_nil, List.sum_cons, List.sum_nil, Tr.sz]
            omega
  · split at hd
    case isFalse => cases hd
    case isTrue hc =>
      simp only [Option.some.injEq] at hd
      subst hd
      refine ⟨hc.2, ?_, fun T hT => ?_, ?_⟩
      · have := h.len; simp; omega
      · rcases List.mem_append.1 hT with hT | hT
        · exact h.sg T hT
        · rw [List.mem_singleton] at hT
          subst hT
          exact one_bytes _
      · have := h.sz
        simp only [List.map_append, List.sum_append, List.map_cons, List.map_nil, List.sum_cons, List.sum_nil, leafT, Tr.sz]
        omega
theorem gram_left {st : ByteArray} {rs : List RuleT} (h : gramOkB st rs = true) : st.size = 1 ∧ ∀ x ∈ rs, x.1.size = 1 := by
  obtain ⟨h1, _, h3⟩ := gramOk_facts h
  refine ⟨h1, fun x hx => ?_⟩
  obtain ⟨i, hi, rfl⟩ := List.getElem_of_mem hx
  exact (h3 i hi).1
theorem head_of_signs {st : ByteArray} {Ts : List Tr} (h1 : st.size = 1) (h : signsT Ts = st.data.toList) : ∃ T l, Ts = T :: l := by
  cases Ts with
  | nil =>
    have h3 : (0 : Nat) = st.data.toList.length := congrArg List.length h
    have h2 : st.data.toList.length = st.size := by simp
    omega
  | cons T l => exact ⟨T, l, rfl⟩
end Go.Proofs.Ytcningdeocmbgaa
