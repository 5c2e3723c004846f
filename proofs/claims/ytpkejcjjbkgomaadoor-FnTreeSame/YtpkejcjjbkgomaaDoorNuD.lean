/- The contract of the program's add: the text of the kids' numbers. -/
import Derived.Test.YtpkejcjjbkgomaaDoorNuC
import Derived.Test.YtpkejcjjbkgomaaDoorShfI
import Derived.Laws.IdiomStrings
import Derived.Lib.BufferRead
import Derived.Deep.DeepCutAuto
import Derived.BigQuiet
import Derived.Deep.RegionHeld3
namespace Go.Proofs.YtpkejcjjbkgomaaDoor
open Go.ChangeShapes Go.WideShapes Go.ChangeAt Go.RowKit Go.Deep
set_option maxRecDepth 100000
theorem encK_take {js : List Nat} {i : Nat} (h : i < js.length) : encK (js.take (i + 1)) = encK (js.take i) ++ (Lib.decDigits js[i] ++ [44]) := by
  unfold encK
  rw [List.take_succ_eq_append_getElem h, List.flatMap_append]
  simp [encN]
theorem encK_len (N : Nat) : ∀ (js : List Nat), (∀ j ∈ js, j < N) → (encK js).length ≤ js.length * (N + 2)
  | [], _ => by simp [encK]
  | j :: js, h => by
    have h1 := encN_len j
    have h2 := h j (by simp)
    have h3 := encK_len N js (fun x hx => h x (List.mem_cons_of_mem _ hx))
    unfold encK at h3 ⊢
    rw [List.flatMap_cons, List.length_append, List.length_cons, Nat.succ_mul]
    omega
theorem encK_len_take {N : Nat} {js : List Nat} (h : ∀ j ∈ js, j < N) (i : Nat) : (encK (js.take i)).length ≤ js.length * (N + 2) := by
  have h1 := encK_len N (js.take i) (fun j hj => h j (List.mem_of_mem_take hj))
  have h2 : (js.take i).length ≤ js.length := by rw [List.length_take]; omega
  exact Nat.le_trans h1 (Nat.mul_le_mul_right _ h2)
theorem bc_append (a b : List UInt8) : Lib.byteCells (a ++ b) = Lib.byteCells a ++ Lib.byteCells b := by unfold Lib.byteCells; simp
theorem bc_len (a : List UInt8) : (Lib.byteCells a).length = a.length := by unfold Lib.byteCells; simp
/-- bytes of the call's own, from block B on -/
def TextO (w : World) (B : Nat) (v : Value) (l : List UInt8) : Prop := w.ownsRow B 5 1 v l.length (Lib.byteCells l)
theorem infoU8 : (Tryd.prog.info? 5).map (fun i => (i.zero, i.size, i.bytes)) = some (some (.int .u8 0), 1, 1) := by kernel_rfl
theorem convert_text {B : Nat} {v : Value} {l : List UInt8} {w : World} (h : TextO w B v l) : (convert 53 9 v).run Tryd.prog w = .ok (.string ⟨l.toArray⟩) w := by
  rcases h.2 with ⟨rfl, h0⟩ | ⟨g, cap, cur, rfl, _, hg, _, _, _, htk⟩
  · have : l = [] := List.eq_nil_of_length_eq_zero h0
    subst this
    exact Lib.run_convert_nil_bytes w _ _ 5 0 Tryd.underlying53 Tryd.underlying5 Tryd.underlying9
  · exact run_convert_bytes_back w _ _ 5 ⟨g, 0, none⟩ cap l Tryd.underlying53 Tryd.underlying5 Tryd.underlying9 (Lib.bytes_of_row hg (by simpa using htk))
theorem zeroM (w : World) : (zeroValue 3).run Tryd.prog w = .ok (.int .i64 0) w := by kernel_rfl
/-- what add gives -/
def AddGives (w w' : World) (S : List Nat) (tp : Nat) (L : List Tr) (t : Tr) (e : Ending) : Prop :=
  ∃ i S', e = .returned (.int .i64 ((i : Nat) : Int)) ∧ TabM w' S' tp (addL L t) ∧ (addL L t)[i]? = some t ∧ Apart S S' w w'
theorem apart_below {S : List Nat} {w w' : World} (h : Below w.heap.size w w') : Apart S S w w' :=
  ⟨h.os, h.tape, h.output, h.size, fun k hk _ => h.block k hk, fun _ h => .inl h⟩
theorem apart_add {S S' S2 : List Nat} {w w' : World} (h : Apart S S' w w') (h2 : ∀ k ∈ S2, k ∈ S' ∨ (w.heap.size ≤ k ∧ k < w'.heap.size)) : Apart S S2 w w' :=
  ⟨h.os, h.tape, h.output, h.size, h.block, fun k hk => by
    rcases h2 k hk with h3 | h3
    · exact h.own k h3
    · exact .inr h3⟩
/-- a copy of numbers -/
theorem cloneK_any (a : Option Addr) (cap : Nat) (js : List Nat) (w : World) (H : KidR w a js) (hl : js.length ≤ 2000000) :
    Calls Tryd.prog 112 #[.slice a js.length cap] w fun e w' => ∃ a' c', e = .returned (.slice a' js.length c') ∧ js.length ≤ c' ∧ KidR w' a' js ∧ (∀ b off fr, a' = some ⟨b, off, fr⟩ → w.heap.size ≤ b) ∧ Below w.heap.size w w' := by
  have hint : ∀ (w' : World) (v' : Value), w'.ownsRow w.heap.size 3 1 v' js.length (((js.map fun j => ((j : Nat) : Int)).take js.length).map (Value.int .i64)) → ∃ a' c', v' = .slice a' js.length c' ∧ js.length ≤ c' ∧ KidR w' a' js ∧ (∀ b off fr, a' = some ⟨b, off, fr⟩ → w.heap.size ≤ b) := by
    intro w' v' h
    rcases h.2 with ⟨rfl, h0⟩ | ⟨g, cp, cur, rfl, hg, hh, hlc, hm, hs, ht⟩
    · exact ⟨none, 0, by rw [h0], by omega, ⟨by rw [h0]; exact RowV.nil _ _ _, fun b off fr e => by cases e⟩, fun b off fr e => by cases e⟩
    · refine ⟨_, cp, rfl, hlc, ⟨fun j hj => ⟨g, 0, rfl, (Array.getElem?_eq_some_iff.1 hh).1, ?_⟩, fun b off fr e => ?_⟩, fun b off fr e => ?_⟩
      · rw [cell_of_block hh, Nat.zero_add]
        show cur[j]? = _
        have e := congrArg (fun l => l[j]?) ht
        simp only [List.getElem?_take, Nat.mul_one] at e
        rw [if_pos hj, Array.getElem?_toList, List.getElem?_map, List.getElem?_take, if_pos hj, List.getElem?_map, List.getElem?_eq_getElem hj] at e
        rw [e]
        simp only [List.getD_eq_getElem?_getD, List.getElem?_eq_getElem hj]
        rfl
      · simp only [Option.some.injEq, Addr.mk.injEq] at e
        obtain ⟨rfl, _, _⟩ := e
        exact ⟨cur, _, hh⟩
      · simp only [Option.some.injEq, Addr.mk.injEq] at e
        obtain ⟨rfl, _, _⟩ := e
        exact hg
  cases ha : a with
  | none =>
    have h0 : js.length = 0 := by
      rcases Nat.eq_zero_or_pos js.length with h | h
      · exact h
      · obtain ⟨_, _, e, _⟩ := H.1 0 h
        rw [ha] at e; cases e
    refine (clone_nil _ _ w).mono ?_
    rintro e w' ⟨rfl, rfl⟩
    exact ⟨none, 0, by rw [h0], by omega, ⟨by rw [h0]; exact RowV.nil _ _ _, fun b off fr e => by cases e⟩, (fun b off fr e => by cases e), Below.refl _ _⟩
  | some ad =>
    rcases Nat.eq_zero_or_pos js.length with h0 | h0
    · obtain rfl : js = [] := List.eq_nil_of_length_eq_zero h0
      refine (Any.slices_Clone_int_zero laysNm215 ad cap w).mono ?_
      rintro e w' ⟨v', rfl, h1, _, h3⟩
      obtain ⟨a', c', e1, e2, e3, e4⟩ := hint w' v' h1
      exact ⟨a', c', by rw [e1], e2, e3, e4, h3⟩
    · obtain ⟨b, off, e, _, _⟩ := H.1 0 h0
      rw [ha] at e
      cases e
      refine (clone_any b off js.length cap (js.map fun j => ((j : Nat) : Int)) w (by simp) (by omega) (fun j hj => ?_)).mono ?_
      · rw [List.length_map] at hj
        obtain ⟨b', off', e, _, hc⟩ := H.1 j hj
        rw [ha] at e
        cases e
        rw [hc]
        simp only [List.getD_eq_getElem?_getD, List.getElem?_map, List.getElem?_eq_getElem hj]
        rfl
      · rintro e w' ⟨v', rfl, h1, _, h3⟩
        obtain ⟨a', c', e1, e2, e3, e4⟩ := hint w' v' h1
        exact ⟨a', c', by rw [e1], e2, e3, e4, h3⟩
theorem infoShared : (Tryd.prog.info? 141).map (fun i => (i.zero, i.size, i.bytes)) = some (some (.agg #[.string ByteArray.empty, .int .i64 0, .slice none 0 0, .int .i64 0]), 4, 56) := by kernel_rfl
/-- append at a step of a drawn region, whose run is known -/
theorem step_append_run {ops : Array Oper} {o : Oper} {a : Act} {w : World} {K : Act → World → Prop} {Q : Exit → Act → World → Prop} {E : Prop} (hgd : o.guard = none) (s x : Operand) (t : TypeId)
    (ho : o.op = .call { callee := .builtin .append, args := #[s, x], argTypes := #[t, t] }) (u v v' : Value) (w' : World) (hs : a.eval s = u) (hx : a.eval x = v)
    (hr : (Builtin.append_ #[t, t] o.type #[u, v]).run Tryd.prog w = .ok v' w') (h : K (a.put o.dst v') w') :
    if Region.wanted o (yielded ops a.tmps) = true then Oper.wp Tryd.prog o a w K Q else E := by
  have hw : Region.wanted o (yielded ops a.tmps) = true := by simp [Region.wanted, hgd]
  rw [if_pos hw]
  unfold Oper.wp execOp
  simp only [ho, resolve, invoke, builtin, Sem.run_bind, Sem.run_pure, Result.andThen_ok, List.map_toArray, List.map_cons, List.map_nil, hs, hx, hr]
  exact h
theorem keepN {w X : World} {b o : Nat} {s : ByteArray} {r : Int} (h0 : w.cell? ⟨b, o, none⟩ = some (.string s)) (h1 : w.cell? ⟨b, o + 1, none⟩ = some (.int .i64 r)) (hlt : b < w.heap.size) (hb : Below w.heap.size w X) : X.cell? ⟨b, o, none⟩ = some (.string s) ∧ X.cell? ⟨b, o + 1, none⟩ = some (.int .i64 r) :=
  ⟨(hb.cell (p := ⟨b, o, none⟩) hlt).trans h0, (hb.cell (p := ⟨b, o + 1, none⟩) hlt).trans h1⟩
def zeroS : Array Value := #[.string ⟨#[]⟩, .int .i64 0, .slice none 0 0, .int .i64 0]
theorem box_set {w : World} {b : Nat} (h : w.heap[b]? = some (.cells #[.string ⟨#[]⟩, .int .i64 0, .slice none 0 0, .int .i64 0] 141)) (x0 x1 x2 x3 : Value) :
    ((((w.setCell ⟨b, 0, none⟩ x0).setCell ⟨b, 1, none⟩ x1).setCell ⟨b, 2, none⟩ x2).setCell ⟨b, 3, none⟩ x3).heap[b]? = some (.cells #[x0, x1, x2, x3] 141) := by
  simp [World.setCell, Array.getElem?_modify, h]
def kb (a : Option Addr) : List Nat := match a with | some x => [x.block] | none => []
/-- the table with a node more -/
theorem add_fin {w wz w6 wq w8 : World} {S : List Nat} {tp mb : Nat} {na : Option Addr} {nc : Nat} {E : List NE} {F : Value → Option Value} {t : Tr} {js : List Nat} {a : Option Addr} {c : Nat} {v' : Value} {o : Obj}
    (HE : TabE wz S tp mb (.slice na E.length nc) E F) (HW : Below w.heap.size w wz) (hS : ∀ k ∈ S, k < w.heap.size) (hM : MapF Tryd.prog 178 w6 mb (putF F (keyT t js) (.int .i64 ((E.length : Nat) : Int)))) (hO : OnlyG mb wz w6)
    (hB : Below w6.heap.size w6 wq) (h1 : w8.ownsRow 0 141 4 v' (E.length + 1) (flatN E ++ cellNE ⟨t, .slice a js.length c, js⟩)) (h2 : (wq.alloc o).grownBy w8 (Value.slice na E.length nc).ownBlock)
    (h4 : v'.ownBlock = (Value.slice na E.length nc).ownBlock ∨ v'.ownBlock = some (wq.heap.size + 1)) (hk : KidR wq a js) (hc : js.length ≤ c) (ha : ∀ b off fr, a = some ⟨b, off, fr⟩ → w6.heap.size ≤ b) (hix : IxAt (E.map NE.t) js t.ks) (hwf : WfTr t) (hnot : t ∉ E.map NE.t) :
    AddGives w (w8.setCell ⟨tp, 0, none⟩ v') S tp (E.map NE.t) t (.returned (.int .i64 ((E.length : Nat) : Int))) := by
  have hz6 : wz.heap.size ≤ w6.heap.size := hO.size
  have hzq := hB.size
  have hz8 : wq.heap.size + 1 ≤ w8.heap.size := by have := h2.size; simpa using this
  have hwz := HW.size
  -- what stays from wz on
  have stay : ∀ k, k < wz.heap.size → k ≠ mb → some k ≠ (Value.slice na E.length nc).ownBlock → w8.heap[k]? = wz.heap[k]? := fun k hk1 hk2 hk3 =>
    (h2.block k (by simp; omega) hk3).trans ((blk_old _ _ (by omega)).trans ((hB.block k (by omega)).trans (hO.block k hk1 hk2)))
  have mpz : ∃ es ck, wz.heap[mb]? = some (.map es ck) := by
    obtain ⟨es, ck, hb, _⟩ := HE.mp
    exact ⟨es, ck, hb⟩
  have notmb : ∀ {k c0 t0 z}, wz.heap[k]? = some (.cells c0 t0 z) → k ≠ mb := fun {k c0 t0 z} hc0 e => by
    obtain ⟨es, ck, hb⟩ := mpz
    rw [e, hb] at hc0
    cases hc0
  have rowb : ∀ g, (Value.slice na E.length nc).ownBlock = some g → ∃ cur, wz.heap[g]? = some (.cells cur 141 (0, 0)) := fun g hg => by
    rcases HE.row.2 with ⟨e, _⟩ | ⟨g', cap, cur, e, _, hh, _⟩
    · rw [e] at hg; simp [Value.ownBlock] at hg
    · rw [e] at hg
      simp only [Value.ownBlock, Option.some.injEq] at hg
      subst hg
      exact ⟨cur, hh⟩
  have tpr : some tp ≠ (Value.slice na E.length nc).ownBlock := fun e => by
    obtain ⟨cur, hh⟩ := rowb tp e.symm
    rw [HE.head] at hh
    simp at hh
  have mbr : some mb ≠ (Value.slice na E.length nc).ownBlock := fun e => by
    obtain ⟨cur, hh⟩ := rowb mb e.symm
    exact notmb hh rfl
  have htp : tp < wz.heap.size := (Array.getElem?_eq_some_iff.1 HE.head).1
  have tpm : tp ≠ mb := notmb HE.head
  have hmb : mb < w6.heap.size := hM.lt
  have hmbz : mb < wz.heap.size := HE.mp.lt
  have head8 : w8.heap[tp]? = some (.cells #[.slice na E.length nc, .map (some mb)] 136) := (stay tp htp tpm tpr).trans HE.head
  have v8 : ∀ g, v'.ownBlock = some g → g ≠ tp ∧ g ≠ mb ∧ (g ∈ S ∨ (wq.heap.size ≤ g ∧ g < w8.heap.size)) := fun g hg => by
    rcases h4 with h4 | h4
    · rw [h4] at hg
      exact ⟨fun e => tpr (by rw [hg, e]), fun e => mbr (by rw [hg, e]), .inl (HE.rin g hg)⟩
    · rw [h4] at hg
      simp only [Option.some.injEq] at hg
      subst hg
      refine ⟨by omega, by omega, .inr ⟨by omega, ?_⟩⟩
      rcases h1.2 with ⟨_, h0⟩ | ⟨g', cap, cur, e, _, hh, _⟩
      · omega
      · rw [e] at h4
        simp only [Value.ownBlock, Option.some.injEq] at h4
        rw [← h4]
        exact (Array.getElem?_eq_some_iff.1 hh).1
  have same9 : ∀ k, k ≠ tp → (w8.setCell ⟨tp, 0, none⟩ v').heap[k]? = w8.heap[k]? := fun k hk => Below.heap_setCell _ _ _ k hk
  have head9 : (w8.setCell ⟨tp, 0, none⟩ v').heap[tp]? = some (.cells #[v', .map (some mb)] 136) := by
    simp [World.setCell, Array.getElem?_modify, head8]
  have mp9 : MapF Tryd.prog 178 (w8.setCell ⟨tp, 0, none⟩ v') mb (putF F (keyT t js) (.int .i64 ((E.length : Nat) : Int))) := hM.keep (by
    rw [same9 mb (fun e => tpm e.symm), h2.block mb (by simp; omega) mbr, blk_old _ _ (by omega), hB.block mb hmb])
  have row9 : (w8.setCell ⟨tp, 0, none⟩ v').ownsRow 0 141 4 v' (E.length + 1) (flatN E ++ cellNE ⟨t, .slice a js.length c, js⟩) := by
    refine ⟨h1.1, ?_⟩
    rcases h1.2 with h0 | ⟨g, cap, cur, hv, hg, hh, hr⟩
    · exact .inl h0
    · exact .inr ⟨g, cap, cur, hv, hg, (same9 g (v8 g (by rw [hv]; rfl)).1).trans hh, hr⟩
  have kidq : ∀ b off fr, a = some ⟨b, off, fr⟩ → b < wq.heap.size := fun b off fr e => hk.lt e
  have hk9 : KidR (w8.setCell ⟨tp, 0, none⟩ v') a js := hk.keep (by simp; omega) (fun b off fr e hl => by
    have hb6 := ha b off fr e
    rw [same9 b (by omega), h2.block b (by simp; omega) ?_, blk_old _ _ hl]
    intro e2
    obtain ⟨cur, hh⟩ := rowb b e2.symm
    have := (Array.getElem?_eq_some_iff.1 hh).1
    omega)
  have sz9 : (w8.setCell ⟨tp, 0, none⟩ v').heap.size = w8.heap.size := by simp
  have S' : List Nat := []
  clear S'
  have own9 : ∀ k ∈ (kb a ++ (match v'.ownBlock with | some g => [g] | none => []) ++ S), k ∈ S ∨ (w.heap.size ≤ k ∧ k < (w8.setCell ⟨tp, 0, none⟩ v').heap.size) := by
    intro k hk
    rw [sz9]
    simp only [List.mem_append] at hk
    rcases hk with (hk | hk) | hk
    · cases hav : a with
      | none => rw [hav] at hk; simp [kb] at hk
      | some x =>
        rw [hav] at hk
        simp only [kb, List.mem_singleton] at hk
        subst hk
        have h5 := ha x.block x.off x.spot hav
        have h6 := kidq x.block x.off _ hav
        exact .inr ⟨by omega, by omega⟩
    · cases hv : v'.ownBlock with
      | none => rw [hv] at hk; simp at hk
      | some g =>
        rw [hv] at hk
        simp only [List.mem_singleton] at hk
        subst hk
        rcases (v8 k hv).2.2 with h | h
        · exact .inl h
        · exact .inr ⟨by omega, h.2⟩
    · exact .inl hk
  refine ⟨E.length, kb a ++ (match v'.ownBlock with | some g => [g] | none => []) ++ S, rfl, ⟨mb, v', E ++ [⟨t, .slice a js.length c, js⟩], putF F (keyT t js) (.int .i64 ((E.length : Nat) : Int)), by rw [addL_out hnot]; simp, head9, by simp [HE.hin], by simp [HE.min], mp9, ?_, ?_, ?_, ?_, ?_⟩, ?_, ?_⟩
  · intro x v
    by_cases e : x = keyT t js
    · subst e
      rw [putF_same]
      constructor
      · intro h
        cases h
        exact ⟨E.length, by simp, by simp [keyT], rfl⟩
      · rintro ⟨i, hi, hx, rfl⟩
        by_cases hlt : i < E.length
        · rw [List.getElem_append_left hlt] at hx
          exact (hnot (by rw [keyT_inj hx hix (HE.kids _ (List.getElem_mem hlt)).1]; exact List.mem_map.2 ⟨_, List.getElem_mem hlt, rfl⟩)).elim
        · have : i = E.length := by simp at hi; omega
          subst this; rfl
    · rw [putF_other F _ e, HE.tf]
      constructor
      · rintro ⟨i, hi, hx, hv⟩
        exact ⟨i, by simp; omega, by rw [List.getElem_append_left hi]; exact hx, hv⟩
      · rintro ⟨i, hi, hx, hv⟩
        by_cases hlt : i < E.length
        · exact ⟨i, hlt, by rw [List.getElem_append_left hlt] at hx; exact hx, hv⟩
        · have : i = E.length := by simp at hi; omega
          subst this
          exact absurd (by simpa using hx) e
  · rw [List.length_append, List.length_singleton]
    unfold flatN
    rw [List.flatMap_append, List.flatMap_singleton]
    exact row9
  · intro g hg
    rw [hg]
    simp
  · intro e he
    have hmap : (E ++ [(⟨t, .slice a js.length c, js⟩ : NE)]).map NE.t = E.map NE.t ++ [t] := by simp
    rw [hmap]
    rcases List.mem_append.1 he with he | he
    · obtain ⟨k1, k2, k3⟩ := HE.kids e he
      refine ⟨k1.mono _, k2.keep (by rw [sz9]; omega) (fun k hk => by simp [hk]) (fun b hb hc2 => ?_), k3⟩
      obtain ⟨cc, zz, hcc⟩ := hc2
      have hbz : b < wz.heap.size := (Array.getElem?_eq_some_iff.1 hcc).1
      rw [same9 b (fun e2 => by rw [e2, HE.head] at hcc; simp at hcc), stay b hbz (notmb hcc) (fun e2 => by
        obtain ⟨cur, hh⟩ := rowb b e2.symm
        rw [hh] at hcc
        simp at hcc)]
    · rw [List.mem_singleton] at he
      subst he
      exact ⟨hix.mono _, ⟨a, c, rfl, hc, hk9, fun b off fr e => by simp [kb, e]⟩, hwf⟩
  · intro k hk
    rcases own9 k hk with h | h
    · have := hS k h
      rw [sz9]; omega
    · exact h.2
  · rw [addL_out hnot, List.getElem?_append_right (by simp)]
    simp
  · refine ⟨?_, ?_, ?_, by rw [sz9]; omega, fun k hk1 hk2 => ?_, own9⟩
    · exact h2.os.trans (hB.os.trans (hO.os.trans HW.os))
    · exact h2.tape.trans (hB.tape.trans (hO.tape.trans HW.tape))
    · exact h2.output.trans (hB.output.trans (hO.output.trans HW.output))
    · rw [same9 k (fun e => hk2 (e ▸ HE.hin)), stay k (by omega) (fun e => hk2 (e ▸ HE.min)) (fun e => hk2 (HE.rin k e.symm)), HW.block k hk1]
set_option maxHeartbeats 4000000 in
theorem add_any (s : ByteArray) (r : Int) (ks : List Tr) (tb tof : Nat) (w : World) (S : List Nat) (tp mb : Nat) (nv : Value) (E : List NE) (F : Value → Option Value) (H : TabE w S tp mb nv E F) (hn : (E.map NE.t).Nodup) (hE : E.length ≤ 4000000)
    (ka : Option Addr) (kc : Nat) (js : List Nat) (HK : KidR w ka js) (hka : ∀ b off fr, ka = some ⟨b, off, fr⟩ → b ∉ S) (hix : IxAt (E.map NE.t) js ks)
    (n0 : w.cell? ⟨tb, tof, none⟩ = some (.string s)) (n1 : w.cell? ⟨tb, tof + 1, none⟩ = some (.int .i64 r)) (htb : tb ∉ S) (hwf : WfTr (.node s r ks)) (hz : (Tr.node s r ks).sz ≤ 5000000) (Bt : Nat) (hp : PowB Bt w) (hBt : Bt ≤ w.heap.size) :
    Calls Tryd.prog 87 #[.pointer (some ⟨tp, 0, none⟩), .pointer (some ⟨tb, tof, none⟩), .slice ka js.length kc] w fun e w' => AddGives w w' S tp (E.map NE.t) (.node s r ks) e := by
  obtain ⟨i0, hi0, hz0, hz1, hz2⟩ := info_parts infoU8
  have hlen := hix.len
  have hks : ks.length ≤ 2000000 := hwf.2.2
  have hjlt : ∀ j ∈ js, j < 5000000 := fun j hj => by have := hix.lt j hj; rw [List.length_map] at this; omega
  have HJL := Lib.hid hjlt
  have HLEN := Lib.hid hlen
  have HIX := Lib.hid hix
  have HN := Lib.hid hn
  have HT := Lib.hid H
  have hjl : js.length ≤ 2000000 := by omega
  have HPW := Lib.hid (hp.up hBt)
  have HKA := Lib.hid hka
  have HWF := Lib.hid hwf
  clear hlen hix hjlt hn H hka hwf hp
  go_enter Tryd.func87, Tryd.ntmps87
  go_wp2_with fail
  go_loopg [7, 16] (js.length + 1) (fun gk tv iv wr => ∃ (i : Nat) (tx : Value), gk = js.length + 1 - i ∧ i ≤ js.length ∧ iv = .int .i64 (i : Int) ∧ tx = tv ∧ Hid (TextO wr w.heap.size tx (encK (js.take i))) ∧ Below w.heap.size w wr)
  case atStart => exact ⟨0, _, rfl, Nat.zero_le _, rfl, rfl, ⟨rfl, .inl ⟨rfl, rfl⟩⟩, Below.refl _ _⟩
  case round =>
    obtain ⟨i, tx, hgk, hi, rfl, rfl, HO, hb⟩ := hrel
    have HG := Lib.hid hgk
    clear hgk
    by_cases hlt : i < js.length
    · have hil : (i : Int) < (js.length : Int) := by omega
      obtain ⟨b, off, rfl, hbl, hc⟩ := HK.1 i hlt
      have ej : js.getD i 0 = js[i] := by rw [List.getD_eq_getElem?_getD, List.getElem?_eq_getElem hlt]; rfl
      have hc' : wr.cell? ⟨b, off + i, none⟩ = some (.int .i64 ((js[i] : Nat) : Int)) := by rw [← ej, hb.cell (p := ⟨b, off + i, none⟩) hbl]; exact hc
      have HET := Lib.hid (encK_take hlt)
      have hlim := encK_len_take HJL.out i
      have hlimS := encK_len_take HJL.out (i + 1)
      have hj5 := HJL.out js[i] (List.getElem_mem hlt)
      clear hc ej
      obtain ⟨j, hj⟩ : ∃ j, js[i] = j := ⟨_, rfl⟩
      rw [hj] at hc' hj5
      have HJ := Lib.hid hj
      clear hj
      have hj0 : (-9223372036854775808 : Int) ≤ (j : Int) := by omega
      have hj9 : (j : Int) ≤ 9223372036854775807 := by omega
      have hB := hb.size
      go_wp2_with (first
        | (go_at_call 111; refine (appendInt_any w.heap.size _ (j : Int) hj0 hj9 _ _ wr HO.out hB (by omega) (HPW.out.on hb)).mono ?_; rintro e w2 ⟨v2, rfl, hown2, hb2⟩)
        | (at_builtin; refine wpList_append_own _ rfl _ _ 53 rfl w.heap.size 5 i0 (.int .u8 0) 1 1 Tryd.underlying53 hi0 hz0 hz1 hz2 rfl (by decide) _ _ _ rfl (hown2.alloc _) ⟨w2.heap.size, 0, none⟩ 1 1 [.int .u8 44] rfl rfl ?c1 ?c2 ?c3 ?c4 ?c5 ?_))
      case c1 =>
        intro q u hq
        match q, hq with
        | 0, hq => simp at hq; subst hq; simp [Addr.add]
      case c2 => intro u hu; simp at hu; subst hu; rfl
      case c3 => unfold maxLen; rw [Lib.itoa_nonneg]; have := encK_len_take HJL.out (i + 1); rw [HET.out, HJ.out, List.length_append, List.length_append] at this; simp at this; omega
      case c4 => rw [Lib.itoa_nonneg]; have := encK_len_take HJL.out (i + 1); rw [HET.out, HJ.out, List.length_append, List.length_append] at this; simp at this; omega
      case c5 => have := hb2.size; simp; omega
      · intro v' w1 hown' hgrow _
        have hown3 : Hid (TextO w1 w.heap.size v' (encK (js.take (i + 1)))) := by
          show TextO _ _ _ _
          unfold TextO
          rw [HET.out, HJ.out, bc_append, bc_append, List.length_append, List.length_append, ← Lib.itoa_nonneg]
          rw [← Nat.add_assoc]
          exact hown'
        have hb3 : Below w.heap.size w w1 := ((hb.trans hb2).alloc (by have := hb2.size; omega) _).grown hgrow (by have := hb2.size; simp; omega) (fun q hq => by
          rcases hown2.2 with ⟨hv, _⟩ | ⟨g, _, _, hv, hg, _⟩
          · rw [hv] at hq; simp [Value.ownBlock] at hq
          · rw [hv] at hq; simp [Value.ownBlock] at hq; omega)
        clear hown' hgrow hown2 hb2 hb HO
        go_wp2
        go_roundg (js.length + 1 - (i + 1))
        case measure => have := HG.out; omega
        case rel => exact ⟨i + 1, _, rfl, by omega, by go_num, rfl, hown3, hb3⟩
    · have hil : ¬ (i : Int) < (js.length : Int) := by omega
      obtain rfl : i = js.length := by omega
      have hx := HO.out
      rw [List.take_length] at hx
      have HO2 := Lib.hid hx
      clear HO hx
      have hE0 := HT.out
      have htbw : tb < w.heap.size := World.block_lt_of_cell? _ _ n0
      have m0 : wr.cell? ⟨tb, tof, none⟩ = some (.string s) := (hb.cell (p := ⟨tb, tof, none⟩) htbw).trans n0
      have m1 : wr.cell? ⟨tb, tof + 1, none⟩ = some (.int .i64 r) := (hb.cell (p := ⟨tb, tof + 1, none⟩) htbw).trans n1
      have htw : tb < wr.heap.size := Nat.lt_of_lt_of_le htbw hb.size
      go_upto_region 7 with fail
      go_cut [10] (fun s10 wx => ∃ p wy, s10 = .pointer (some ⟨p, 0, none⟩) ∧ wy = wx ∧ wr.heap.size ≤ p ∧ wx.heap[p]? = some (.cells #[.string s, .int .i64 r, .string ⟨(encK js).toArray⟩] 178) ∧ Below wr.heap.size wr wx)
      case first =>
        have hcv1 := convert_text (w := wr.drew) HO2.out
        have hA : ∀ o, (wr.alloc o).cell? ⟨tb, tof, none⟩ = some (.string s) ∧ (wr.alloc o).cell? ⟨tb, tof + 1, none⟩ = some (.int .i64 r) ∧ (convert 53 9 tx).run Tryd.prog (wr.alloc o).drew = .ok (.string ⟨(encK js).toArray⟩) (wr.alloc o).drew := fun o =>
          ⟨(World.cell?_of_block (w := wr) (a := ⟨tb, tof, none⟩) (blk_old _ _ htw)).trans m0, (World.cell?_of_block (w := wr) (a := ⟨tb, tof + 1, none⟩) (blk_old _ _ htw)).trans m1, convert_text (w := (wr.alloc o).drew) (HO2.out.alloc o)⟩
        obtain ⟨a0, a1, a2⟩ := hA (.cells #[.string ⟨#[]⟩, .int .i64 0, .string ⟨#[]⟩] 178)
        obtain ⟨b0, b1, b2⟩ := hA (.cells #[.string s, .int .i64 r, .string ⟨(encK js).toArray⟩] 178)
        clear hA
        go_region_held3 (fun w' => w'.cell? ⟨tb, tof, none⟩ = some (.string s) ∧ w'.cell? ⟨tb, tof + 1, none⟩ = some (.int .i64 r) ∧ (convert 53 9 tx).run Tryd.prog w' = .ok (.string ⟨(encK js).toArray⟩) w')
          (first
            | go_keep
            | exact ⟨m0, m1, hcv1⟩
            | exact ⟨a0, a1, a2⟩
            | exact ⟨b0, b1, b2⟩
            | fail)
          (first
            | fail)
        all_goals go_wp2_with fail
        all_goals go_meet
        all_goals exact ⟨_, _, rfl, rfl, Nat.le_refl _, blk_new _ _ rfl, ((Below.refl _ _).alloc (Nat.le_refl _) _).drew⟩
      case rest =>
        obtain ⟨p, wy, rfl, rfl, hpl, hpb, hbx⟩ := hcut
        have hW : Below w.heap.size w wy := hb.trans (hbx.mono hb.size)
        have HE := hE0.keep (w' := wy) hW.size (fun k hk => hW.block k (hE0.lt k hk))
        have q0 : wy.cell? ⟨p, 0, none⟩ = some (.string s) := by rw [cell_of_block hpb]; rfl
        have q1 : wy.cell? ⟨p, 1, none⟩ = some (.int .i64 r) := by rw [cell_of_block hpb]; rfl
        have q2 : wy.cell? ⟨p, 2, none⟩ = some (.string ⟨(encK js).toArray⟩) := by rw [cell_of_block hpb]; rfl
        have c1 : wy.cell? ⟨tp, 1, none⟩ = some (.map (some mb)) := by rw [cell_of_block HE.head]; rfl
        have y0 : wy.cell? ⟨tb, tof, none⟩ = some (.string s) := (hW.cell (p := ⟨tb, tof, none⟩) htbw).trans n0
        have y1 : wy.cell? ⟨tb, tof + 1, none⟩ = some (.int .i64 r) := (hW.cell (p := ⟨tb, tof + 1, none⟩) htbw).trans n1
        have hlimS := encK_len 5000000 js HJL.out
        obtain ⟨l, hkey⟩ := node_key (.node s r ks) js HWF.out (by unfold maxLen; omega)
        have hlook := HE.mp.lookup2 node_law Tryd.underlying133 (zeroM wy) hkey
        have hlookd := (show MapF Tryd.prog 178 wy.drew mb F from HE.mp).lookup2 node_law Tryd.underlying133 (zeroM wy.drew) hkey
        unfold keyT at hlook hlookd
        have HEE := Lib.hid HE
        have HWW := Lib.hid hW
        have HKEY := Lib.hid hkey
        clear HE hE0 hW hbx hb HO2 m0 m1 hpb hkey
        cases hF : F (keyT (.node s r ks) js) with
        | some v =>
          have hF' := hF
          unfold keyT at hF'
          rw [hF'] at hlook hlookd
          simp only [Option.getD_some, Option.isSome_some] at hlook hlookd
          obtain ⟨i, hi2, hx, rfl⟩ := (HEE.out.tf _ _).1 hF
          have htr : E[i].t = .node s r ks := (keyT_inj hx HIX.out (HEE.out.kids _ (List.getElem_mem hi2)).1).symm
          have HTR := Lib.hid htr
          clear hF hF' hx htr
          go_upto_region 8 with fail
          go_region
          go_wp2_with fail
          go_ret
          exact ⟨i, S, rfl, ⟨mb, nv, E, F, (addL_in (by rw [← HTR.out]; exact List.mem_map.2 ⟨_, List.getElem_mem hi2, rfl⟩)).symm, HEE.out.keep (Nat.le_refl _) (fun _ _ => rfl)⟩, by
            rw [addL_in (by rw [← HTR.out]; exact List.mem_map.2 ⟨_, List.getElem_mem hi2, rfl⟩), List.getElem?_map, List.getElem?_eq_getElem hi2, ← HTR.out]; rfl, apart_below HWW.out.drew⟩
        | none =>
          have hF' := hF
          unfold keyT at hF'
          rw [hF'] at hlook hlookd
          simp only [Option.getD_none, Option.isSome_none] at hlook hlookd
          have hnot : Tr.node s r ks ∉ E.map NE.t := by
            intro hm
            obtain ⟨i, hi2, e⟩ := List.getElem_of_mem hm
            rw [List.getElem_map] at e
            rw [List.length_map] at hi2
            have hki := (HEE.out.kids _ (List.getElem_mem hi2)).1
            have : F (keyT (.node s r ks) js) = some (.int .i64 ((i : Nat) : Int)) := (HEE.out.tf _ _).2 ⟨i, hi2, by
              rw [e] at hki
              rw [e]
              exact keyT_same HN.out HIX.out hki, rfl⟩
            rw [hF] at this
            cases this
          have HNOT := Lib.hid hnot
          clear hF hF' hnot
          go_upto_region 8 with fail
          go_region
          have HE2 := HEE.out.keep (w' := wy.drew) (Nat.le_refl _) (fun _ _ => rfl)
          have q0' : wy.drew.cell? ⟨p, 0, none⟩ = some (.string s) := q0
          have q1' : wy.drew.cell? ⟨p, 1, none⟩ = some (.int .i64 r) := q1
          have q2' : wy.drew.cell? ⟨p, 2, none⟩ = some (.string ⟨(encK js).toArray⟩) := q2
          have c1' : wy.drew.cell? ⟨tp, 1, none⟩ = some (.map (some mb)) := c1
          have y0' : wy.drew.cell? ⟨tb, tof, none⟩ = some (.string s) := y0
          have y1' : wy.drew.cell? ⟨tb, tof + 1, none⟩ = some (.int .i64 r) := y1
          have W2 : Below w.heap.size w wy.drew := HWW.out.drew
          clear q0 q1 q2 c1 y0 y1 HWW HEE hlook hlookd
          generalize wy.drew = wz at *
          obtain ⟨na, nc, rfl⟩ : ∃ na nc, nv = .slice na E.length nc := by
            rcases HE2.row.2 with ⟨e, h0⟩ | ⟨g, cap, _, e, _⟩
            · exact ⟨none, 0, by rw [h0]; exact e⟩
            · exact ⟨_, _, e⟩
          have c0 : wz.cell? ⟨tp, 0, none⟩ = some (.slice na E.length nc) := by rw [cell_of_block HE2.head]; rfl
          obtain ⟨w6, hupd, hM, hO, hsz6⟩ := (show MapF Tryd.prog 178 wz.drew mb F from HE2.mp).update node_law Tryd.underlying133 HKEY.out (.int .i64 ((E.length : Nat) : Int))
          unfold keyT at hupd
          have HM := Lib.hid hM
          have HO6 := Lib.hid hO
          have HEZ := Lib.hid HE2
          clear hM hO HE2 hsz6
          go_wp2_with fail
          go_region
          have h6 : wz.heap.size ≤ w6.heap.size := HO6.out.size
          have htz : tb < wz.heap.size := Nat.lt_of_lt_of_le htbw W2.size
          have htm : tb ≠ mb := fun e => htb (e ▸ HEZ.out.min)
          have t0 : w6.cell? ⟨tb, tof, none⟩ = some (.string s) := (HO6.out.cell (p := ⟨tb, tof, none⟩) htz htm).trans y0'
          have t1 : w6.cell? ⟨tb, tof + 1, none⟩ = some (.int .i64 r) := (HO6.out.cell (p := ⟨tb, tof + 1, none⟩) htz htm).trans y1'
          have HK6 : KidR w6 ka js := HK.keep (by have := W2.size; omega) (fun b off fr e hl => (HO6.out.block b (by have := W2.size; show b < wz.heap.size; omega) (fun e2 => HKA.out b off fr e (e2 ▸ HEZ.out.min))).trans (W2.block b hl))
          have HL6 : LongR w6 tp E := HEZ.out.long (fun k hk hne => HO6.out.block k (show k < wz.heap.size from HEZ.out.lt k hk) hne)
          have HK6' := Lib.hid HK6
          have HL6' := Lib.hid HL6
          have ht6 : tb < w6.heap.size := by omega
          clear q0' q1' q2' c1' y0' y1' c0 hupd HK6 HL6 HK
          go_upto_region 12 with fail
          go_cut [13] (fun s13 wx => ∃ p2 wy2 a c, s13 = .pointer (some ⟨p2, 0, none⟩) ∧ wy2 = wx ∧ wx.heap[p2]? = some (.cells #[.string s, .int .i64 r, .slice a js.length c, .int .i64 (ylen (.node s r ks) : Int)] 141) ∧ js.length ≤ c ∧ KidR wx a js ∧ (∀ b off fr, a = some ⟨b, off, fr⟩ → w6.heap.size ≤ b) ∧ Below w6.heap.size w6 wx)
          case first =>
            have bZ : Below w6.heap.size w6 (w6.alloc (.cells #[.string ⟨#[]⟩, .int .i64 0, .slice none 0 0, .int .i64 0] 141)) := (Below.refl _ _).alloc (Nat.le_refl _) _
            have HZ : w6.heap.size < (w6.alloc (.cells #[.string ⟨#[]⟩, .int .i64 0, .slice none 0 0, .int .i64 0] 141)).heap.size := by simp
            have HKd : KidR w6.drew ka js := HK6'.out
            have HKz : KidR (w6.alloc (.cells #[.string ⟨#[]⟩, .int .i64 0, .slice none 0 0, .int .i64 0] 141)).drew ka js := HK6'.out.keep bZ.size (fun b off fr _ hl => bZ.block b hl)
            have hix' := HIX.out
            have HKD := Lib.hid HKd
            have HKZ := Lib.hid HKz
            clear HKd HKz hix'
            go_region_held3 (fun w' => w'.cell? ⟨tb, tof, none⟩ = some (.string s) ∧ w'.cell? ⟨tb, tof + 1, none⟩ = some (.int .i64 r))
              (first
                | go_keep
                | with_reducible exact keepN t0 t1 ht6 hb7
                | with_reducible exact keepN t0 t1 ht6 hb7z
                | with_reducible exact keepN t0 t1 ht6 hb7f
                | with_reducible exact keepN t0 t1 ht6 hb7s
                | fail)
              (first
                | (go_at_call 113; (with_reducible refine (longOf_any s r ks w7 tp E HL7.out ka kc js HK7.out HIX.out hz).mono ?_); rintro e w8 ⟨rfl, rfl⟩)
                | (go_at_call 113; (with_reducible refine (longOf_any s r ks (w7.alloc (.cells #[.string ⟨#[]⟩, .int .i64 0, .slice none 0 0, .int .i64 0] 141)) tp E HL7z.out ka kc js HK7z.out HIX.out hz).mono ?_); rintro e w8 ⟨rfl, rfl⟩)
                | (go_at_call 112; (with_reducible refine (cloneK_any ka kc js w6.drew HKD.out hjl).mono ?_); rintro e w7 ⟨a7, c7, rfl, hc7, hk7, ha7, hb7'⟩; have hb7 := below_of_drew hb7'; have HL7 := Lib.hid (HL6'.out.below hb7); have HK7 := Lib.hid (HK6'.out.keep hb7.size (fun b off fr _ hl => hb7.block b hl)); have HL7z := Lib.hid (HL7.out.below ((Below.refl _ _).alloc (Nat.le_refl _) (.cells #[.string ⟨#[]⟩, .int .i64 0, .slice none 0 0, .int .i64 0] 141))); have HK7z : Hid (KidR (w7.alloc (.cells #[.string ⟨#[]⟩, .int .i64 0, .slice none 0 0, .int .i64 0] 141)) ka js) := HK7.out.keep (by simp) (fun b off fr _ hl => blk_old _ _ hl); have HX7 := Lib.hid (And.intro hk7 ha7); have hb7z := hb7.alloc hb7.size (.cells #[.string ⟨#[]⟩, .int .i64 0, .slice none 0 0, .int .i64 0] 141); have hb7f := hb7.alloc hb7.size (.cells #[.string s, .int .i64 r, .slice a7 js.length c7, .int .i64 (ylen (.node s r ks) : Int)] 141); have tok7 := True.intro; clear hk7 ha7 hb7')
                | (go_at_call 112; (with_reducible refine (cloneK_any ka kc js (w6.alloc (.cells #[.string ⟨#[]⟩, .int .i64 0, .slice none 0 0, .int .i64 0] 141)).drew HKZ.out hjl).mono ?_); rintro e w7 ⟨a7, c7, rfl, hc7, hk7, ha7, hb7'⟩; have hb7u := below_of_drew hb7'; have hb7 := bZ.trans (hb7u.mono bZ.size); have HL7 := Lib.hid (HL6'.out.below hb7); have HK7 := Lib.hid (HK6'.out.keep hb7.size (fun b off fr _ hl => hb7.block b hl)); have HL7z := Lib.hid (HL7.out.below ((Below.refl _ _).alloc (Nat.le_refl _) (.cells #[.string ⟨#[]⟩, .int .i64 0, .slice none 0 0, .int .i64 0] 141))); have HK7z : Hid (KidR (w7.alloc (.cells #[.string ⟨#[]⟩, .int .i64 0, .slice none 0 0, .int .i64 0] 141)) ka js) := HK7.out.keep (by simp) (fun b off fr _ hl => blk_old _ _ hl); have HX7 := Lib.hid (And.intro hk7 ha7); have hbox : w7.heap[w6.heap.size]? = some (.cells #[.string ⟨#[]⟩, .int .i64 0, .slice none 0 0, .int .i64 0] 141) := (hb7u.block _ HZ).trans (blk_new _ _ rfl); have z0 : w7.cell? ⟨w6.heap.size, 0, none⟩ = some (.string ⟨#[]⟩) := (by rw [cell_of_block hbox]; rfl); have z1 : w7.cell? ⟨w6.heap.size, 1, none⟩ = some (.int .i64 0) := (by rw [cell_of_block hbox]; rfl); have z2 : w7.cell? ⟨w6.heap.size, 2, none⟩ = some (.slice none 0 0) := (by rw [cell_of_block hbox]; rfl); have z3 : w7.cell? ⟨w6.heap.size, 3, none⟩ = some (.int .i64 0) := (by rw [cell_of_block hbox]; rfl); have g0 := frozen_of_block hbox 0; have g1 := frozen_of_block hbox 1; have g2 := frozen_of_block hbox 2; have g3 := frozen_of_block hbox 3; have HBX := Lib.hid hbox; have hb7s := (((hb7.setCell (p := ⟨w6.heap.size, 0, none⟩) (Nat.le_refl _) (.string s)).setCell (p := ⟨w6.heap.size, 1, none⟩) (Nat.le_refl _) (.int .i64 r)).setCell (p := ⟨w6.heap.size, 2, none⟩) (Nat.le_refl _) (.slice a7 js.length c7)).setCell (p := ⟨w6.heap.size, 3, none⟩) (Nat.le_refl _) (.int .i64 (ylen (.node s r ks) : Int)); have tokZ := True.intro; clear hk7 ha7 hb7' hbox)
                | fail)
            all_goals go_wp2_with fail
            all_goals go_meet
            · exact ⟨_, _, a7, c7, rfl, rfl, blk_new _ _ rfl, hc7, HX7.out.1.keep (by simp) (fun b off fr _ hl => blk_old _ _ hl), HX7.out.2, hb7f⟩
            · exact ⟨_, _, a7, c7, rfl, rfl, blk_new _ _ rfl, hc7, HX7.out.1.keep (by simp) (fun b off fr _ hl => blk_old _ _ hl), HX7.out.2, hb7f⟩
            · have hge : ∀ b off fr, a7 = some ⟨b, off, fr⟩ → w6.heap.size + 1 ≤ b := fun b off fr e => by have := HX7.out.2 b off fr e; simpa using this
              exact ⟨_, _, a7, c7, rfl, rfl, box_set HBX.out _ _ _ _, hc7, HX7.out.1.keep (by simp) (fun b off fr e hl => by
                have hne : b ≠ w6.heap.size := by have := hge b off fr e; omega
                rw [Below.heap_setCell _ _ _ _ hne, Below.heap_setCell _ _ _ _ hne, Below.heap_setCell _ _ _ _ hne, Below.heap_setCell _ _ _ _ hne]), fun b off fr e => by have := hge b off fr e; omega, hb7s⟩
          case rest =>
            obtain ⟨p2, wq, a, c, rfl, rfl, hp2, hcl, hkq, haq, hbq⟩ := hcut
            have hzE := HEZ.out
            have notmb : ∀ {k : Nat} {c0 : Array Value} {t0 : TypeId} {z : Nat × Nat}, wz.heap[k]? = some (.cells c0 t0 z) → k ≠ mb := fun {k c0 t0 z} hc0 e => by
              obtain ⟨es, ck, hb0, _⟩ := hzE.mp
              rw [e, hb0] at hc0
              cases hc0
            have old : ∀ (k : Nat) (c0 : Array Value) (t0 : TypeId) (z : Nat × Nat), wz.heap[k]? = some (.cells c0 t0 z) → wq.heap[k]? = some (.cells c0 t0 z) := fun k c0 t0 z hk => by
              have hl : k < wz.heap.size := (Array.getElem?_eq_some_iff.1 hk).1
              rw [hbq.block k (by omega), HO6.out.block k hl (notmb hk)]
              exact hk
            have hhq := old tp _ _ _ hzE.head
            have hrq : (wq.alloc (.cells #[.string s, .int .i64 r, .slice a js.length c, .int .i64 (ylen (.node s r ks) : Int)] 141)).drew.ownsRow 0 141 4 (.slice na E.length nc) E.length (flatN E) := by
              refine ⟨hzE.row.1, ?_⟩
              rcases hzE.row.2 with h0 | ⟨g, cap, cur, hv, hg, hh, hr⟩
              · exact .inl h0
              · have hq := old g _ _ _ hh
                exact .inr ⟨g, cap, cur, hv, hg, (blk_old _ _ (Array.getElem?_eq_some_iff.1 hq).1).trans hq, hr⟩
            obtain ⟨i1, hi1, hy0, hy1, hy2⟩ := info_parts infoShared
            obtain ⟨v', w8, hap, h1, h2, _, h4⟩ := run_append_own_at (P := Tryd.prog) (wq.alloc (.cells #[.string s, .int .i64 r, .slice a js.length c, .int .i64 (ylen (.node s r ks) : Int)] 141)).drew 0 134 134 141 i1 _ 4 56 Tryd.underlying134 hi1 hy0 hy1 hy2 rfl (by decide) (.slice na E.length nc) E.length (flatN E) hrq ⟨wq.heap.size, 0, none⟩ 1 1 (cellNE ⟨.node s r ks, .slice a js.length c, js⟩) rfl (by
                intro j u hj
                match j, hj with
                | 0, hj => simp [cellNE] at hj; subst hj; simp [Addr.add]
                | 1, hj => simp [cellNE] at hj; subst hj; simp [Addr.add]
                | 2, hj => simp [cellNE] at hj; subst hj; simp [Addr.add]
                | 3, hj => simp [cellNE] at hj; subst hj; simp [Addr.add]
                | j + 4, hj => simp [cellNE] at hj) (by
                intro u hu
                simp [cellNE] at hu
                rcases hu with rfl | rfl | rfl | rfl <;> rfl) (by unfold maxLen; omega) (by omega) (by simp)
            have h2' : (wq.alloc (.cells #[.string s, .int .i64 r, .slice a js.length c, .int .i64 (ylen (.node s r ks) : Int)] 141)).grownBy w8 (Value.slice na E.length nc).ownBlock := ⟨h2.os, h2.tape, h2.output, h2.size, h2.block⟩
            have h4' : v'.ownBlock = (Value.slice na E.length nc).ownBlock ∨ v'.ownBlock = some (wq.heap.size + 1) := by simpa using h4
            have FIN := Lib.hid (add_fin hzE W2 HT.out.lt HM.out ⟨HO6.out.os, HO6.out.tape, HO6.out.output, HO6.out.size, HO6.out.block⟩ hbq h1 h2' h4' hkq hcl haq HIX.out HWF.out HNOT.out)
            have c0 : wq.cell? ⟨tp, 0, none⟩ = some (.slice na E.length nc) := by rw [cell_of_block hhq]; rfl
            have tpr : some tp ≠ (Value.slice na E.length nc).ownBlock := fun e => by
              rcases hzE.row.2 with ⟨e2, _⟩ | ⟨g', cap, cur, e2, _, hh, _⟩
              · rw [e2] at e; simp [Value.ownBlock] at e
              · rw [e2] at e
                simp only [Value.ownBlock, Option.some.injEq] at e
                subst e
                rw [hzE.head] at hh
                simp at hh
            have htq : tp < wq.heap.size := (Array.getElem?_eq_some_iff.1 hhq).1
            have hh8 : w8.heap[tp]? = some (.cells #[.slice na E.length nc, .map (some mb)] 136) := (h2'.block tp (by simp; omega) tpr).trans ((blk_old _ _ htq).trans hhq)
            have d0 : w8.cell? ⟨tp, 0, none⟩ = some (.slice na E.length nc) := by rw [cell_of_block hh8]; rfl
            have df0 := frozen_of_block hh8 0
            have x0 : wq.cell? ⟨p2, 0, none⟩ = some (.string s) := by rw [cell_of_block hp2]; rfl
            have x1 : wq.cell? ⟨p2, 1, none⟩ = some (.int .i64 r) := by rw [cell_of_block hp2]; rfl
            have x2 : wq.cell? ⟨p2, 2, none⟩ = some (.slice a js.length c) := by rw [cell_of_block hp2]; rfl
            have x3 : wq.cell? ⟨p2, 3, none⟩ = some (.int .i64 (ylen (.node s r ks) : Int)) := by rw [cell_of_block hp2]; rfl
            have c0a : (wq.alloc (.cells #[.string s, .int .i64 r, .slice a js.length c, .int .i64 (ylen (.node s r ks) : Int)] 141)).cell? ⟨tp, 0, none⟩ = some (.slice na E.length nc) := (World.cell?_of_block (w := wq) (a := ⟨tp, 0, none⟩) (blk_old _ _ htq)).trans c0
            rcases h1.2 with ⟨_, h0⟩ | ⟨g', cp', cur, hv', _⟩
            · omega
            subst hv'
            clear h1 h2 h2' h4 h4' hrq hhq hh8 hkq haq hp2 hzE notmb old tpr
            go_wp2_with fail
            go_region_law (first | (refine step_append_run rfl _ _ 134 rfl _ _ _ w8 rfl rfl hap ?_))
            all_goals go_wp2_with fail
            all_goals
              go_ret
              exact FIN.out
end Go.Proofs.YtpkejcjjbkgomaaDoor
