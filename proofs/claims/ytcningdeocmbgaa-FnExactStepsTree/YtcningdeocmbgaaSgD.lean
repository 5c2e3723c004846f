/- The contract of the program's do: one step. -/
import Derived.Test.YtcningdeocmbgaaSgC
namespace Go.Proofs.Ytcningdeocmbgaa
open Go.ChangeShapes Go.WideShapes Go.ChangeAt Go.RowKit Go.Deep
set_option maxRecDepth 100000
theorem eqGuard_Step (op : BinOp) (x y : Operand) (xs ys : Array Value) (w : World) : (eqGuard op 57 x y (.agg xs) (.agg ys)).run Try.prog w = .ok () w :=
  run_eqGuard_agg w op 57 x y xs ys (by kernel_rfl)
def eqS (a b : StpT) : Bool := a.1 == b.1 && a.2 == b.2
theorem run_neq_Step (r r' d d' : Int) (w : World) : Sem.run Try.prog (binOp .neq 57 (.agg #[.int .i64 r, .int .i64 d]) (.agg #[.int .i64 r', .int .i64 d'])) w = .ok (.bool (!eqS (r, d) (r', d'))) w := by
  rw [run_neq_struct, run_equalIn_agg w 9999 57 _ _ (by kernel_rfl) (by kernel_rfl)]
  cases h1 : (r == r') <;> cases h2 : (d == d') <;> simp [Op.eqFields, go_sem, eqS, h1, h2, Result.andThen]
theorem eqS_iff (a b : StpT) : eqS a b = true ↔ a = b := by
  obtain ⟨a1, a2⟩ := a
  obtain ⟨b1, b2⟩ := b
  simp [eqS]
theorem doT_two {rs : List RuleT} {s : ByteArray} {q : Nat × List Tr} {z : StpT} (h : z.1 = 2) : doT rs s q z = (joinT rs q.2 z.2).map (fun Ts => (q.1, Ts)) := by
  unfold doT
  rw [if_pos h]
  cases joinT rs q.2 z.2 <;> rfl
/-- what is left of the text -/
def restS (s : ByteArray) (n : Nat) : ByteArray := bytesOf (s.data.toList.drop n)
theorem restS_size (s : ByteArray) (n : Nat) : (restS s n).size = s.size - n := by unfold restS; rw [bytesOf_size]; simp
theorem restS_one {s : ByteArray} {n : Nat} (h : n < s.size) : (restS s n).extract 0 1 = bytesOf [s.data.toList.getD n 0] := by
  have hl : n < s.data.toList.length := by simpa using h
  apply bytesOf_ext
  rw [ByteArray.data_extract]
  unfold restS bytesOf
  simp only [List.extract_toArray]
  rw [List.drop_eq_getElem_cons hl, List.getD_eq_getElem?_getD, List.getElem?_eq_getElem hl]
  rfl
theorem restS_next (s : ByteArray) (n : Nat) : (restS s n).extract 1 (restS s n).size = restS s (n + 1) := by
  apply bytesOf_ext
  rw [ByteArray.data_extract, restS_size]
  unfold restS bytesOf
  simp only [List.extract_toArray]
  show (List.drop 1 (List.drop n s.data.toList)).take (s.size - n - 1) = _
  rw [List.drop_drop, List.take_of_length_le (by simp; omega)]
theorem restS_zero (s : ByteArray) : restS s 0 = s := by unfold restS; rw [List.drop_zero]; exact bytesOf_self s
theorem restS_empty (s : ByteArray) (n : Nat) : (restS s n).toList.isEmpty = decide (s.size ≤ n) := by
  rw [Go.ByteArray.toList_eq]
  unfold restS bytesOf
  by_cases h : s.size ≤ n
  · simp [h]
  · simp [h]
/-- the last tree of a row is written over -/
theorem row_last {w : World} {B : Nat} {us : List KidO} {u x : KidO} {g cap : Nat} (h : w.ownsRow B 30 3 (.slice (some ⟨g, 0, none⟩) (us.length + 1) cap) (us.length + 1) (flatO (us ++ [u]))) :
    (((w.setCell ⟨g, us.length * 3, none⟩ (.string x.1)).setCell ⟨g, us.length * 3 + 1, none⟩ (.int .i64 x.2.1)).setCell ⟨g, us.length * 3 + 2, none⟩ x.2.2).ownsRow B 30 3 (.slice (some ⟨g, 0, none⟩) (us.length + 1) cap) (us.length + 1) (flatO (us ++ [x])) := by
  rcases h.2 with ⟨h0, _⟩ | ⟨g', cap', cur, hv, hg, hh, hl, hm, hs, ht⟩
  · cases h0
  · simp only [Value.slice.injEq, Option.some.injEq, Addr.mk.injEq] at hv
    obtain ⟨⟨rfl, _⟩, _, rfl⟩ := hv
    refine ⟨by rw [flatO_len]; simp, .inr ⟨g, cap, ((cur.setIfInBounds (us.length * 3) (.string x.1)).setIfInBounds (us.length * 3 + 1) (.int .i64 x.2.1)).setIfInBounds (us.length * 3 + 2) x.2.2, rfl, hg, by simp [World.setCell, Array.getElem?_modify, hh], hl, hm, by simpa using hs, ?_⟩⟩
    have hfl := flatO_len us
    rw [Array.toList_setIfInBounds, Array.toList_setIfInBounds, Array.toList_setIfInBounds, List.take_set, List.take_set, List.take_set, ht, flatO_snoc, flatO_snoc, List.set_append_right _ _ (by omega), List.set_append_right _ _ (by omega), List.set_append_right _ _ (by omega), hfl]
    simp
theorem leaf_ok (w : World) (c : UInt8) : KidOk w (bytesOf [c], -1, .slice none 0 0) (.node 0 (bytesOf [c]) (-1) []) :=
  ⟨none, 0, rfl, Nat.le_refl _, by show (bytesOf [c]).size ≤ maxLen; rw [bytesOf_size]; unfold maxLen; simp, by show (Lit.int .i64 (-1)).wf = true; decide, Nat.zero_le _, OwnK.none _ _⟩
theorem set_same {w w' : World} {x : Nat} (h : w'.heap[x]? = w.heap[x]?) (p : Addr) (v : Value) : (w'.setCell p v).heap[x]? = (w.setCell p v).heap[x]? := by simp [World.setCell, Array.getElem?_modify, h]
/-- how the builder stands behind a step -/
def DoFin (w : World) (b : Nat) (v0 : Value) (rest : ByteArray) (v : Value) (Ts : List Tr) (W : World) : Prop := Below b w W ∧ BoxB W b v0 (.string rest) v ∧ ∃ us' ts', TreesW W (b + 1) v us' ts' ∧ ts'.map OT.tr = Ts
attribute [-go_sem] BigFrame.builtin_append
attribute [local go_sem ↓] builtin_appT
set_option maxHeartbeats 4000000 in
theorem do_any (b : Nat) (a : Option Addr) (cg : Nat) (rs : List RuleT) (s : ByteArray) (n : Nat) (v : Value) (us : List KidO) (ts : List OT) (z : StpT) (w : World) (HB : BoxB w b (.slice a rs.length cg) (.string (restS s n)) v) (HT : TreesW w (b + 1) v us ts) (HR : RulesAt w a rs)
    (hrs : ∀ x ∈ rs, x.1.size = 1 ∧ x.2.size ≤ 4) (hr : (Lit.int .i64 z.2).wf = true) (hn : us.length ≤ 201) (hs : ∀ t ∈ ts, t.s.size = 1) :
    Calls Try.prog 33 #[.pointer (some ⟨b, 0, none⟩), .agg #[.int .i64 z.1, .int .i64 z.2]] w fun e w' => Below b w w' ∧
      ((doT rs s (n, ts.map OT.tr) z = none ∧ e = .returned (.bool false)) ∨
       ∃ n' v' us' ts', doT rs s (n, ts.map OT.tr) z = some (n', ts'.map OT.tr) ∧ e = .returned (.bool true) ∧ BoxB w' b (.slice a rs.length cg) (.string (restS s n')) v' ∧ TreesW w' (b + 1) v' us' ts') := by
  obtain ⟨z1, z2⟩ := z
  have hbl := HB.lt
  have hb1 := (Below.refl w.heap.size w).alloc (Nat.le_refl _) (.cells #[.int .i64 z1, .int .i64 z2] 57)
  have X1 := Box2.new w (.int .i64 z1) (.int .i64 z2) 57
  have HB1 := HB.below hb1
  have HT1 := HT.below hb1
  have HR1 := HR.below hb1 (Nat.le_refl _)
  obtain ⟨k0, k1, k2, kf⟩ := HB1.cells
  obtain ⟨x0, x1⟩ := X1.2
  by_cases h2 : z1 = 2
  · have h2b : (z1 == 2) = true := by simp [h2]
    have HD : Hid (doT rs s (n, ts.map OT.tr) (z1, z2) = (joinT rs (ts.map OT.tr) z2).map (fun Ts => (n, Ts))) := doT_two h2
    clear h2
    go_enter Try.func33, Try.ntmps33
    go_wp2_with fail
    refine (reduce_any b a cg rs (restS s n) v us ts z2 _ HB1 HT1 HR1 hrs hr hn hs).mono ?_
    rintro e w2 ⟨hb2, ⟨hj, rfl⟩ | ⟨v', us', ts', hj, rfl, HB2, HT2⟩⟩
    · have HJ := Lib.hid hj
      clear hj
      go_wp2_with fail
      go_ret
      exact ⟨(hb1.mono (Nat.le_of_lt hbl)).trans hb2, .inl ⟨by rw [HD.out, HJ.out]; rfl, rfl⟩⟩
    · have HJ := Lib.hid hj
      clear hj
      go_wp2_with fail
      go_ret
      exact ⟨(hb1.mono (Nat.le_of_lt hbl)).trans hb2, .inr ⟨n, v', us', ts', by rw [HD.out, HJ.out]; rfl, rfl, HB2, HT2⟩⟩
  have h2b : (z1 == 2) = false := by simp [h2]
  have hgd := eqGuard_Step
  cases he : eqS (z1, z2) (1, 0) with
  | false =>
    have HD : Hid (doT rs s (n, ts.map OT.tr) (z1, z2) = none) := by
      show _ = _
      unfold doT
      rw [if_neg h2, if_neg (fun h => by have := (eqS_iff _ _).2 h.1; rw [he] at this; cases this)]
    have hnq : ∀ W : World, Sem.run Try.prog (binOp .neq 57 (.agg #[.int .i64 z1, .int .i64 z2]) (.agg #[.int .i64 1, .int .i64 0])) W = .ok (.bool true) W := fun W => by rw [run_neq_Step, he]; rfl
    clear h2 he
    go_enter Try.func33, Try.ntmps33
    go_wp2_with fail
    go_ret
    exact ⟨hb1.mono (Nat.le_of_lt hbl), .inl ⟨HD.out, rfl⟩⟩
  | true =>
    have hnq : ∀ W : World, Sem.run Try.prog (binOp .neq 57 (.agg #[.int .i64 z1, .int .i64 z2]) (.agg #[.int .i64 1, .int .i64 0])) W = .ok (.bool false) W := fun W => by rw [run_neq_Step, he]; rfl
    have hze := (eqS_iff _ _).1 he
    have HZ := Lib.hid hze
    have hemp := restS_empty s n
    by_cases hnl : s.size ≤ n
    · have HD : Hid (doT rs s (n, ts.map OT.tr) (z1, z2) = none) := by
        show _ = _
        unfold doT
        rw [if_neg h2, if_neg (fun h => by have := h.2; omega)]
      rw [decide_eq_true hnl] at hemp
      have hnil : (restS s n).toList = [] := List.isEmpty_iff.1 hemp
      clear h2 he hze
      go_enter Try.func33, Try.ntmps33
      go_wp2_with fail
      go_ret
      exact ⟨hb1.mono (Nat.le_of_lt hbl), .inl ⟨HD.out, rfl⟩⟩
    · have HD : Hid (doT rs s (n, ts.map OT.tr) (z1, z2) = some (n + 1, ts.map OT.tr ++ [leafT s n])) := by
        show _ = _
        unfold doT
        rw [if_neg h2, if_pos ⟨hze, by omega⟩]
      rw [decide_eq_false hnl] at hemp
      have hnil : ¬ (restS s n).toList = [] := fun e => by rw [e] at hemp; simp at hemp
      have hone := restS_one (s := s) (n := n) (by omega)
      have hnext := restS_next s n
      have hrsz := restS_size s n
      obtain ⟨c, hc⟩ : ∃ c, c = s.data.toList.getD n 0 := ⟨_, rfl⟩
      rw [← hc] at hone
      have HLF : Hid (leafT s n = .node (bytesOf [c]) (-1) []) := by show _ = _; unfold leafT; rw [← hc]
      have hs1 : (1 : Int) ≤ (((restS s n).size : Nat) : Int) := by omega
      clear h2 he hze hc hrsz
      go_enter Try.func33, Try.ntmps33
      go_wp2_with fail
      obtain ⟨av, cv, rfl⟩ : ∃ av cv, v = .slice av us.length cv := by obtain ⟨a, cap, _, e, _⟩ := HT.cuts 0 (Nat.zero_le _); exact ⟨a, cap, e⟩
      have HBW := Lib.hid (hb1.mono (Nat.le_of_lt hbl))
      generalize hW1 : w.alloc (.cells #[.int .i64 z1, .int .i64 z2] 57) = W1 at *
      clear hW1
      have hbA := (Below.refl _ _).alloc (Nat.le_refl W1.heap.size) (.cells #[.string ⟨#[]⟩, .int .i64 0, .slice none 0 0] 30)
      have HB2 := HB1.below hbA
      have HT2 := HT1.below hbA
      obtain ⟨v', w5, hap2, hrow5, hg5, _, hat5⟩ := run_appT (w := (W1.alloc (.cells #[.string ⟨#[]⟩, .int .i64 0, .slice none 0 0] 30)).drew) (B := b + 1) (v := .slice av us.length cv) (us := us) HT2.row ⟨W1.heap.size, 0, none⟩ [(⟨#[]⟩, 0, .slice none 0 0)] 1 (fun j u hj => by
          have hn := blk_new W1 (.cells #[.string ⟨#[]⟩, .int .i64 0, .slice none 0 0] 30) rfl
          show (W1.alloc (.cells #[.string ⟨#[]⟩, .int .i64 0, .slice none 0 0] 30)).cell? _ = _
          rw [WideShapes.add_plain, cell_of_block hn]
          simpa [flatO] using hj) (fun u hu => by rw [List.mem_singleton] at hu; subst hu; rfl) (by simp; omega) (by have := HB2.lt; show b + 1 ≤ (W1.alloc _).heap.size; omega)
      have hap3 : (appT #[28, 28] 28 #[.slice av us.length cv, .slice (some ⟨W1.heap.size, 0, none⟩) 1 1]).run Try.prog (W1.alloc (.cells #[.string ⟨#[]⟩, .int .i64 0, .slice none 0 0] 30)).drew = .ok v' w5 := hap2
      clear hap2
      have hrow6 : w5.ownsRow (b + 1) 30 3 v' (us.length + 1) (flatO (us ++ [(⟨#[]⟩, 0, .slice none 0 0)])) := hrow5
      obtain ⟨g5, cap5, rfl, hcap5, hBg5, hg5l⟩ : ∃ g cap, v' = .slice (some ⟨g, 0, none⟩) (us.length + 1) cap ∧ us.length + 1 ≤ cap ∧ b + 1 ≤ g ∧ ∃ cur : Array Value, w5.heap[g]? = some (.cells cur 30) ∧ (us.length + 1) * 3 ≤ cur.size := by
        rcases hrow6.2 with ⟨_, h0⟩ | ⟨g, cap, cur, hv, hg, hh, hl, _, hs, _⟩
        · omega
        · exact ⟨g, cap, hv, hl, hg, cur, hh, by rw [hs]; exact Nat.mul_le_mul_right 3 hl⟩
      obtain ⟨cur5, hh5, hl5⟩ := hg5l
      have hvne : ∀ x, (Value.slice av us.length cv).ownBlock = some x → b + 1 ≤ x := fun x hx => (HT2.block x hx).1
      have HB5 : BoxB w5 b (.slice a rs.length cg) (.string (restS s n)) (.slice av us.length cv) := HB2.keep (hg5.block b (by have := HB2.lt; exact this) (fun e => by have := hvne b e.symm; omega))
      obtain ⟨m0, m1, m2, mf⟩ := HB2.cells
      obtain ⟨y0, y1, y2, yf⟩ := HB5.cells
      obtain ⟨e0, p0⟩ : ∃ u, w5.cell? ⟨g5, us.length * 3, none⟩ = some u := ⟨cur5[us.length * 3]'(by omega), by rw [cell_of_block hh5]; simp⟩
      obtain ⟨e1, p1⟩ : ∃ u, w5.cell? ⟨g5, us.length * 3 + 1, none⟩ = some u := ⟨cur5[us.length * 3 + 1]'(by omega), by rw [cell_of_block hh5]; simp⟩
      obtain ⟨e2, p2⟩ : ∃ u, w5.cell? ⟨g5, us.length * 3 + 2, none⟩ = some u := ⟨cur5[us.length * 3 + 2]'(by omega), by rw [cell_of_block hh5]; simp⟩
      have q0 := frozen_of_block hh5 (us.length * 3)
      have q1 := frozen_of_block hh5 (us.length * 3 + 1)
      have q2 := frozen_of_block hh5 (us.length * 3 + 2)
      have hyf := yf 2
      have hyf1 := yf 1
      have hgb : g5 ≠ b := by omega
      have hgb' : b ≠ g5 := by omega
      have hul : ((us.length : Nat) : Int) < ((us.length : Nat) : Int) + 1 := by omega
      have hul0 : (0 : Int) ≤ ((us.length : Nat) : Int) := by omega
      have hX : TreesW (((w5.setCell ⟨g5, us.length * 3, none⟩ (.string (bytesOf [c]))).setCell ⟨g5, us.length * 3 + 1, none⟩ (.int .i64 (-1))).setCell ⟨g5, us.length * 3 + 2, none⟩ (.slice none 0 0)) (b + 1) (.slice (some ⟨g5, 0, none⟩) (us.length + 1) cap5) (us ++ [(bytesOf [c], -1, .slice none 0 0)]) (ts ++ [.node 0 (bytesOf [c]) (-1) []]) := by
        refine HT2.push (L := (W1.alloc (.cells #[.string ⟨#[]⟩, .int .i64 0, .slice none 0 0] 30)).heap.size) (leaf_ok _ c) (row_last (x := (bytesOf [c], -1, .slice none 0 0)) hrow6) (fun x hx hne => ?_) (by simp only [World.setCell, Array.size_modify]; exact hg5.size) hat5 (Nat.le_refl _) ?_ (fun x hx => ?_)
        · have hxg : x ≠ g5 := fun e => by
            rcases hat5 with h | h
            · exact hne (by rw [← h, e]; rfl)
            · simp [Value.ownBlock] at h; simp at hx; omega
          rw [Below.heap_setCell _ _ _ _ (by show x ≠ g5; exact hxg), Below.heap_setCell _ _ _ _ (by show x ≠ g5; exact hxg), Below.heap_setCell _ _ _ _ (by show x ≠ g5; exact hxg)]
          exact hg5.block x hx (fun e => hne e.symm)
        · have := HT2.nd
          rw [List.flatMap_append, List.flatMap_singleton, OT.bs]
          simpa using this
        · rw [OT.bs] at hx
          simp at hx
      have hTs : (ts ++ [OT.node 0 (bytesOf [c]) (-1) []]).map OT.tr = ts.map OT.tr ++ [leafT s n] := by
        rw [HLF.out, List.map_append, List.map_cons, List.map_nil, OT.tr]; rfl
      have hsz5 := hg5.size
      have hbw : Below b w w5 := (HBW.out).trans ((hbA.mono (Nat.le_of_lt HB1.lt)).trans ⟨hg5.os, hg5.tape, hg5.output, hg5.size, fun x hx => hg5.block x (by have := HB2.lt; exact Nat.lt_trans hx this) (fun e => by have := hvne x e.symm; omega)⟩)
      have FB : Hid (DoFin w b (.slice a rs.length cg) (restS s (n + 1)) (.slice (some ⟨g5, 0, none⟩) (us.length + 1) cap5) (ts.map OT.tr ++ [leafT s n]) (((((w5.setCell ⟨g5, us.length * 3, none⟩ (.string (bytesOf [c]))).setCell ⟨g5, us.length * 3 + 1, none⟩ (.int .i64 (-1))).setCell ⟨g5, us.length * 3 + 2, none⟩ (.slice none 0 0)).setCell ⟨b, 2, none⟩ (.slice (some ⟨g5, 0, none⟩) (us.length + 1) cap5)).setCell ⟨b, 1, none⟩ (.string (restS s (n + 1))))) := by
        refine ⟨((((hbw.setCell (by show b ≤ g5; omega) _).setCell (by show b ≤ g5; omega) _).setCell (by show b ≤ g5; omega) _).setCell (Nat.le_refl _) _).setCell (Nat.le_refl _) _, (((HB5.keep ?_).set2 _).set1 _), _, _, hX.keep (fun x hx _ => ?_) (by simp [World.setCell]), hTs⟩
        · rw [Below.heap_setCell _ _ _ _ (by show b ≠ g5; exact hgb'), Below.heap_setCell _ _ _ _ (by show b ≠ g5; exact hgb'), Below.heap_setCell _ _ _ _ (by show b ≠ g5; exact hgb')]
        · rw [Below.heap_setCell _ _ _ _ (by show x ≠ b; omega), Below.heap_setCell _ _ _ _ (by show x ≠ b; omega)]
      have FA : Hid (DoFin w b (.slice a rs.length cg) (restS s (n + 1)) (.slice (some ⟨g5, 0, none⟩) (us.length + 1) cap5) (ts.map OT.tr ++ [leafT s n]) (((((w5.setCell ⟨b, 2, none⟩ (.slice (some ⟨g5, 0, none⟩) (us.length + 1) cap5)).setCell ⟨g5, us.length * 3, none⟩ (.string (bytesOf [c]))).setCell ⟨g5, us.length * 3 + 1, none⟩ (.int .i64 (-1))).setCell ⟨g5, us.length * 3 + 2, none⟩ (.slice none 0 0)).setCell ⟨b, 1, none⟩ (.string (restS s (n + 1))))) := by
        refine ⟨((((hbw.setCell (Nat.le_refl _) _).setCell (by show b ≤ g5; omega) _).setCell (by show b ≤ g5; omega) _).setCell (by show b ≤ g5; omega) _).setCell (Nat.le_refl _) _, (((HB5.set2 _).keep ?_).set1 _), _, _, hX.keep (fun x hx _ => ?_) (by simp [World.setCell]), hTs⟩
        · rw [Below.heap_setCell _ _ _ _ (by show b ≠ g5; exact hgb'), Below.heap_setCell _ _ _ _ (by show b ≠ g5; exact hgb'), Below.heap_setCell _ _ _ _ (by show b ≠ g5; exact hgb')]
        · rw [Below.heap_setCell _ _ _ _ (by show x ≠ b; omega)]
          exact set_same (set_same (set_same (Below.heap_setCell _ _ _ _ (by show x ≠ b; omega)) _ _) _ _) _ _
      clear hX hTs hsz5 hbw hrow5 hrow6 hg5 hat5 HB5 HB2 HT2 hbA HB1 HT1 HR1 hh5 hl5 hvne hBg5 hcap5 kf mf yf
      go_region_law (fail)
      all_goals
        go_wp2_with fail
        go_ret
        first
          | (obtain ⟨f1, f2, us', ts', f3, f4⟩ := FA.out; exact ⟨f1, .inr ⟨n + 1, _, us', ts', by rw [HD.out, f4], rfl, f2, f3⟩⟩)
          | (obtain ⟨f1, f2, us', ts', f3, f4⟩ := FB.out; exact ⟨f1, .inr ⟨n + 1, _, us', ts', by rw [HD.out, f4], rfl, f2, f3⟩⟩)
end Go.Proofs.Ytcningdeocmbgaa
