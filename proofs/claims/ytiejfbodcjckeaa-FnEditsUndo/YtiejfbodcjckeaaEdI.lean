/- Edits are drawn: the contract of l8Edits. -/
import Derived.Test.YtiejfbodcjckeaaEdH
import Derived.Maps.AppendAt
import Derived.Laws.OwnMore
namespace Go.Proofs.Ytiejfbodcjckeaa
open Go.ChangeShapes Go.WideShapes Go.ChangeAt Go.RowKit
set_option maxRecDepth 100000
theorem infoEdit : (Try.prog.info? 27).map (fun i => (i.zero, i.size, i.bytes)) = some (some (.agg #[.int .i64 0, .int .i64 0, .string ByteArray.empty]), 3, 32) := by kernel_rfl
def flatE (xs : List EditT) : List Value := xs.flatMap fun x => [.int .i64 x.1, .int .i64 x.2.1, .string x.2.2]
theorem flatE_len (xs : List EditT) : (flatE xs).length = xs.length * 3 := by
  induction xs with
  | nil => rfl
  | cons x xs ih => simp only [flatE, List.flatMap_cons, List.length_append] at ih ⊢; simp at ih ⊢; omega
theorem flatE_append (xs ys : List EditT) : flatE (xs ++ ys) = flatE xs ++ flatE ys := by unfold flatE; rw [List.flatMap_append]
theorem flatE_at (xs : List EditT) : ∀ i (h : i < xs.length), (flatE xs)[i * 3]? = some (.int .i64 xs[i].1) ∧ (flatE xs)[i * 3 + 1]? = some (.int .i64 xs[i].2.1) ∧ (flatE xs)[i * 3 + 2]? = some (.string xs[i].2.2) := by
  induction xs with
  | nil => intro i h; exact absurd h (Nat.not_lt_zero _)
  | cons x xs ih =>
    intro i h
    have e : flatE (x :: xs) = [.int .i64 x.1, .int .i64 x.2.1, .string x.2.2] ++ flatE xs := rfl
    cases i with
    | zero => rw [e]; exact ⟨rfl, rfl, rfl⟩
    | succ i =>
      have := ih i (by simpa using h)
      rw [e, List.getElem?_append_right (by simp; omega), List.getElem?_append_right (by simp; omega), List.getElem?_append_right (by simp; omega)]
      rw [show (i + 1) * 3 - [Value.int .i64 x.1, .int .i64 x.2.1, .string x.2.2].length = i * 3 from by simp; omega, show (i + 1) * 3 + 1 - [Value.int .i64 x.1, .int .i64 x.2.1, .string x.2.2].length = i * 3 + 1 from by simp; omega, show (i + 1) * 3 + 2 - [Value.int .i64 x.1, .int .i64 x.2.1, .string x.2.2].length = i * 3 + 2 from by simp; omega]
      exact this
/-- edits of the call's own, in block g -/
def OwnEd (w : World) (B g : Nat) (xs : List EditT) (cap : Nat) : Prop := w.ownsRow B 27 3 (.slice (some ⟨g, 0, none⟩) xs.length cap) xs.length (flatE xs)
theorem OwnEd.base {w : World} {B g : Nat} {xs : List EditT} {cap : Nat} (h : OwnEd w B g xs cap) : B ≤ g ∧ g < w.heap.size := World.ownsRow.lt h g rfl
theorem OwnEd.block {w w' : World} {B g : Nat} {xs : List EditT} {cap : Nat} (h : OwnEd w B g xs cap) (hb : w'.heap[g]? = w.heap[g]?) : OwnEd w' B g xs cap := by
  refine ⟨h.1, ?_⟩
  rcases h.2 with h0 | ⟨g', cap', cur, h1, h2, h3, h4⟩
  · exact .inl h0
  · simp only [Value.slice.injEq, Option.some.injEq, Addr.mk.injEq] at h1
    obtain ⟨⟨rfl, _⟩, _, rfl⟩ := h1
    exact .inr ⟨g, cap, cur, rfl, h2, hb.trans h3, h4⟩
theorem OwnEd.alloc {w : World} {B g : Nat} {xs : List EditT} {cap : Nat} (h : OwnEd w B g xs cap) (o : Obj) : OwnEd (w.alloc o) B g xs cap := World.ownsRow.alloc h o
theorem OwnEd.only {w w' : World} {B g R : Nat} {xs : List EditT} {cap : Nat} (h : OwnEd w B g xs cap) (ho : Only R w w') (hR : g ≠ R) : OwnEd w' B g xs cap := h.block (ho.block g h.base.2 hR)
theorem OwnEd.keep {w w' : World} {B g B' : Nat} {xs : List EditT} {cap : Nat} (h : OwnEd w B g xs cap) (hb : Below B' w w') (hB : w.heap.size ≤ B') : OwnEd w' B g xs cap := h.block (hb.block g (Nat.lt_of_lt_of_le h.base.2 hB))
theorem OwnEd.mono {w : World} {B B' g : Nat} {xs : List EditT} {cap : Nat} (h : OwnEd w B g xs cap) (hB : B' ≤ B) : OwnEd w B' g xs cap := by
  refine ⟨h.1, ?_⟩
  rcases h.2 with h0 | ⟨g', cap', cur, h1, h2, h3⟩
  · exact .inl h0
  · exact .inr ⟨g', cap', cur, h1, Nat.le_trans hB h2, h3⟩
theorem OwnEd.lit0 (w : World) (B : Nat) (hB : B ≤ w.heap.size) : OwnEd (w.alloc (.cells #[] 27)) B w.heap.size [] 0 :=
  World.ownsRow_lit w #[] 0 hB (by decide) rfl
theorem OwnEd.at {w : World} {B g : Nat} {xs : List EditT} {cap : Nat} (h : OwnEd w B g xs cap) (hl : xs.length ≤ 1000000) (hw : ∀ x ∈ xs, EditWf x) : EditsAt w (some ⟨g, 0, none⟩) xs := by
  refine ⟨by unfold maxLen; omega, fun i hi => ⟨hw _ (List.getElem_mem hi), g, 0, rfl, h.base.2, ?_, ?_, ?_⟩⟩
  · rw [Nat.zero_add, World.ownsRow.cellAt h _ (by omega), (flatE_at xs i hi).1]
  · rw [Nat.zero_add, World.ownsRow.cellAt h _ (by omega), (flatE_at xs i hi).2.1]
  · rw [Nat.zero_add, World.ownsRow.cellAt h _ (by omega), (flatE_at xs i hi).2.2]
theorem list_append_edit {ops : Array Oper} {rest : List Oper} {o : Oper} {a : Act} {w : World} {Q : Exit → Act → World → Prop} (hgd : o.guard = none) (s x : Operand)
    (ho : o.op = .call { callee := .builtin .append, args := #[s, x], argTypes := #[36, 36] })
    (B g cap b off c : Nat) (xs ys : List EditT) (hs : a.eval s = .slice (some ⟨g, 0, none⟩) xs.length cap) (hx : a.eval x = .slice (some ⟨b, off, none⟩) ys.length c) (hown : OwnEd w B g xs cap)
    (hc : ∀ j u, (flatE ys)[j]? = some u → w.cell? ⟨b, off + j, none⟩ = some u) (hlen : xs.length + ys.length ≤ 1000000) (h0 : 0 < ys.length) (hB : B ≤ w.heap.size)
    (h : ∀ g' cap' w', OwnEd w' B g' (xs ++ ys) cap' → w.grownBy w' (some g) → wpList Try.prog ops Q rest (a.put o.dst (.slice (some ⟨g', 0, none⟩) (xs.length + ys.length) cap')) w') :
    wpList Try.prog ops Q (o :: rest) a w := by
  obtain ⟨i0, hi0, hz0, hz1, hz2⟩ := info_parts infoEdit
  refine wpList_append_own w hgd s x 36 ho B 27 i0 (.agg #[.int .i64 0, .int .i64 0, .string ByteArray.empty]) 3 32 Try.underlying36 hi0 hz0 hz1 hz2 rfl (by decide) (.slice (some ⟨g, 0, none⟩) xs.length cap) xs.length (flatE xs) hs hown ⟨b, off, none⟩ ys.length c (flatE ys) hx (flatE_len ys)
    (fun j u hj => by
      have e : (⟨b, off, none⟩ : Addr).add j = ⟨b, off + j, none⟩ := by cases j <;> simp [Addr.add]
      rw [e]; exact hc j u hj) (fun u hu => by
      unfold flatE at hu
      obtain ⟨y, _, hy⟩ := List.mem_flatMap.1 hu
      simp only [List.mem_cons, List.not_mem_nil, or_false] at hy
      rcases hy with rfl | rfl | rfl <;> rfl) (by unfold maxLen; omega) (by omega) hB ?_
  intro v' w' h1 h2 h3
  rcases h1.2 with ⟨hn, _⟩ | ⟨g', cap', cur', hv', _⟩
  · have := (h3.1 hn).2; omega
  · subst hv'
    refine h g' cap' w' ?_ h2
    unfold OwnEd
    rw [flatE_append, List.length_append]
    exact h1
theorem lit_edit (w : World) (k a : Int) (g : ByteArray) (T : TypeId) : ∀ j u, (flatE [(k, a, g)])[j]? = some u → (w.alloc (.cells #[.int .i64 k, .int .i64 a, .string g] T)).cell? ⟨w.heap.size, 0 + j, none⟩ = some u := by
  intro j u hj
  match j, hj with
  | 0, hj => simp [flatE] at hj; subst hj; simp
  | 1, hj => simp [flatE] at hj; subst hj; simp
  | 2, hj => simp [flatE] at hj; subst hj; simp
  | j + 3, hj => simp [flatE] at hj
theorem Only.grown {R : Nat} {w w1 w2 : World} {g : Nat} (h : Only R w w1) (hg : w1.grownBy w2 (some g)) (hB : w.heap.size ≤ g) : Only R w w2 :=
  ⟨hg.os.trans h.os, hg.tape.trans h.tape, hg.output.trans h.output, Nat.le_trans h.size hg.size, fun k hk hR => (hg.block k (Nat.lt_of_lt_of_le hk h.size) (by simp; omega)).trans (h.block k hk hR)⟩
theorem Rdk.same' {w w' : World} {R k : Nat} (h : Rdk w R k) (hs : ∀ q, q ≤ R → w'.heap[q]? = w.heap[q]?) : Rdk w' R k := by
  obtain ⟨a, n, cap, p, h1, h2, h3, h4⟩ := h
  refine ⟨a, n, cap, p, (hs R (Nat.le_refl _)).trans h1, h2, h3, fun i hi => ?_⟩
  obtain ⟨b, off, x, e, hb, hc, hx⟩ := h4 i hi
  exact ⟨b, off, x, e, hb, by rw [World.cell?_of_block (w := w) (a := ⟨b, off + i, none⟩) (hs b (by omega))]; exact hc, hx⟩
theorem Rdk.grown {w w' : World} {R k g : Nat} (h : Rdk w R k) (hg : w.grownBy w' (some g)) (hR : R < g) : Rdk w' R k :=
  h.same' fun q hq => hg.block q (by have := h.lt; omega) (by simp; omega)
def SmallE (xs : List EditT) : Prop := ∀ x ∈ xs, EditWf x
/-- edits were drawn -/
def DrawnEs (R k : Nat) (w : World) (e : Ending) (w' : World) : Prop := ∃ g cap xs, e = .returned (.slice (some ⟨g, 0, none⟩) xs.length cap) ∧ EditsAt w' (some ⟨g, 0, none⟩) xs ∧ xs.length ≤ 13 ∧ w.heap.size ≤ g ∧ Rdk w' R k ∧ Only R w w'
/-- what holds at the head of each round -/
def EdsRel (R k : Nat) (w wr : World) (m : Nat) (v : Value) : Prop := ∃ g cap xs, v = .slice (some ⟨g, 0, none⟩) xs.length cap ∧ OwnEd wr w.heap.size g xs cap ∧ SmallE xs ∧ xs.length + m ≤ 13 ∧ Rdk wr R (k + 1 + 6 * (13 - m)) ∧ Only R w wr
set_option maxHeartbeats 2000000 in
theorem l8Edits_any (R k : Nat) (s : ByteArray) (w : World) (H : Rdk w R k) (hk : k + 100 ≤ 1000000) (hs : s.size ≤ 1000) :
    Calls Try.prog 38 #[.pointer (some ⟨R, 0, none⟩), .string s] w (DrawnEs R (k + 79) w) := by
  have hRl := H.lt
  have r1 := H.alloc (.cells #[] 27)
  have o1 := (Only.refl R w).alloc (.cells #[] 27)
  have E1 := OwnEd.lit0 w w.heap.size (Nat.le_refl _)
  have hwR : w.heap.size ≠ R := by omega
  go_enter Try.func38, Try.ntmps38
  go_wp2_with fail
  have hs1 : (w.alloc (.cells #[] 27)).heap.size = w.heap.size + 1 := by simp
  rw [← hs1]
  clear hs1
  generalize w.alloc (.cells #[] 27) = w1 at *
  refine (num_any R k w1.heap.size 6 _ [2, 3, 1, 0, 5, 13] _ (r1.alloc _) (by omega) rfl (by omega) (by omega) (by have := r1.lt; omega) (lit_ints w1 [2, 3, 1, 0, 5, 13] _)).mono ?_
  rintro e w2 ⟨z, rfl, hz, r2, o2⟩
  have hz1 : ∃ m : Nat, z = (m : Int) ∧ m ≤ 13 := by
    simp only [List.mem_cons, List.not_mem_nil, or_false] at hz
    exact ⟨z.toNat, by omega, by omega⟩
  obtain ⟨m, rfl, hm⟩ := hz1
  have E2 := (E1.alloc _).only o2 hwR
  have o2' := (o1.alloc _).trans o2
  clear hz E1 o1 r1 o2
  have h0 : EdsRel R k w w2 m (.slice (some ⟨w.heap.size, 0, none⟩) 0 0) := ⟨w.heap.size, 0, [], rfl, E2, fun x hx => (by cases hx), by simpa using hm, r2.mono (by omega), o2'⟩
  clear E2 r2 o2'
  go_wp2
  go_loopw [1, 5, 6] (fun tv v i wr => ∃ (m : Nat) (t : ByteArray), m ≤ 13 ∧ i = .int .i64 m ∧ tv = .string t ∧ t.size ≤ 1000 ∧ EdsRel R k w wr m v) (fun _ _ i _ => (intOf i).toNat)
  case atStart => exact ⟨m, s, hm, rfl, rfl, hs, h0⟩
  case round =>
    clear h0 hm hs
    obtain ⟨m, t, hm, rfl, rfl, ht, g, cap, xs, rfl, hown, hwf, hlen, hrd, ho⟩ := hrel
    by_cases hm0 : 0 < m
    · have hm0' : (0 : Int) < (m : Int) := by omega
      have hgb := hown.base
      have hgR : g ≠ R := by omega
      go_wp2_with fail
      refine (l8Any_any R _ t _ hrd (by omega) ht).mono ?_
      rintro e w3 ⟨zk, za, zg, rfl, hew, hzg, r3, o3⟩
      have O3 := hown.only o3 hgR
      have o3' := ho.trans o3
      clear hown hrd ho o3
      have r4 := r3.alloc (.cells #[.int .i64 zk, .int .i64 za, .string zg] 27)
      have O4 := O3.alloc (.cells #[.int .i64 zk, .int .i64 za, .string zg] 27)
      have o4 := o3'.alloc (.cells #[.int .i64 zk, .int .i64 za, .string zg] 27)
      have X4 := BoxE.new w3 zk za zg 27
      have hb3 := O3.base
      clear r3 O3 o3'
      go_wp2_with fail
      refine (sEditDo_any zk za zg t _ (by unfold maxLen; omega)).mono ?_
      rintro e w5 ⟨rfl, hb5⟩
      have r5 := r4.below hb5
      have O5 := O4.keep hb5 (Nat.le_refl _)
      have o5 := o4.trans (Only.of_below hb5)
      have X5 := X4.keep hb5 (Nat.le_refl _)
      clear r4 O4 o4 X4 hb5
      generalize w3.heap.size = b3 at *
      have hd := doS_size t zk za zg
      have k1 : ((m - 1 : Nat) : Int) = (m : Int) - 1 := by omega
      have K1 := Lib.hid k1
      clear k1
      cases hdo : doB t zk za zg with
      | true =>
        clear hdo
        generalize doS t zk za zg = t' at *
        obtain ⟨hxl, x0, x1, x2⟩ := X5
        have r7 := r5.alloc (.cells #[.int .i64 zk, .int .i64 za, .string zg] 27)
        have O7 := O5.alloc (.cells #[.int .i64 zk, .int .i64 za, .string zg] 27)
        have o7 := o5.alloc (.cells #[.int .i64 zk, .int .i64 za, .string zg] 27)
        have hgs : w5.heap.size + 1 = (w5.alloc (.cells #[.int .i64 zk, .int .i64 za, .string zg] 27)).heap.size := by simp
        have hgw := o5.size
        clear r5 O5 o5
        go_wp2_with (at_builtin; refine list_append_edit rfl _ _ rfl w.heap.size g cap w5.heap.size 0 1 xs [(zk, za, zg)] rfl rfl O7 (lit_edit w5 zk za zg _) (by simp; omega) (by simp) (by rw [← hgs]; omega) ?_)
        intro g' cap' w9 hO hG
        have r9 := r7.grown hG (by omega)
        have o9 := o7.grown hG (by omega)
        have hO' := hO
        rw [show xs ++ [(zk, za, zg)] = xs ++ [(zk, za, zg)] from rfl] at hO'
        have hrel : EdsRel R k w w9 (m - 1) (.slice (some ⟨g', 0, none⟩) (xs.length + 1) cap') := ⟨g', cap', xs ++ [(zk, za, zg)], by simp, hO, fun x hx => by
          rcases List.mem_append.1 hx with hx | hx
          · exact hwf x hx
          · obtain rfl : x = (zk, za, zg) := by simpa using hx
            exact hew, by simp; omega, r9.mono (by omega), o9⟩
        clear r7 O7 o7 hG hO hO' r9 o9 x0 x1 x2 hgs hgw hxl
        go_wp2
        go_roundw
        case rel => exact ⟨m - 1, t', by omega, by go_num, rfl, by omega, hrel⟩
        case measure => simp [intOf]; omega
      | false =>
        clear hdo
        generalize doS t zk za zg = t' at *
        go_wp2_with fail
        refine (pick_any R _ 10 _ r5 (by omega) (by omega) (by omega)).mono ?_
        rintro e w6 ⟨v, rfl, hv, r6, o6⟩
        have O6 := O5.only o6 hgR
        have hbR : b3 ≠ R := by omega
        have X6 : BoxE w6 b3 zk za zg := ⟨Nat.lt_of_lt_of_le X5.1 o6.size, (o6.cell (p := ⟨b3, 0, none⟩) X5.1 hbR).trans X5.2.1, (o6.cell (p := ⟨b3, 1, none⟩) X5.1 hbR).trans X5.2.2.1, (o6.cell (p := ⟨b3, 2, none⟩) X5.1 hbR).trans X5.2.2.2⟩
        have o6' := o5.trans o6
        clear r5 O5 o5 X5 o6 hv
        by_cases hv0 : v = 0
        · subst hv0
          obtain ⟨hxl, x0, x1, x2⟩ := X6
          have r7 := r6.alloc (.cells #[.int .i64 zk, .int .i64 za, .string zg] 27)
          have O7 := O6.alloc (.cells #[.int .i64 zk, .int .i64 za, .string zg] 27)
          have o7 := o6'.alloc (.cells #[.int .i64 zk, .int .i64 za, .string zg] 27)
          have hgs : w6.heap.size + 1 = (w6.alloc (.cells #[.int .i64 zk, .int .i64 za, .string zg] 27)).heap.size := by simp
          have hgw := o6'.size
          clear r6 O6 o6'
          go_wp2_with (at_builtin; refine list_append_edit rfl _ _ rfl w.heap.size g cap w6.heap.size 0 1 xs [(zk, za, zg)] rfl rfl O7 (lit_edit w6 zk za zg _) (by simp; omega) (by simp) (by rw [← hgs]; omega) ?_)
          intro g' cap' w9 hO hG
          have r9 := r7.grown hG (by omega)
          have o9 := o7.grown hG (by omega)
          have hO' := hO
          rw [show xs ++ [(zk, za, zg)] = xs ++ [(zk, za, zg)] from rfl] at hO'
          have hrel : EdsRel R k w w9 (m - 1) (.slice (some ⟨g', 0, none⟩) (xs.length + 1) cap') := ⟨g', cap', xs ++ [(zk, za, zg)], by simp, hO, fun x hx => by
            rcases List.mem_append.1 hx with hx | hx
            · exact hwf x hx
            · obtain rfl : x = (zk, za, zg) := by simpa using hx
              exact hew, by simp; omega, r9.mono (by omega), o9⟩
          clear r7 O7 o7 hG hO hO' r9 o9 x0 x1 x2 hgs hgw hxl
          go_wp2
          go_roundw
          case rel => exact ⟨m - 1, t, by omega, by go_num, rfl, ht, hrel⟩
          case measure => simp [intOf]; omega
        · have e0 : (v == 0) = false := by simpa using hv0
          clear hv0
          have hrel : EdsRel R k w w6 (m - 1) (.slice (some ⟨g, 0, none⟩) xs.length cap) := ⟨g, cap, xs, rfl, O6, hwf, by omega, r6.mono (by omega), o6'⟩
          clear O6 r6 o6' X6
          go_wp2
          go_roundw
          case rel => exact ⟨m - 1, t, by omega, by go_num, rfl, ht, hrel⟩
          case measure => simp [intOf]; omega
    · obtain rfl : m = 0 := by omega
      have hat := hown.at (by omega) hwf
      have hgb := hown.base
      go_wp2
      go_ret
      exact ⟨g, cap, xs, rfl, hat, by omega, hgb.1, hrd.mono (by omega), ho⟩
end Go.Proofs.Ytiejfbodcjckeaa
