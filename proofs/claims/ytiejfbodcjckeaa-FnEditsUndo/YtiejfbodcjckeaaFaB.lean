/- The contract of the model's EditsFar. -/
import Derived.Test.YtiejfbodcjckeaaFaA
import Derived.Maps.AppendAt
import Derived.Deep.RegionHeld3
import Derived.Deep.RegionLaw
import Derived.Laws.OwnMore
namespace Go.Proofs.Ytiejfbodcjckeaa
open Go.ChangeShapes Go.WideShapes Go.ChangeAt Go.RowKit
set_option maxRecDepth 100000
theorem infoInt' : (Try.prog.info? 3).map (fun i => (i.zero, i.size, i.bytes)) = some (some (.int .i64 0), 1, 8) := by kernel_rfl
def cellsI (zs : List Int) : List Value := zs.map (Value.int .i64)
/-- numbers of the call's own, in block g -/
def OwnF (w : World) (B g : Nat) (zs : List Int) (cap : Nat) : Prop := w.ownsRow B 3 1 (.slice (some ⟨g, 0, none⟩) zs.length cap) zs.length (cellsI zs)
theorem OwnF.base {w : World} {B g : Nat} {zs : List Int} {cap : Nat} (h : OwnF w B g zs cap) : B ≤ g ∧ g < w.heap.size := World.ownsRow.lt h g rfl
theorem OwnF.cell {w : World} {B g : Nat} {zs : List Int} {cap : Nat} (h : OwnF w B g zs cap) (j : Nat) (hj : j < zs.length) : w.cell? ⟨g, j, none⟩ = some (.int .i64 zs[j]) := by
  rw [World.ownsRow.cellAt h j (by omega)]
  simp [cellsI, hj]
theorem OwnF.mono {w : World} {B B' g : Nat} {zs : List Int} {cap : Nat} (h : OwnF w B g zs cap) (hB : B' ≤ B) : OwnF w B' g zs cap := by
  refine ⟨h.1, ?_⟩
  rcases h.2 with h0 | ⟨g', cap', cur, h1, h2, h3⟩
  · exact .inl h0
  · exact .inr ⟨g', cap', cur, h1, Nat.le_trans hB h2, h3⟩
theorem OwnF.kept {w w' : World} {B g g2 : Nat} {zs : List Int} {cap : Nat} (h : OwnF w B g zs cap) (hg : w.grownBy w' (some g2)) (hne : g ≠ g2) : OwnF w' B g zs cap :=
  World.ownsRow.kept h hg (.inr (by simp [Value.ownBlock]; exact hne))
theorem OwnF.alloc {w : World} {B g : Nat} {zs : List Int} {cap : Nat} (h : OwnF w B g zs cap) (o : Obj) : OwnF (w.alloc o) B g zs cap := World.ownsRow.alloc h o
theorem OwnF.lit (w : World) (B : Nat) (z : Int) (hB : B ≤ w.heap.size) : OwnF (w.alloc (.cells #[.int .i64 z] 3)) B w.heap.size [z] 1 :=
  World.ownsRow_lit w #[.int .i64 z] 1 hB (by decide) rfl
theorem OwnF.lit0 (w : World) (B : Nat) (hB : B ≤ w.heap.size) : OwnF (w.alloc (.cells #[] 3)) B w.heap.size [] 0 :=
  World.ownsRow_lit w #[] 0 hB (by decide) rfl
theorem list_append_num {ops : Array Oper} {rest : List Oper} {o : Oper} {a : Act} {w : World} {Q : Exit → Act → World → Prop} (hgd : o.guard = none) (s x : Operand)
    (ho : o.op = .call { callee := .builtin .append, args := #[s, x], argTypes := #[56, 56] })
    (B g cap b c : Nat) (zs : List Int) (z : Int) (hs : a.eval s = .slice (some ⟨g, 0, none⟩) zs.length cap) (hx : a.eval x = .slice (some ⟨b, 0, none⟩) 1 c) (hown : OwnF w B g zs cap) (hc : w.cell? ⟨b, 0, none⟩ = some (.int .i64 z))
    (hlen : zs.length ≤ 2000000) (hB : B ≤ w.heap.size)
    (h : ∀ g' cap' w', OwnF w' B g' (zs ++ [z]) cap' → w.grownBy w' (some g) → wpList Try.prog ops Q rest (a.put o.dst (.slice (some ⟨g', 0, none⟩) (zs.length + 1) cap')) w') :
    wpList Try.prog ops Q (o :: rest) a w := by
  obtain ⟨i0, hi0, hz0, hz1, hz2⟩ := info_parts infoInt'
  refine wpList_append_own w hgd s x 56 ho B 3 i0 (.int .i64 0) 1 8 Try.underlying56 hi0 hz0 hz1 hz2 rfl (by decide) (.slice (some ⟨g, 0, none⟩) zs.length cap) zs.length (cellsI zs) hs hown ⟨b, 0, none⟩ 1 c [.int .i64 z] hx rfl
    (fun j u hj => by
      match j, hj with
      | 0, hj => simp at hj; subst hj; simpa [Addr.add] using hc) (fun u hu => by simp at hu; subst hu; rfl) (by unfold maxLen; omega) (by omega) hB ?_
  intro v' w' h1 h2 h3
  rcases h1.2 with ⟨h0, _⟩ | ⟨g', cap', cur', hv', _⟩
  · have := (h3.1 h0).2; omega
  · subst hv'
    refine h g' cap' w' ?_ h2
    unfold OwnF cellsI
    rw [List.length_append, List.map_append]
    exact h1
theorem step_append_num {ops : Array Oper} {o : Oper} {a : Act} {w : World} {K : Act → World → Prop} {Q : Exit → Act → World → Prop} {E : Prop} (hgd : o.guard = none) (s x : Operand)
    (ho : o.op = .call { callee := .builtin .append, args := #[s, x], argTypes := #[56, 56] })
    (B g cap b c : Nat) (zs : List Int) (z : Int) (hs : a.eval s = .slice (some ⟨g, 0, none⟩) zs.length cap) (hx : a.eval x = .slice (some ⟨b, 0, none⟩) 1 c) (hown : OwnF w B g zs cap) (hc : w.cell? ⟨b, 0, none⟩ = some (.int .i64 z))
    (hlen : zs.length ≤ 2000000) (hB : B ≤ w.heap.size)
    (h : ∀ g' cap' w', OwnF w' B g' (zs ++ [z]) cap' → w.grownBy w' (some g) → K (a.put o.dst (.slice (some ⟨g', 0, none⟩) (zs.length + 1) cap')) w') :
    if Region.wanted o (yielded ops a.tmps) = true then Oper.wp Try.prog o a w K Q else E := by
  obtain ⟨i0, hi0, hz0, hz1, hz2⟩ := info_parts infoInt'
  have hw : Region.wanted o (yielded ops a.tmps) = true := by simp [Region.wanted, hgd]
  rw [if_pos hw]
  refine wp_append_own w s x 56 ho B 3 i0 (.int .i64 0) 1 8 Try.underlying56 hi0 hz0 hz1 hz2 rfl (by decide) (.slice (some ⟨g, 0, none⟩) zs.length cap) zs.length (cellsI zs) hs hown ⟨b, 0, none⟩ 1 c [.int .i64 z] hx rfl
    (fun j u hj => by
      match j, hj with
      | 0, hj => simp at hj; subst hj; simpa [Addr.add] using hc) (fun u hu => by simp at hu; subst hu; rfl) (by unfold maxLen; omega) (by omega) hB ?_
  intro v' w' h1 h2 h3
  rcases h1.2 with ⟨h0, _⟩ | ⟨g', cap', cur', hv', _⟩
  · have := (h3.1 h0).2; omega
  · subst hv'
    refine h g' cap' w' ?_ h2
    unfold OwnF cellsI
    rw [List.length_append, List.map_append]
    exact h1
theorem l8Min_any (a b : Int) (w : World) : Calls Try.prog 33 #[.int .i64 a, .int .i64 b] w fun e w' => e = .returned (.int .i64 (min a b)) ∧ w' = w := by
  by_cases h : a < b
  · go_enter Try.func33, Try.ntmps33
    go_wp2
    go_ret
    exact ⟨ret_int (by omega), rfl⟩
  · go_enter Try.func33, Try.ntmps33
    go_wp2
    go_ret
    exact ⟨ret_int (by omega), rfl⟩
def rowL (la lb : List UInt8) (i k : Nat) : List Int := (List.range k).map fun m => ((levT la lb i m : Nat) : Int)
theorem rowL_len (la lb : List UInt8) (i k : Nat) : (rowL la lb i k).length = k := by simp [rowL]
theorem rowL_succ (la lb : List UInt8) (i k : Nat) : rowL la lb i (k + 1) = rowL la lb i k ++ [((levT la lb i k : Nat) : Int)] := by simp [rowL, List.range_succ]
theorem rowL_at (la lb : List UInt8) (i k j : Nat) (h : j < k) : (rowL la lb i k)[j]'(by rw [rowL_len]; exact h) = ((levT la lb i j : Nat) : Int) := by simp [rowL]
/-- a row of the table, in block g of the call's own -/
def RowF (la lb : List UInt8) (w : World) (B g i k cap : Nat) : Prop := OwnF w B g (rowL la lb i k) cap
theorem RowF.base {la lb : List UInt8} {w : World} {B g i k cap : Nat} (h : RowF la lb w B g i k cap) : B ≤ g ∧ g < w.heap.size := OwnF.base h
theorem RowF.alloc {la lb : List UInt8} {w : World} {B g i k cap : Nat} (h : RowF la lb w B g i k cap) (o : Obj) : RowF la lb (w.alloc o) B g i k cap := OwnF.alloc h o
theorem RowF.cell' {la lb : List UInt8} {w : World} {B g i k cap : Nat} (h : RowF la lb w B g i k cap) (j : Nat) (hj : j < k) : w.cell? ⟨g, j, none⟩ = some (.int .i64 (levT la lb i j : Nat)) := by
  have := OwnF.cell h j (by rw [rowL_len]; exact hj)
  rw [rowL_at _ _ _ _ _ hj] at this
  exact this
set_option maxHeartbeats 2000000 in
theorem sEditsFar_any (a b : ByteArray) (w : World) (ha : a.size ≤ 1048576) (hb : b.size ≤ 1048576) :
    Calls Try.prog 23 #[.string a, .string b] w fun e w' => e = .returned (.int .i64 (farS a b : Nat)) ∧ Below w.heap.size w w' := by
  have hE : RowF a.data.toList b.data.toList (w.alloc (.cells #[] 3)) w.heap.size w.heap.size 0 0 0 := OwnF.lit0 w w.heap.size (Nat.le_refl _)
  have hB1 := (Below.refl w.heap.size w).alloc (Nat.le_refl _) (.cells #[] 3)
  go_enter Try.func23, Try.ntmps23
  go_wp2
  go_loopw [5, 6] (fun v i wr => ∃ k g cap : Nat, k ≤ b.size + 1 ∧ i = .int .i64 k ∧ v = .slice (some ⟨g, 0, none⟩) k cap ∧ RowF a.data.toList b.data.toList wr w.heap.size g 0 k cap ∧ Below w.heap.size w wr) (fun _ i _ => b.size + 1 - (intOf i).toNat)
  case atStart => exact ⟨0, w.heap.size, 0, Nat.zero_le _, rfl, rfl, hE, hB1⟩
  case round =>
    clear hE hB1
    obtain ⟨k, g, cap, hk, rfl, rfl, hrow, hB⟩ := hrel
    by_cases hlt : k < b.size + 1
    · have hrow' := hrow.alloc (.cells #[.int .i64 (k : Int)] 3)
      have hB' := hB.alloc hB.size (.cells #[.int .i64 (k : Int)] 3)
      have hl := rowL_len a.data.toList b.data.toList 0 k
      go_wp2_with (at_builtin; refine list_append_num rfl _ _ rfl w.heap.size g cap wr.heap.size 1 (rowL a.data.toList b.data.toList 0 k) (k : Int) (by rw [hl]; rfl) rfl hrow' (by simp) (by omega) (by simp; have := hB.size; omega) ?_)
      intro g' cap' w2 hO hG
      have hO2 : RowF a.data.toList b.data.toList w2 w.heap.size g' 0 (k + 1) cap' := by
        unfold RowF
        rw [rowL_succ, levT_0 _ _ k (by simp; omega)]; exact hO
      have hB2 : Below w.heap.size w w2 := hB'.grown hG hB'.size (by intro q hq; simp at hq; have := hrow.base; omega)
      clear hO hG hrow hrow' hB' hB hl
      go_wp2
      go_roundw
      case rel => exact ⟨k + 1, g', cap', by omega, by go_num, rfl, hO2, hB2⟩
      case measure => simp [intOf]; omega
    · obtain rfl : k = b.size + 1 := by omega
      have hdb : decide ((b.size : Int) + 1 ≤ (b.size : Int)) = false := by rw [decide_eq_false_iff_not]; omega
      rw [show (((b.size + 1 : Nat)) : Int) = (b.size : Int) + 1 from rfl]
      go_wp2
      clear hdb
      go_loopw [5, 7] (fun v i wr => ∃ k g cap : Nat, k ≤ a.size ∧ i = .int .i64 k ∧ v = .slice (some ⟨g, 0, none⟩) (b.size + 1) cap ∧ RowF a.data.toList b.data.toList wr w.heap.size g k (b.size + 1) cap ∧ Below w.heap.size w wr) (fun _ i _ => a.size - (intOf i).toNat)
      case atStart => exact ⟨0, g, cap, Nat.zero_le _, rfl, rfl, hrow, hB⟩
      case round =>
        clear hrow hB hk
        obtain ⟨i, g, cap, hi, rfl, rfl, hrow, hB⟩ := hrel
        by_cases hit : i < a.size
        · have hB1 := hB.alloc hB.size (.cells #[.int .i64 ((i : Int) + 1)] 3)
          have hrow1 : RowF a.data.toList b.data.toList _ _ _ _ _ _ := hrow.alloc (.cells #[.int .i64 ((i : Int) + 1)] 3)
          have hnx1 : RowF a.data.toList b.data.toList (wr.alloc (.cells #[.int .i64 ((i : Int) + 1)] 3)) wr.heap.size wr.heap.size (i + 1) 1 1 := by
            have := OwnF.lit wr wr.heap.size ((i : Int) + 1) (Nat.le_refl _)
            unfold RowF
            rwa [show rowL a.data.toList b.data.toList (i + 1) 1 = [(i : Int) + 1] from by simp [rowL, levT_i0 a.data.toList b.data.toList (i + 1) (by simp; omega)]]
          have hg2 := hrow.base.2
          have hws := hB.size
          go_wp2
          clear hrow hB
          generalize hBB : wr.heap.size = B2 at *
          generalize wr.alloc (.cells #[.int .i64 ((i : Int) + 1)] 3) = w2 at *
          clear hBB
          go_loopw [8, 9] (fun nv jv wr => ∃ k g2 cap2 : Nat, k ≤ b.size ∧ jv = .int .i64 k ∧ nv = .slice (some ⟨g2, 0, none⟩) (k + 1) cap2 ∧ RowF a.data.toList b.data.toList wr B2 g2 (i + 1) (k + 1) cap2 ∧ RowF a.data.toList b.data.toList wr w.heap.size g i (b.size + 1) cap ∧ Below w.heap.size w wr ∧ B2 ≤ wr.heap.size) (fun _ j _ => b.size - (intOf j).toNat)
          case atStart => exact ⟨0, B2, 1, Nat.zero_le _, rfl, rfl, hnx1, hrow1, hB1, by have := hnx1.base; omega⟩
          case round =>
            clear hnx1 hrow1 hB1
            obtain ⟨j, g2, cap2, hj, rfl, rfl, hnx, hrow, hB, hsz⟩ := hrel
            by_cases hjt : j < b.size
            · have c0 := hrow.cell' j (by omega)
              have c1 := hrow.cell' (j + 1) (by omega)
              have c2 := hnx.cell' j (by omega)
              have l1 := levT_le a.data.toList b.data.toList i j
              have l2 := levT_le a.data.toList b.data.toList (i + 1) j
              have l3 := levT_le a.data.toList b.data.toList i (j + 1)
              have k1 : IntKind.i64.wrap ((j : Int) + 1) = (j : Int) + 1 := IntWalk.i64_in _ (by omega)
              have k2 : (0 : Int) ≤ (j : Int) + 1 := by omega
              have k3 : ((j : Int) + 1).toNat = j + 1 := by omega
              have k4 : IntKind.i64.wrap (1 + min (levT a.data.toList b.data.toList i (j + 1) : Int) (levT a.data.toList b.data.toList (i + 1) j : Int)) = 1 + min (levT a.data.toList b.data.toList i (j + 1) : Int) (levT a.data.toList b.data.toList (i + 1) j : Int) := IntWalk.i64_in _ (by omega)
              have k5 : (j : Int) < (j : Int) + 1 := by omega
              have hg3 := hnx.base
              by_cases hab : a[i] = b[j]
              · have HS : Hid ((levT a.data.toList b.data.toList (i + 1) (j + 1) : Nat) = min (levT a.data.toList b.data.toList i j : Int) (1 + min (levT a.data.toList b.data.toList i (j + 1) : Int) (levT a.data.toList b.data.toList (i + 1) j : Int))) := by
                  show _ = _
                  rw [levT_step _ _ i j (by simpa using hit) (by simpa using hjt), if_pos (show a.data.toList[i] = b.data.toList[j] from hab)]
                  omega
                have e1 : ((a[i].toNat : Int) == (b[j].toNat : Int)) = true := by rw [hab]; simp
                have e2 : ((a[i].toNat : Int) != (b[j].toNat : Int)) = false := by rw [hab]; simp
                clear hab
                go_wp2_with fail
                go_quiet (fail)
                go_wp2_with fail
                have hnx' : RowF a.data.toList b.data.toList (wr.drewN nq) B2 g2 (i + 1) (j + 1) cap2 := hnx
                have hrow' : RowF a.data.toList b.data.toList (wr.drewN nq) w.heap.size g i (b.size + 1) cap := hrow
                have hB' := below_dr hB nq
                have hsz' : B2 ≤ (wr.drewN nq).heap.size := hsz
                clear hnx hrow hB hsz c0 c1 c2
                generalize wr.drewN nq = wq at *
                have c1 := hrow'.cell' (j + 1) (by omega)
                have c2 := hnx'.cell' j (by omega)
                have hd1 : OwnF (wq.alloc (.cells #[.int .i64 (min (levT a.data.toList b.data.toList i j : Int) (1 + min (levT a.data.toList b.data.toList i (j + 1) : Int) (levT a.data.toList b.data.toList (i + 1) j : Int)))] 3)).drew B2 g2 (rowL a.data.toList b.data.toList (i + 1) (j + 1)) cap2 := OwnF.alloc hnx' _
                have hd2 : RowF a.data.toList b.data.toList (wq.alloc (.cells #[.int .i64 (min (levT a.data.toList b.data.toList i j : Int) (1 + min (levT a.data.toList b.data.toList i (j + 1) : Int) (levT a.data.toList b.data.toList (i + 1) j : Int)))] 3)).drew w.heap.size g i (b.size + 1) cap := hrow'.alloc _
                have hd3 : Below w.heap.size w (wq.alloc (.cells #[.int .i64 (min (levT a.data.toList b.data.toList i j : Int) (1 + min (levT a.data.toList b.data.toList i (j + 1) : Int) (levT a.data.toList b.data.toList (i + 1) j : Int)))] 3)).drew := below_dr (hB'.alloc hB'.size _) 1
                have hd4 : (wq.alloc (.cells #[.int .i64 (min (levT a.data.toList b.data.toList i j : Int) (1 + min (levT a.data.toList b.data.toList i (j + 1) : Int) (levT a.data.toList b.data.toList (i + 1) j : Int)))] 3)).drew.cell? ⟨wq.heap.size, 0, none⟩ = some (.int .i64 (min (levT a.data.toList b.data.toList i j : Int) (1 + min (levT a.data.toList b.data.toList i (j + 1) : Int) (levT a.data.toList b.data.toList (i + 1) j : Int)))) := (OwnF.lit wq 0 (min (levT a.data.toList b.data.toList i j : Int) (1 + min (levT a.data.toList b.data.toList i (j + 1) : Int) (levT a.data.toList b.data.toList (i + 1) j : Int))) (Nat.zero_le _)).cell 0 (by simp)
                have hd5 : B2 ≤ (wq.alloc (.cells #[.int .i64 (min (levT a.data.toList b.data.toList i j : Int) (1 + min (levT a.data.toList b.data.toList i (j + 1) : Int) (levT a.data.toList b.data.toList (i + 1) j : Int)))] 3)).drew.heap.size := by show B2 ≤ (wq.alloc _).heap.size; simp; omega
                have hl : (rowL a.data.toList b.data.toList (i + 1) (j + 1)).length = j + 1 := rowL_len _ _ _ _
                have hl' := Lib.hid hl
                have hlz : (rowL a.data.toList b.data.toList (i + 1) (j + 1)).length ≤ 2000000 := by omega
                clear hnx' hrow' hB' hsz' hl
                go_region_law
                  (first
                    | (go_simp; go_at_call 33; refine (l8Min_any _ _ _).mono ?_; rintro e w' ⟨rfl, rfl⟩)
                    | (refine step_append_num rfl _ _ rfl B2 g2 cap2 wq.heap.size 1 (rowL a.data.toList b.data.toList (i + 1) (j + 1)) (min (levT a.data.toList b.data.toList i j : Int) (1 + min (levT a.data.toList b.data.toList i (j + 1) : Int) (levT a.data.toList b.data.toList (i + 1) j : Int))) (by rw [hl'.out]; rfl) rfl ?_ ?_ ?_ ?_ ?_; (with_reducible exact hd1); (with_reducible exact hd4); (exact hlz); (with_reducible exact hd5); intro g' cap' w6 hO hG))
                all_goals
                  rw [← HS.out] at hO
                  have hO2 : RowF a.data.toList b.data.toList w6 B2 g' (i + 1) (j + 1 + 1) cap' := by
                    unfold RowF
                    rw [rowL_succ]; exact hO
                  have hw2 : RowF a.data.toList b.data.toList w6 w.heap.size g i (b.size + 1) cap := OwnF.kept hd2 hG (by omega)
                  have hB2 : Below w.heap.size w w6 := hd3.grown hG hd3.size (by intro q hq; simp at hq; omega)
                  have hs2 : B2 ≤ w6.heap.size := by have := hO2.base; omega
                  clear hO hG hd1 hd2 hd3 hd4 hd5 hlz
                  go_wp2
                  go_roundw
                  case rel => exact ⟨j + 1, g', cap', by omega, by go_num, by rw [hl'.out], hO2, hw2, hB2, hs2⟩
                  case measure => simp [intOf]; omega
              · have HS : Hid ((levT a.data.toList b.data.toList (i + 1) (j + 1) : Nat) = min ((levT a.data.toList b.data.toList i j : Int) + 1) (1 + min (levT a.data.toList b.data.toList i (j + 1) : Int) (levT a.data.toList b.data.toList (i + 1) j : Int))) := by
                  show _ = _
                  rw [levT_step _ _ i j (by simpa using hit) (by simpa using hjt), if_neg (show ¬ a.data.toList[i] = b.data.toList[j] from hab)]
                  omega
                have hab' : ¬ (a[i].toNat : Int) = (b[j].toNat : Int) := fun h => hab (UInt8.toNat_inj.1 (by omega))
                have e1 : ((a[i].toNat : Int) == (b[j].toNat : Int)) = false := by simpa using hab'
                have e2 : ((a[i].toNat : Int) != (b[j].toNat : Int)) = true := by simpa using hab'
                clear hab hab'
                go_wp2_with fail
                go_quiet (fail)
                go_wp2_with fail
                have hnx' : RowF a.data.toList b.data.toList (wr.drewN nq) B2 g2 (i + 1) (j + 1) cap2 := hnx
                have hrow' : RowF a.data.toList b.data.toList (wr.drewN nq) w.heap.size g i (b.size + 1) cap := hrow
                have hB' := below_dr hB nq
                have hsz' : B2 ≤ (wr.drewN nq).heap.size := hsz
                clear hnx hrow hB hsz c0 c1 c2
                generalize wr.drewN nq = wq at *
                have c1 := hrow'.cell' (j + 1) (by omega)
                have c2 := hnx'.cell' j (by omega)
                have hd1 : OwnF (wq.alloc (.cells #[.int .i64 (min ((levT a.data.toList b.data.toList i j : Int) + 1) (1 + min (levT a.data.toList b.data.toList i (j + 1) : Int) (levT a.data.toList b.data.toList (i + 1) j : Int)))] 3)).drew B2 g2 (rowL a.data.toList b.data.toList (i + 1) (j + 1)) cap2 := OwnF.alloc hnx' _
                have hd2 : RowF a.data.toList b.data.toList (wq.alloc (.cells #[.int .i64 (min ((levT a.data.toList b.data.toList i j : Int) + 1) (1 + min (levT a.data.toList b.data.toList i (j + 1) : Int) (levT a.data.toList b.data.toList (i + 1) j : Int)))] 3)).drew w.heap.size g i (b.size + 1) cap := hrow'.alloc _
                have hd3 : Below w.heap.size w (wq.alloc (.cells #[.int .i64 (min ((levT a.data.toList b.data.toList i j : Int) + 1) (1 + min (levT a.data.toList b.data.toList i (j + 1) : Int) (levT a.data.toList b.data.toList (i + 1) j : Int)))] 3)).drew := below_dr (hB'.alloc hB'.size _) 1
                have hd4 : (wq.alloc (.cells #[.int .i64 (min ((levT a.data.toList b.data.toList i j : Int) + 1) (1 + min (levT a.data.toList b.data.toList i (j + 1) : Int) (levT a.data.toList b.data.toList (i + 1) j : Int)))] 3)).drew.cell? ⟨wq.heap.size, 0, none⟩ = some (.int .i64 (min ((levT a.data.toList b.data.toList i j : Int) + 1) (1 + min (levT a.data.toList b.data.toList i (j + 1) : Int) (levT a.data.toList b.data.toList (i + 1) j : Int)))) := (OwnF.lit wq 0 (min ((levT a.data.toList b.data.toList i j : Int) + 1) (1 + min (levT a.data.toList b.data.toList i (j + 1) : Int) (levT a.data.toList b.data.toList (i + 1) j : Int))) (Nat.zero_le _)).cell 0 (by simp)
                have hd5 : B2 ≤ (wq.alloc (.cells #[.int .i64 (min ((levT a.data.toList b.data.toList i j : Int) + 1) (1 + min (levT a.data.toList b.data.toList i (j + 1) : Int) (levT a.data.toList b.data.toList (i + 1) j : Int)))] 3)).drew.heap.size := by show B2 ≤ (wq.alloc _).heap.size; simp; omega
                have hl : (rowL a.data.toList b.data.toList (i + 1) (j + 1)).length = j + 1 := rowL_len _ _ _ _
                have hl' := Lib.hid hl
                have hlz : (rowL a.data.toList b.data.toList (i + 1) (j + 1)).length ≤ 2000000 := by omega
                clear hnx' hrow' hB' hsz' hl
                go_region_law
                  (first
                    | (go_simp; go_at_call 33; refine (l8Min_any _ _ _).mono ?_; rintro e w' ⟨rfl, rfl⟩)
                    | (refine step_append_num rfl _ _ rfl B2 g2 cap2 wq.heap.size 1 (rowL a.data.toList b.data.toList (i + 1) (j + 1)) (min ((levT a.data.toList b.data.toList i j : Int) + 1) (1 + min (levT a.data.toList b.data.toList i (j + 1) : Int) (levT a.data.toList b.data.toList (i + 1) j : Int))) (by rw [hl'.out]; rfl) rfl ?_ ?_ ?_ ?_ ?_; (with_reducible exact hd1); (with_reducible exact hd4); (exact hlz); (with_reducible exact hd5); intro g' cap' w6 hO hG))
                all_goals
                  rw [← HS.out] at hO
                  have hO2 : RowF a.data.toList b.data.toList w6 B2 g' (i + 1) (j + 1 + 1) cap' := by
                    unfold RowF
                    rw [rowL_succ]; exact hO
                  have hw2 : RowF a.data.toList b.data.toList w6 w.heap.size g i (b.size + 1) cap := OwnF.kept hd2 hG (by omega)
                  have hB2 : Below w.heap.size w w6 := hd3.grown hG hd3.size (by intro q hq; simp at hq; omega)
                  have hs2 : B2 ≤ w6.heap.size := by have := hO2.base; omega
                  clear hO hG hd1 hd2 hd3 hd4 hd5 hlz
                  go_wp2
                  go_roundw
                  case rel => exact ⟨j + 1, g', cap', by omega, by go_num, by rw [hl'.out], hO2, hw2, hB2, hs2⟩
                  case measure => simp [intOf]; omega
            · obtain rfl : j = b.size := by omega
              have hnx3 : RowF a.data.toList b.data.toList wr w.heap.size g2 (i + 1) (b.size + 1) cap2 := OwnF.mono hnx (by omega)
              go_wp2
              go_roundw
              case rel => exact ⟨i + 1, g2, cap2, by omega, by go_num, rfl, hnx3, hB⟩
              case measure => simp [intOf]; omega
        · obtain rfl : i = a.size := by omega
          have c0 := hrow.cell' b.size (by omega)
          rw [farS_T] at c0
          go_wp2
          go_ret
          exact ⟨rfl, hB⟩
end Go.Proofs.Ytiejfbodcjckeaa
