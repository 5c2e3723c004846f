/- The contract of rulesByLeft. -/
import Derived.Test.YtjpkohahabclgaaMapB
import Derived.Carry
import Derived.Maps.GroupsBeside
namespace Go.Proofs.Ytjpkohahabclgaa
open Go.ChangeShapes Go.WideShapes Go.ChangeAt Go.RowKit Go.WideMaps Go.Maps
set_option maxRecDepth 100000
def ByLeft (H : Type) (rs : List RuleT) (k : Nat) (w wr : World) : Prop := ∃ D : DataW H, Groups wr (w.heap.size + 1) k D ∧ Reads D rs k ∧ Below w.heap.size w wr ∧ w.heap.size + 2 ≤ wr.heap.size
theorem Groups.more {H : Type} {w w' : World} {B n : Nat} {D : DataW H} (h : Groups w B n D) (hg : w.grownBy w' none) : Groups w' B n D :=
  World.ownsGroups.kept h hg (by simp) (World.ownsGroups.rowsAbove h (row := none) (fun j hj => by cases hj))
theorem grown_drew (w : World) (row : Option Nat) : w.grownBy w.drew row := ⟨rfl, rfl, rfl, Nat.le_refl _, fun _ _ _ => rfl⟩
theorem groups_isMap {H : Type} {w : World} {B n : Nat} {D : DataW H} (h : Groups w B n D) : IsMap D := by
  obtain ⟨es, clock, _, _, _, e, _⟩ := h
  exact ⟨_, e⟩
/-- what the look-up at a left side tells -/
theorem groups_look {H : Type} {w : World} {B n : Nat} {D : DataW H} (hown : Groups w B n D) (hn : n ≤ 1000) {s : ByteArray} (hs : s.size ≤ maxLen) :
    ∃ v zs, (Instr.lookup 70 (.map (some B)) (.string s) false).run Try.prog w = .ok v w ∧ Hid (D.atKey (.string s.data.toList) .nil = rowDatum .i64 v zs) ∧ Ints w B v zs ∧ zs.length ≤ n ∧ Back w B n D s v := by
  obtain ⟨v, zs, hrun, hat, hoi, hzl, hback⟩ := World.ownsGroups.at hown (string_keyed Try.underlying9) Try.underlying70 (zeroInts w) (by unfold maxLen; omega) (keyOf_string_mk Try.underlying9 hs)
  exact ⟨v, zs, hrun, hat, hoi, hzl, hback⟩
theorem left_step {H : Type} {rs : List RuleT} {k : Nat} (hk : k < rs.length) {w W w5 : World} {D : DataW H} {v v' : Value} {zs : List Int} (hG : Groups W (w.heap.size + 1) k D) (hRd : Hid (Reads D rs k)) (hb : Below w.heap.size w W) (hsz : w.heap.size + 2 ≤ W.heap.size)
    (hat : Hid (D.atKey (.string rs[k].1.data.toList) .nil = rowDatum .i64 v zs)) (hoi : Ints W (w.heap.size + 1) v zs) (hzl : zs.length ≤ k) (hback : Back W (w.heap.size + 1) k D rs[k].1 v)
    (hall : W.grownBy w5 v.ownBlock) (hO5 : Ints w5 (w.heap.size + 1) v' (zs ++ [(k : Int)])) (hloc : v'.ownBlock = v.ownBlock ∨ ∃ g, v'.ownBlock = some g ∧ W.heap.size ≤ g) :
    ∃ w6, (Instr.mapUpdate 70 (.map (some (w.heap.size + 1))) (.string rs[k].1) v').run Try.prog w5 = .ok () w6 ∧ ByLeft H rs (k + 1) w w6 := by
  obtain ⟨w6, hrun, r1, r2⟩ := hback w5 v' _ hall hO5 (by simp; omega) hloc
  refine ⟨w6, hrun, _, r1, ?_, Below.groups hb hoi hall r2 hb.size (by omega) (by omega), Nat.le_trans hsz (Nat.le_trans hall.size r2.size)⟩
  rw [World.ownsInts.datum_pos hO5 (by simp), Reads.places hRd.out hat.out hoi]
  exact Reads.step hk (groups_isMap hG) hRd.out
theorem ints_keep {w w5 : World} {B : Nat} {v : Value} {zs : List Int} (h : Ints w B v zs) (hg : w.grownBy w5 v.ownBlock) {r : Nat} {l x : ByteArray} (hr : w.heap[r]? = some (.cells #[.string l, .string x] 55)) : w5.cell? ⟨r, 0, none⟩ = some (.string l) := by
  have hne : v.ownBlock ≠ some r := by
    intro e
    rcases h.1.2 with ⟨hv, _⟩ | ⟨g, cap, cur, hv, _, hh, _⟩
    · rw [hv] at e; simp [Value.ownBlock] at e
    · rw [hv] at e
      simp [Value.ownBlock] at e
      subst e
      rw [hh] at hr
      simp at hr
  obtain ⟨_, _, _, _, hblk⟩ := hg
  have h5 : w5.heap[r]? = some (.cells #[.string l, .string x] 55) := (hblk r (Array.getElem?_eq_some_iff.1 hr).1 (fun e => hne e.symm)).trans hr
  rw [cell_of_block h5 0]; rfl
set_option maxHeartbeats 2000000 in
theorem rulesByLeft_any (H : Type) (st : ByteArray) (a : Option Addr) (cap : Nat) (rs : List RuleT) (w : World) (HR : RulesAt w a rs) (hl : rs.length ≤ 100) :
    Calls Try.prog 60 #[.agg #[.string st, .slice a rs.length cap]] w fun e w' => e = .returned (.map (some (w.heap.size + 1))) ∧ ByLeft H rs rs.length w w' := by
  have hmm := @run_makeMap Try.prog
  have hbA := (Below.refl w.heap.size w).alloc (Nat.le_refl _) (.cells #[.string st, .slice a rs.length cap] 24)
  have hG0 : Groups (H := H) ((w.alloc (.cells #[.string st, .slice a rs.length cap] 24)).alloc (.map #[] 0)) (w.heap.size + 1) 0 (.map []) := by
    have h := World.ownsGroups_made (H := H) (w.alloc (.cells #[.string st, .slice a rs.length cap] 24)) Try.prog 9 3 .i64
    rw [Deep.nblk_alloc] at h
    exact h
  go_enter Try.func60, Try.ntmps60
  go_wp2
  go_loopw [10] (fun i wr => ∃ k : Nat, k ≤ rs.length ∧ i = .int .i64 k ∧ ByLeft H rs k w wr) (fun i _ => rs.length - (intOf i).toNat)
  case atStart => exact ⟨0, Nat.zero_le _, rfl, _, hG0, fun s => .inl ⟨rfl, rfl⟩, hbA.alloc (by simp) _, by simp⟩
  case round =>
    obtain ⟨k, hk, rfl, D, hG, hRd', hb, hsz⟩ := hrel
    have hRd := Lib.hid hRd'
    clear hRd' hbA hG0 hmm
    by_cases hlt : k < rs.length
    · obtain ⟨z1, z2, b, off, e, hbb, c1, c2⟩ := HR.2 k hlt
      subst e
      have d1 : wr.cell? ⟨b, off + k * 2, none⟩ = some (.string rs[k].1) := by rw [hb.cell (p := ⟨b, _, none⟩) hbb, c1]
      have d2 : wr.cell? ⟨b, off + k * 2 + 1, none⟩ = some (.string rs[k].2) := by rw [hb.cell (p := ⟨b, _, none⟩) hbb, c2]
      have hkl : (k : Int) < (rs.length : Int) := by omega
      go_wp2_with fail
      have hg01 := (World.grownBy_alloc wr (.cells #[.string rs[k].1, .string rs[k].2] 55) none).trans (grown_drew _ _)
      have hG1 : Groups (wr.alloc (.cells #[.string rs[k].1, .string rs[k].2] 55)).drew (w.heap.size + 1) k D := hG.more hg01
      have hG2 : Groups ((wr.alloc (.cells #[.string rs[k].1, .string rs[k].2] 55)).alloc (.cells #[.int .i64 (k : Int)] 3)).drew (w.heap.size + 1) k D := hG1.more (show (wr.alloc (.cells #[.string rs[k].1, .string rs[k].2] 55)).drew.grownBy ((wr.alloc (.cells #[.string rs[k].1, .string rs[k].2] 55)).drew.alloc (.cells #[.int .i64 (k : Int)] 3)) none from World.grownBy_alloc _ _ _)
      have hb1 : Below w.heap.size w (wr.alloc (.cells #[.string rs[k].1, .string rs[k].2] 55)).drew := (hb.alloc hb.size _).drew
      have hb2 : Below w.heap.size w ((wr.alloc (.cells #[.string rs[k].1, .string rs[k].2] 55)).alloc (.cells #[.int .i64 (k : Int)] 3)).drew := hb1.alloc hb1.size _
      have hsz1 : w.heap.size + 2 ≤ (wr.alloc (.cells #[.string rs[k].1, .string rs[k].2] 55)).drew.heap.size := by simp; omega
      have hsz2 : w.heap.size + 2 ≤ ((wr.alloc (.cells #[.string rs[k].1, .string rs[k].2] 55)).alloc (.cells #[.int .i64 (k : Int)] 3)).drew.heap.size := by simp; omega
      have hwf : (Lit.int .i64 (k : Int)).wf = true := WalkArith.wf_i64 (by omega)
      obtain ⟨v1, zs1, hr1, hat1, hoi1, hzl1, hbk1⟩ := groups_look hG1 (by omega) z1
      obtain ⟨v2, zs2, hr2, hat2, hoi2, hzl2, hbk2⟩ := groups_look hG2 (by omega) z1
      have hoi1' : Ints ((wr.alloc (.cells #[.string rs[k].1, .string rs[k].2] 55)).alloc (.cells #[.int .i64 (k : Int)] 3)).drew (w.heap.size + 1) v1 zs1 := World.ownsInts.alloc hoi1 _
      have hcN : ((wr.alloc (.cells #[.string rs[k].1, .string rs[k].2] 55)).alloc (.cells #[.int .i64 (k : Int)] 3)).drew.cell? ⟨wr.heap.size + 1, 0, none⟩ = some (.int .i64 (k : Int)) := (cell_of_block (blk_new (wr.alloc (.cells #[.string rs[k].1, .string rs[k].2] 55)) (.cells #[.int .i64 (k : Int)] 3) (by simp)) 0).trans rfl
      have hbx : (((wr.alloc (.cells #[.string rs[k].1, .string rs[k].2] 55)).alloc (.cells #[.int .i64 (k : Int)] 3)).drew).heap[wr.heap.size]? = some (.cells #[.string rs[k].1, .string rs[k].2] 55) := (blk_old (wr.alloc (.cells #[.string rs[k].1, .string rs[k].2] 55)) _ (by simp)).trans (blk_new _ _ rfl)
      have HBX := Lib.hid hbx
      clear hbx
      go_region_law (first
        | (refine step_add (B := w.heap.size + 1) (p := ⟨wr.heap.size + 1, 0, none⟩) (z := (k : Int)) (v := v1) (zs := zs1) rfl _ _ rfl rfl rfl hoi1' hwf hcN (by omega) (by simp; omega) ?_; intro v' w5 hO5 hgrow hloc; have hrc := ints_keep hoi1' hgrow HBX.out; obtain ⟨w6, hrun6, HBL⟩ := left_step hlt hG1 hRd hb1 hsz1 hat1 hoi1 hzl1 hbk1 ((World.grownBy_alloc (wr.alloc (.cells #[.string rs[k].1, .string rs[k].2] 55)).drew (.cells #[.int .i64 (k : Int)] 3) _).trans hgrow) hO5 (hloc.elim .inl (fun h => .inr ⟨_, h, by simp⟩)))
        | (refine step_add (B := w.heap.size + 1) (p := ⟨wr.heap.size + 1, 0, none⟩) (z := (k : Int)) (v := v2) (zs := zs2) rfl _ _ rfl rfl rfl hoi2 hwf hcN (by omega) (by simp; omega) ?_; intro v' w5 hO5 hgrow hloc; have hrc := ints_keep hoi2 hgrow HBX.out; obtain ⟨w6, hrun6, HBL⟩ := left_step hlt hG2 hRd hb2 hsz2 hat2 hoi2 hzl2 hbk2 hgrow hO5 (hloc.elim .inl (fun h => .inr ⟨_, h, by simp⟩)))
        | fail)
      all_goals
        clear hG hG1 hG2 hRd hb hb1 hb2 hsz1 hsz2 hr1 hr2 hat1 hat2 hoi1 hoi1' hoi2 hbk1 hbk2 hcN hrun6 hO5 hgrow hloc hrc HBX
        go_wp2
        go_roundw
        case rel => exact ⟨k + 1, by omega, by go_num, HBL⟩
        case measure => simp [intOf]; omega
    · have hkl : ¬ (k : Int) < (rs.length : Int) := by omega
      obtain rfl : k = rs.length := by omega
      go_wp2
      go_ret
      exact ⟨rfl, D, hG, hRd.out, hb, hsz⟩
end Go.Proofs.Ytjpkohahabclgaa
