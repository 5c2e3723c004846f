/- Contracts of the model's l17Cut and GramRead. -/
import Derived.Test.YtjpkohahabclgaaReadN
import Derived.Test.YtjpkohahabclgaaReadB
namespace Go.Proofs.Ytjpkohahabclgaa
open Go.ChangeShapes Go.WideShapes Go.ChangeAt Go.RowKit
set_option maxRecDepth 100000
theorem infoStr : (Try.prog.info? 9).map (fun i => (i.zero, i.size, i.bytes)) = some (some (.string ByteArray.empty), 1, 16) := by kernel_rfl
def strC (ss : List (List UInt8)) : List Value := ss.map fun x => .string (bytesOf x)
/-- texts of the call's own -/
def OwnT (w : World) (B : Nat) (v : Value) (ss : List (List UInt8)) : Prop := (∃ g cap, v = .slice (some ⟨g, 0, none⟩) ss.length cap) ∧ w.ownsRow B 9 1 v ss.length (strC ss)
theorem OwnT.row {w : World} {B : Nat} {v : Value} {ss : List (List UInt8)} (h : OwnT w B v ss) : ∀ k, v.ownBlock = some k → B ≤ k := by
  intro k hk
  rcases h.2.2 with ⟨hv, _⟩ | ⟨g, _, _, hv, hg, _⟩
  · rw [hv] at hk; simp [Value.ownBlock] at hk
  · rw [hv] at hk; simp [Value.ownBlock] at hk; omega
theorem OwnT.below {w w' : World} {B : Nat} {v : Value} {ss : List (List UInt8)} (h : OwnT w B v ss) (hb : Below w.heap.size w w') : OwnT w' B v ss := by
  refine ⟨h.1, h.2.1, ?_⟩
  rcases h.2.2 with h0 | ⟨g, cap, cur, hv, hg, hh, hl, hm, hs, ht⟩
  · exact .inl h0
  · exact .inr ⟨g, cap, cur, hv, hg, by rw [hb.block g (Array.getElem?_eq_some_iff.1 hh).1]; exact hh, hl, hm, hs, ht⟩
/-- texts that lie in memory -/
def StrsAt (w : World) (a : Option Addr) (ss : List (List UInt8)) : Prop := ∀ i (h : i < ss.length), ∃ g, a = some ⟨g, 0, none⟩ ∧ g < w.heap.size ∧ w.cell? ⟨g, i, none⟩ = some (.string (bytesOf ss[i]))
theorem StrsAt.below {w w' : World} {a : Option Addr} {ss : List (List UInt8)} (h : StrsAt w a ss) (hb : Below w.heap.size w w') : StrsAt w' a ss := fun i hi => by
  obtain ⟨g, e, hlt, hc⟩ := h i hi
  exact ⟨g, e, Nat.lt_of_lt_of_le hlt hb.size, by rw [hb.cell (p := ⟨g, i, none⟩) hlt, hc]⟩
theorem OwnT.at {w : World} {B : Nat} {v : Value} {ss : List (List UInt8)} (h : OwnT w B v ss) : ∃ a cap, v = .slice a ss.length cap ∧ StrsAt w a ss := by
  obtain ⟨⟨g, cap, rfl⟩, _, h2⟩ := h
  refine ⟨_, cap, rfl, fun i hi => ?_⟩
  rcases h2 with ⟨h0, _⟩ | ⟨g', cap', cur, hv, hg, hh, hlc, hm, hs, ht⟩
  · cases h0
  · simp only [Value.slice.injEq, Option.some.injEq, Addr.mk.injEq] at hv
    obtain ⟨⟨rfl, _⟩, _, rfl⟩ := hv
    refine ⟨g, rfl, (Array.getElem?_eq_some_iff.1 hh).1, ?_⟩
    rw [cell_of_block hh i]
    have := congrArg (fun l => l[i]?) ht
    simp only [strC, List.getElem?_map, List.getElem?_take] at this
    rw [if_pos (by omega)] at this
    rw [← Array.getElem?_toList, this]; simp [hi]
theorem lit_str (w : World) (x : List UInt8) : ∀ j u, (strC [x])[j]? = some u → (w.alloc (.cells #[.string (bytesOf x)] 9)).cell? ((⟨w.heap.size, 0, none⟩ : Addr).add j) = some u := by
  intro j u hj
  match j, hj with
  | 0, hj =>
    rw [WideShapes.add_plain, cell_of_block (blk_new w _ rfl)]
    simpa [strC] using hj
def CutGives (c : UInt8) (l : List UInt8) (w : World) (e : Ending) (w' : World) : Prop := ∃ a cap, e = .returned (.slice a (pieces c l).length cap) ∧ StrsAt w' a (pieces c l) ∧ Below w.heap.size w w'
def CutInv (c : UInt8) (l : List UInt8) (k f : Nat) (out : List (List UInt8)) : Prop := (k ≤ l.length ∧ f ≤ k ∧ out = (scanS c (l.take k)).1 ∧ (scanS c (l.take k)).2 = (l.take k).drop f ∧ out.length ≤ k) ∨ (k = l.length + 1 ∧ out = pieces c l ∧ f ≤ k ∧ out.length ≤ k)
set_option maxHeartbeats 4000000 in
theorem l17Cut_any (l : List UInt8) (c : UInt8) (w : World) (hl : l.length ≤ 100000000) :
    Calls Try.prog 51 #[.string (bytesOf l), .int .u8 (c.toNat : Int)] w (CutGives c l w) := by
  obtain ⟨i0, hi0, hz0, hz1, hz2⟩ := info_parts infoStr
  have hsl : (bytesOf l).size = l.length := bytesOf_size l
  have hO0 : OwnT (w.alloc (.cells #[] 9)) w.heap.size (.slice (some ⟨w.heap.size, 0, none⟩) 0 0) [] :=
    ⟨⟨w.heap.size, 0, rfl⟩, rfl, .inr ⟨w.heap.size, 0, #[], rfl, Nat.le_refl _, blk_new _ _ rfl, Nat.le_refl _, Nat.zero_le _, rfl, rfl⟩⟩
  have hbA := (Below.refl w.heap.size w).alloc (Nat.le_refl _) (.cells #[] 9)
  have HSL := Lib.hid hsl
  clear hsl
  go_enter Try.func51, Try.ntmps51
  go_wp2_with fail
  go_loopg [5, 6, 7] (l.length + 2) (fun gk ov fv iv wr => ∃ (k f : Nat) (out : List (List UInt8)), gk = l.length + 2 - k ∧ k ≤ l.length + 1 ∧ iv = .int .i64 (k : Int) ∧ fv = .int .i64 (f : Int) ∧ CutInv c l k f out ∧ OwnT wr w.heap.size ov out ∧ Below w.heap.size w wr)
  case atStart => exact ⟨0, 0, [], rfl, Nat.zero_le _, rfl, rfl, .inl ⟨Nat.zero_le _, Nat.le_refl _, by simp [scanS], by simp [scanS], Nat.le_refl _⟩, hO0, hbA⟩
  case round =>
    obtain ⟨k, f, out, hgk, hk, rfl, rfl, hI, hown, hb⟩ := hrel
    have HG := Lib.hid hgk
    clear hgk hO0 hbA
    obtain ⟨g, cp, rfl⟩ := hown.1
    by_cases hend : k = l.length + 1
    · have hkl : ¬ (k : Int) ≤ ((bytesOf l).size : Int) := by rw [HSL.out]; omega
      have e : out = pieces c l := by
        rcases hI with ⟨h1, _⟩ | ⟨_, h2, _⟩
        · omega
        · exact h2
      subst e
      obtain ⟨a', c', e', hS'⟩ := hown.at
      have hS : StrsAt wr (some ⟨g, 0, none⟩) (pieces c l) := by
        simp only [Value.slice.injEq] at e'
        rw [e'.1]; exact hS'
      clear e' hS'
      have HE := Lib.hid hend
      clear hend hI
      go_wp2
      go_ret
      exact ⟨_, _, rfl, hS, hb⟩
    · rcases hI with ⟨h1, h2, h3, h4, h5⟩ | ⟨h1, _⟩
      rotate_left
      · exact absurd h1 hend
      have hkl : (k : Int) ≤ ((bytesOf l).size : Int) := by rw [HSL.out]; omega
      have hfk : (f : Int) ≤ (k : Int) := by omega
      obtain ⟨cur, hcur⟩ : ∃ cur, cur = (scanS c (l.take k)).2 := ⟨_, rfl⟩
      have H3 := Lib.hid h3
      have H4 : Hid (cur = (l.take k).drop f) := by show _ = _; rw [hcur, h4]
      have HCUR := Lib.hid hcur
      have hcut : (bytesOf l).extract f k = bytesOf cur := by rw [ext_list, H4.out]
      clear h3 h4 hcur
      have hown5 := hown.below ((Below.refl _ _).alloc (Nat.le_refl _) (.cells #[.string (bytesOf cur)] 9))
      have hb5 := hb.alloc hb.size (.cells #[.string (bytesOf cur)] 9)
      by_cases hlast : k = l.length
      · have ht1 : ((k : Int) == ((bytesOf l).size : Int)) = true := by rw [HSL.out, hlast]; simp
        have HINV : Hid (CutInv c l (k + 1) (k + 1) (out ++ [cur])) := .inr ⟨by omega, by rw [HCUR.out, H3.out, hlast, List.take_length]; rfl, Nat.le_refl _, by simp; omega⟩
        clear hlast hend
        go_wp2_with (at_builtin; refine wpList_append_own _ rfl _ _ 60 rfl w.heap.size 9 i0 (.string ByteArray.empty) 1 16 Try.underlying60 hi0 hz0 hz1 hz2 rfl (by decide) (.slice (some ⟨g, 0, none⟩) out.length cp) out.length (strC out) rfl hown5.2 ⟨wr.heap.size, 0, none⟩ 1 1 (strC [cur]) rfl rfl ?c1 ?c2 ?c3 ?c4 ?c5 ?_)
        case c1 => exact lit_str wr cur
        case c2 => intro u hu; simp [strC] at hu; subst hu; rfl
        case c3 => unfold maxLen; omega
        case c4 => omega
        case c5 => have := hb.size; simp; omega
        intro v' w5 h6 h7 h8
        have hown6 : OwnT w5 w.heap.size v' (out ++ [cur]) := by
          refine ⟨?_, ?_⟩
          · rcases h6.2 with ⟨_, h0⟩ | ⟨g', cp', cur', hv', _⟩
            · exact absurd h0 (by simp)
            · exact ⟨g', cp', by rw [hv']; simp⟩
          · have e : strC (out ++ [cur]) = strC out ++ strC [cur] := by simp [strC]
            rw [e, List.length_append]; exact h6
        have hb6 : Below w.heap.size w w5 := hb5.grown h7 hb5.size hown5.row
        rcases h6.2 with ⟨_, h0⟩ | ⟨g', cp', cur', hv', _⟩
        · exact absurd h0 (by simp)
        subst hv'
        clear hown5 hb5 h6 h7 h8 hown hb
        go_wp2
        go_roundg (l.length + 2 - (k + 1))
        case measure => have := HG.out; omega
        case rel => exact ⟨k + 1, k + 1, out ++ [cur], rfl, by omega, by go_num, by go_num, HINV.out, hown6, hb6⟩
      · have ht1 : ((k : Int) == ((bytesOf l).size : Int)) = false := by rw [HSL.out, beq_eq_false_iff_ne]; omega
        have hkn : k < l.length := by omega
        have hks : k < (bytesOf l).size := by rw [HSL.out]; exact hkn
        have hks' : (k : Int) < ((bytesOf l).size : Int) := by omega
        have hbk : (bytesOf l)[k] = l[k] := rfl
        have htk : l.take (k + 1) = l.take k ++ [l[k]] := List.take_succ_eq_append_getElem hkn
        by_cases heq : l[k] = c
        · have ht2 : ((((bytesOf l)[k].toNat : Nat) : Int) == (c.toNat : Int)) = true := by rw [hbk, heq]; simp
          have HINV : Hid (CutInv c l (k + 1) (k + 1) (out ++ [cur])) := .inl ⟨by omega, Nat.le_refl _, by rw [htk, scan_snoc, stepS, if_pos heq, HCUR.out, H3.out], by rw [htk, scan_snoc, stepS, if_pos heq]; simp; omega, by simp; omega⟩
          clear hlast hend hbk htk heq
          go_wp2_with (at_builtin; refine wpList_append_own _ rfl _ _ 60 rfl w.heap.size 9 i0 (.string ByteArray.empty) 1 16 Try.underlying60 hi0 hz0 hz1 hz2 rfl (by decide) (.slice (some ⟨g, 0, none⟩) out.length cp) out.length (strC out) rfl hown5.2 ⟨wr.heap.size, 0, none⟩ 1 1 (strC [cur]) rfl rfl ?c1 ?c2 ?c3 ?c4 ?c5 ?_)
          case c1 => exact lit_str wr cur
          case c2 => intro u hu; simp [strC] at hu; subst hu; rfl
          case c3 => unfold maxLen; omega
          case c4 => omega
          case c5 => have := hb.size; simp; omega
          intro v' w5 h6 h7 h8
          have hown6 : OwnT w5 w.heap.size v' (out ++ [cur]) := by
            refine ⟨?_, ?_⟩
            · rcases h6.2 with ⟨_, h0⟩ | ⟨g', cp', cur', hv', _⟩
              · exact absurd h0 (by simp)
              · exact ⟨g', cp', by rw [hv']; simp⟩
            · have e : strC (out ++ [cur]) = strC out ++ strC [cur] := by simp [strC]
              rw [e, List.length_append]; exact h6
          have hb6 : Below w.heap.size w w5 := hb5.grown h7 hb5.size hown5.row
          rcases h6.2 with ⟨_, h0⟩ | ⟨g', cp', cur', hv', _⟩
          · exact absurd h0 (by simp)
          subst hv'
          clear hown5 hb5 h6 h7 h8 hown hb
          go_wp2
          go_roundg (l.length + 2 - (k + 1))
          case measure => have := HG.out; omega
          case rel => exact ⟨k + 1, k + 1, out ++ [cur], rfl, by omega, by go_num, by go_num, HINV.out, hown6, hb6⟩
        · have ht2 : ((((bytesOf l)[k].toNat : Nat) : Int) == (c.toNat : Int)) = false := by
            rw [hbk, beq_eq_false_iff_ne]; intro e; apply heq
            exact UInt8.toNat_inj.1 (by omega)
          have HINV : Hid (CutInv c l (k + 1) f out) := .inl ⟨by omega, by omega, by rw [htk, scan_snoc, stepS, if_neg heq, H3.out], by
            rw [htk, scan_snoc, stepS, if_neg heq, List.drop_append_of_le_length (by simp; omega), ← H4.out, ← HCUR.out], by omega⟩
          clear hlast hend hbk htk heq hcut hown5 hb5
          go_wp2
          go_roundg (l.length + 2 - (k + 1))
          case measure => have := HG.out; omega
          case rel => exact ⟨k + 1, f, out, rfl, by omega, by go_num, rfl, HINV.out, hown, hb⟩
end Go.Proofs.Ytjpkohahabclgaa
