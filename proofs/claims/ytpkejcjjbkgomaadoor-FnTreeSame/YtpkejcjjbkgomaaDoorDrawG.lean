/- The contract of l1Bent: rules, one in twelve bent. -/
import Derived.Test.YtpkejcjjbkgomaaDoorDrawF
import Derived.Deep.DeepCutAuto
import Derived.Deep.LoopGhost
namespace Go.Proofs.YtpkejcjjbkgomaaDoor
open Go.ChangeShapes Go.WideShapes Go.ChangeAt Go.RowKit
theorem BoxG.old {w : World} {b : Nat} {v0 v1 : Value} (h : BoxG w b v0 v1) (o : Obj) : BoxG (w.alloc o) b v0 v1 := h.below ((Below.refl _ _).alloc (Nat.le_refl _) _)
theorem OwnR.alloc {w : World} {B : Nat} {v : Value} {rs : List RuleT} (h : OwnR w B v rs) (o : Obj) : OwnR (w.alloc o) B v rs := h.below ((Below.refl _ _).alloc (Nat.le_refl _) _)
theorem RulesAt.alloc {w : World} {a : Option Addr} {rs : List RuleT} (h : RulesAt w a rs) (o : Obj) : RulesAt (w.alloc o) a rs := h.below ((Below.refl _ _).alloc (Nat.le_refl _) _) (Nat.le_refl _)
def MoreRel (R k m A C gk : Nat) (st : ByteArray) (w wr : World) : Prop := ∃ us g cap, BoxG wr C (.string st) (.slice (some ⟨g, 0, none⟩) us.length cap) ∧ OwnR wr (A + 2) (.slice (some ⟨g, 0, none⟩) us.length cap) us ∧ SmallR us ∧ us.length ≤ m + 4 ∧ gk ≤ 9 ∧ 9 - us.length ≤ gk ∧ Rdk wr R (k + 3 + 3 * (9 - gk)) ∧ BoxG wr (A + 1) (.string ⟨#[]⟩) (.slice none 0 0) ∧ Only R w wr
theorem small_snoc {rs : List RuleT} (h : SmallR rs) {l r : ByteArray} (h1 : l.size ≤ 5) (h2 : r.size ≤ 5) : SmallR (rs ++ [(l, r)]) := by
  intro x hx
  rcases List.mem_append.1 hx with hx | hx
  · exact h x hx
  · obtain rfl : x = (l, r) := by simpa using hx
    exact ⟨h1, h2⟩
theorem own_new (w : World) (B : Nat) (hB : B ≤ w.heap.size) : OwnR (w.alloc (.cells #[] 159)) B (.slice (some ⟨w.heap.size, 0, none⟩) 0 0) [] :=
  ⟨⟨w.heap.size, 0, rfl, hB, Nat.le_refl _⟩, rfl, .inr ⟨w.heap.size, 0, #[], rfl, hB, blk_new _ _ rfl, Nat.le_refl _, Nat.zero_le _, rfl, rfl⟩⟩
/-- what stands when the copy is made: the box of the answer (A + 1), the copy's box behind s5, its rules -/
def OutRel (R k A : Nat) (st : ByteArray) (rs : List RuleT) (w : World) (s5 : Value) (wx : World) : Prop := ∃ C vr, s5 = .pointer (some ⟨C, 0, none⟩) ∧ A + 2 ≤ C ∧ BoxG wx C (.string st) vr ∧ OwnR wx (A + 2) vr rs ∧ BoxG wx (A + 1) (.string ⟨#[]⟩) (.slice none 0 0) ∧ Rdk wx R k ∧ Only R w wx
theorem OwnR.drew {w : World} {B : Nat} {v : Value} {rs : List RuleT} (h : OwnR w B v rs) : OwnR w.drew B v rs := h
theorem BoxG.drew {w : World} {b : Nat} {v0 v1 : Value} (h : BoxG w b v0 v1) : BoxG w.drew b v0 v1 := h
theorem Rdk.drew {w : World} {R k : Nat} (h : Rdk w R k) : Rdk w.drew R k := h
theorem Only.drew {R : Nat} {w w' : World} (h : Only R w w') : Only R w w'.drew := ⟨h.os, h.tape, h.output, h.size, h.block⟩
theorem RulesAt.drew2 {w : World} {a : Option Addr} {rs : List RuleT} (h : RulesAt w a rs) : RulesAt w.drew a rs := h
/-- the answer is laid into its box -/
theorem bent_done {R k k' m n : Nat} {w wz : World} {st : ByteArray} {rs : List RuleT} {g cap : Nat} (hn : rs.length = n) (hRl : R < w.heap.size) (hst : st.size ≤ 100) (hl : rs.length ≤ m) (hm : m ≤ 1000) (hS : SmallR rs)
    (hO : OwnR wz (w.heap.size + 2) (.slice (some ⟨g, 0, none⟩) n cap) rs) (hrd : Rdk wz R k) (hk : k ≤ k') (ho : Only R w wz) :
    DrawnG R k' m w (.returned (.agg #[.string st, .slice (some ⟨g, 0, none⟩) n cap])) ((wz.setCell ⟨w.heap.size + 1, 0, none⟩ (.string st)).setCell ⟨w.heap.size + 1, 1, none⟩ (.slice (some ⟨g, 0, none⟩) n cap)) := by
  subst hn
  obtain ⟨g', cap', e, hgB, hlc, hgl, hR⟩ := hO.at hS (by omega)
  simp only [Value.slice.injEq, Option.some.injEq, Addr.mk.injEq] at e
  obtain ⟨⟨rfl, _⟩, _, rfl⟩ := e
  have hp : ∀ x : Addr, some (⟨g, 0, none⟩ : Addr) = some x → x.block ≠ w.heap.size + 1 := fun x hx => by cases hx; show g ≠ w.heap.size + 1; omega
  exact ⟨_, st, rs, rfl, ⟨g, 0, cap, rfl, hlc, (hR.other (p := ⟨w.heap.size + 1, 0, none⟩) hp _).other (p := ⟨w.heap.size + 1, 1, none⟩) hp _, hl, hst, hS, by omega⟩,
    ((hrd.other (p := ⟨w.heap.size + 1, 0, none⟩) (by show R < w.heap.size + 1; omega) _).other (p := ⟨w.heap.size + 1, 1, none⟩) (by show R < w.heap.size + 1; omega) _).mono hk,
    (ho.store (Nat.le_refl _) (p := ⟨w.heap.size + 1, 0, none⟩) (Nat.le_succ _) _).store (Nat.le_refl _) (p := ⟨w.heap.size + 1, 1, none⟩) (Nat.le_succ _) _⟩
theorem small_set {rs : List RuleT} (h : SmallR rs) (j : Nat) (x : RuleT) (h1 : x.1.size ≤ 5) (h2 : x.2.size ≤ 5) : SmallR (rs.set j x) := by
  intro r hr
  rcases List.mem_or_eq_of_mem_set hr with hr | rfl
  · exact h r hr
  · exact ⟨h1, h2⟩
theorem own_ne {w : World} {B g cap n C : Nat} {rs : List RuleT} {v0 v1 : Value} (h : OwnR w B (.slice (some ⟨g, 0, none⟩) n cap) rs) (hC : BoxG w C v0 v1) : ¬ C = g := fun e => by
  obtain ⟨g', cp, cur, e', _, _, hh, _⟩ := h.block
  simp only [Value.slice.injEq, Option.some.injEq, Addr.mk.injEq] at e'
  obtain ⟨⟨rfl, _⟩, _⟩ := e'
  rw [← e] at hh
  have h2 := hh.symm.trans hC
  simp at h2
theorem own_left {w : World} {B g cap n : Nat} {rs : List RuleT} (h : OwnR w B (.slice (some ⟨g, 0, none⟩) n cap) rs) (j : Nat) (hj : j < rs.length) (s : ByteArray) : OwnR (w.setCell ⟨g, j * 2, none⟩ (.string s)) B (.slice (some ⟨g, 0, none⟩) n cap) (rs.set j (s, rs[j].2)) :=
  own_set h (j * 2) (.string s) (by omega) (by simp) fun q hq => by
    rw [ruleCells_set rs j hj]
    by_cases e : q = j * 2
    · subst e; rw [if_pos (by omega), if_pos rfl, if_pos (by omega)]
    · rw [if_neg e]
      by_cases e2 : q / 2 = j
      · obtain rfl : q = j * 2 + 1 := by omega
        rw [if_pos e2, if_neg (by omega), ruleCells_odd rs j hj]
      · rw [if_neg e2]
theorem own_right {w : World} {B g cap n : Nat} {rs : List RuleT} (h : OwnR w B (.slice (some ⟨g, 0, none⟩) n cap) rs) (j : Nat) (hj : j < rs.length) (s : ByteArray) : OwnR (w.setCell ⟨g, j * 2 + 1, none⟩ (.string s)) B (.slice (some ⟨g, 0, none⟩) n cap) (rs.set j (rs[j].1, s)) :=
  own_set h (j * 2 + 1) (.string s) (by omega) (by simp) fun q hq => by
    rw [ruleCells_set rs j hj]
    by_cases e : q = j * 2 + 1
    · subst e; rw [if_pos (by omega), if_pos rfl, if_neg (by omega)]
    · rw [if_neg e]
      by_cases e2 : q / 2 = j
      · obtain rfl : q = j * 2 := by omega
        rw [if_pos e2, if_pos (by omega), ruleCells_even rs j hj]
      · rw [if_neg e2]
set_option maxRecDepth 100000 in
set_option maxHeartbeats 3200000 in
theorem l1Bent_any (R k m b off cap : Nat) (st : ByteArray) (rs : List RuleT) (w : World) (H : Rdk w R k) (hk : k ≤ 900000) (hU : RulesAt w (some ⟨b, off, none⟩) rs) (hl : rs.length ≤ m) (hm : m ≤ 100) (hm5 : 5 ≤ m) (hst : st.size ≤ 100) (hS : SmallR rs) :
    Calls Tryd.prog 96 #[.pointer (some ⟨R, 0, none⟩), .agg #[.string st, .slice (some ⟨b, off, none⟩) rs.length cap]] w (DrawnG R (k + 100) (m + 4) w) := by
  have hRl := H.lt
  go_enter Tryd.func96, Tryd.ntmps96
  go_upto_region 1 with fail
  have hA : BoxG ((w.alloc (.cells #[.string st, .slice (some ⟨b, off, none⟩) rs.length cap] 64)).alloc (.cells #[.string ⟨#[]⟩, .slice none 0 0] 64)) w.heap.size (.string st) (.slice (some ⟨b, off, none⟩) rs.length cap) := BoxG.old (blk_new _ _ rfl) _
  have hZ : BoxG ((w.alloc (.cells #[.string st, .slice (some ⟨b, off, none⟩) rs.length cap] 64)).alloc (.cells #[.string ⟨#[]⟩, .slice none 0 0] 64)) (w.heap.size + 1) (.string ⟨#[]⟩) (.slice none 0 0) := blk_new _ _ (by simp)
  have hrd := (H.alloc (.cells #[.string st, .slice (some ⟨b, off, none⟩) rs.length cap] 64)).alloc (.cells #[.string ⟨#[]⟩, .slice none 0 0] 64)
  have hU2 := (hU.alloc (.cells #[.string st, .slice (some ⟨b, off, none⟩) rs.length cap] 64)).alloc (.cells #[.string ⟨#[]⟩, .slice none 0 0] 64)
  have ho := ((Only.refl R w).alloc (.cells #[.string st, .slice (some ⟨b, off, none⟩) rs.length cap] 64)).alloc (.cells #[.string ⟨#[]⟩, .slice none 0 0] 64)
  have hsz : ((w.alloc (.cells #[.string st, .slice (some ⟨b, off, none⟩) rs.length cap] 64)).alloc (.cells #[.string ⟨#[]⟩, .slice none 0 0] 64)).heap.size = w.heap.size + 2 := by simp
  generalize ((w.alloc (.cells #[.string st, .slice (some ⟨b, off, none⟩) rs.length cap] 64)).alloc (.cells #[.string ⟨#[]⟩, .slice none 0 0] 64)) = w1 at *
  have hsz' : w.heap.size + 2 ≤ w1.heap.size := by omega
  have n1 : ¬ w.heap.size = w1.heap.size := by omega
  have n2 : ¬ w.heap.size = w1.heap.size + 1 := by omega
  have n3 : ¬ w.heap.size + 1 = w1.heap.size := by omega
  have n4 : ¬ w.heap.size + 1 = w1.heap.size + 1 := by omega
  clear hsz H hU
  go_cut [5] (fun s5 wx => OutRel R k w.heap.size st rs w s5 wx)
  case first =>
    obtain ⟨a0, a1, _, _⟩ := hA.cells
    have O1 := (own_new w1 (w.heap.size + 2) hsz').drew
    have O2 := ((own_new w1 (w.heap.size + 2) hsz').alloc (.cells #[.string ⟨#[]⟩, .slice none 0 0] 64)).drew
    have O3 : OwnR ((w1.alloc (.cells #[.string ⟨#[]⟩, .slice none 0 0] 64)).alloc (.cells #[] 159)).drew (w.heap.size + 2) (.slice (some ⟨w1.heap.size + 1, 0, none⟩) 0 0) [] := by
      have h := (own_new (w1.alloc (.cells #[.string ⟨#[]⟩, .slice none 0 0] 64)) (w.heap.size + 2) (by simp; omega)).drew
      rwa [Deep.nblk_alloc] at h
    go_region_held3 (fun w' => w'.cell? ⟨w.heap.size, 0, none⟩ = some (.string st) ∧ w'.cell? ⟨w.heap.size, 1, none⟩ = some (.slice (some ⟨b, off, none⟩) rs.length cap))
      (first
        | go_keep
        | exact ⟨hA2.cells.1, hA2.cells.2.1⟩
        | exact ⟨(hA2.old _).cells.1, (hA2.old _).cells.2.1⟩
        | exact ⟨((hA2.other (p := ⟨w1.heap.size + 1, 0, none⟩) n2 _).other (p := ⟨w1.heap.size + 1, 1, none⟩) n2 _).cells.1, ((hA2.other (p := ⟨w1.heap.size + 1, 0, none⟩) n2 _).other (p := ⟨w1.heap.size + 1, 1, none⟩) n2 _).cells.2.1⟩
        | exact ⟨((hA2.other (p := ⟨w1.heap.size, 0, none⟩) n1 _).other (p := ⟨w1.heap.size, 1, none⟩) n1 _).cells.1, ((hA2.other (p := ⟨w1.heap.size, 0, none⟩) n1 _).other (p := ⟨w1.heap.size, 1, none⟩) n1 _).cells.2.1⟩)
      (first
        | (refine step_append_rules rfl _ _ rfl (w.heap.size + 2) (.slice (some ⟨w1.heap.size, 0, none⟩) 0 0) [] rs b off cap rfl rfl ?_ ?_ ?_ ?_ ?_; (with_reducible exact O1); (exact (hU2.alloc _).drew2); (simp; omega); (simp; omega); intro g cap2 w2 hown hgrow; have hA2 : BoxG w2 w.heap.size (.string st) (.slice (some ⟨b, off, none⟩) rs.length cap) := grown_keep O1 hgrow (hA.old _).drew (fun cur h => by simp at h); have hZ2 : BoxG w2 (w.heap.size + 1) (.string ⟨#[]⟩) (.slice none 0 0) := grown_keep O1 hgrow (hZ.old _).drew (fun cur h => by simp at h); have hrd2 := rdk_grown (hrd.alloc _).drew (by omega) O1 hgrow; have ho2 := only_grown (ho.alloc _).drew (Nat.le_add_right _ 2) O1 hgrow)
        | (refine step_append_rules rfl _ _ rfl (w.heap.size + 2) (.slice (some ⟨w1.heap.size, 0, none⟩) 0 0) [] rs b off cap rfl rfl ?_ ?_ ?_ ?_ ?_; (with_reducible exact O2); (exact ((hU2.alloc _).alloc _).drew2); (simp; omega); (simp; omega); intro g cap2 w2 hown hgrow; have hA2 : BoxG w2 w.heap.size (.string st) (.slice (some ⟨b, off, none⟩) rs.length cap) := grown_keep O2 hgrow ((hA.old _).old _).drew (fun cur h => by simp at h); have hZ2 : BoxG w2 (w.heap.size + 1) (.string ⟨#[]⟩) (.slice none 0 0) := grown_keep O2 hgrow ((hZ.old _).old _).drew (fun cur h => by simp at h); have hrd2 := rdk_grown ((hrd.alloc _).alloc _).drew (by omega) O2 hgrow; have ho2 := only_grown ((ho.alloc _).alloc _).drew (Nat.le_add_right _ 2) O2 hgrow; have hC2 : BoxG w2 (w1.heap.size + 1) (.string ⟨#[]⟩) (.slice none 0 0) := grown_keep O2 hgrow (blk_new _ _ (by simp)) (fun cur h => by simp at h); obtain ⟨c0, c1, cf0, cf1⟩ := hC2.cells)
        | (refine step_append_rules rfl _ _ rfl (w.heap.size + 2) (.slice (some ⟨w1.heap.size + 1, 0, none⟩) 0 0) [] rs b off cap rfl rfl ?_ ?_ ?_ ?_ ?_; (with_reducible exact O3); (exact ((hU2.alloc _).alloc _).drew2); (simp; omega); (simp; omega); intro g cap2 w2 hown hgrow; have hA2 : BoxG w2 w.heap.size (.string st) (.slice (some ⟨b, off, none⟩) rs.length cap) := grown_keep O3 hgrow ((hA.old _).old _).drew (fun cur h => by simp at h); have hZ2 : BoxG w2 (w.heap.size + 1) (.string ⟨#[]⟩) (.slice none 0 0) := grown_keep O3 hgrow ((hZ.old _).old _).drew (fun cur h => by simp at h); have hrd2 := rdk_grown ((hrd.alloc _).alloc _).drew (by omega) O3 hgrow; have ho2 := only_grown ((ho.alloc _).alloc _).drew (Nat.le_add_right _ 2) O3 hgrow; have hC2 : BoxG w2 w1.heap.size (.string ⟨#[]⟩) (.slice none 0 0) := grown_keep O3 hgrow (BoxG.old (blk_new _ _ rfl) _) (fun cur h => by simp at h); obtain ⟨c0, c1, cf0, cf1⟩ := hC2.cells))
    all_goals (go_wp2_with fail; go_meet)
    · have hs2 := hZ2.lt
      have hs3 := hgrow.size
      simp at hs3
      exact ⟨w2.heap.size, _, rfl, by omega, blk_new _ _ rfl, by simpa using hown.alloc _, hZ2.old _, hrd2.alloc _, ho2.alloc _⟩
    · exact ⟨w1.heap.size + 1, _, rfl, by omega, (hC2.set0 _).set1 _, by simpa using (hown.store (p := ⟨w1.heap.size + 1, 0, none⟩) hC2 (by decide) _).store (p := ⟨w1.heap.size + 1, 1, none⟩) (hC2.set0 _) (by decide) _, (hZ2.other (p := ⟨w1.heap.size + 1, 0, none⟩) n4 _).other (p := ⟨w1.heap.size + 1, 1, none⟩) n4 _, (hrd2.other (p := ⟨w1.heap.size + 1, 0, none⟩) (by show R < w1.heap.size + 1; omega) _).other (p := ⟨w1.heap.size + 1, 1, none⟩) (by show R < w1.heap.size + 1; omega) _, (ho2.store (Nat.le_refl _) (p := ⟨w1.heap.size + 1, 0, none⟩) (by show w.heap.size ≤ w1.heap.size + 1; omega) _).store (Nat.le_refl _) (p := ⟨w1.heap.size + 1, 1, none⟩) (by show w.heap.size ≤ w1.heap.size + 1; omega) _⟩
    · exact ⟨w1.heap.size, _, rfl, by omega, (hC2.set0 _).set1 _, by simpa using (hown.store (p := ⟨w1.heap.size, 0, none⟩) hC2 (by decide) _).store (p := ⟨w1.heap.size, 1, none⟩) (hC2.set0 _) (by decide) _, (hZ2.other (p := ⟨w1.heap.size, 0, none⟩) n3 _).other (p := ⟨w1.heap.size, 1, none⟩) n3 _, (hrd2.other (p := ⟨w1.heap.size, 0, none⟩) (by show R < w1.heap.size; omega) _).other (p := ⟨w1.heap.size, 1, none⟩) (by show R < w1.heap.size; omega) _, (ho2.store (Nat.le_refl _) (p := ⟨w1.heap.size, 0, none⟩) (by show w.heap.size ≤ w1.heap.size; omega) _).store (Nat.le_refl _) (p := ⟨w1.heap.size, 1, none⟩) (by show w.heap.size ≤ w1.heap.size; omega) _⟩
  case rest =>
    clear hA hZ hrd hU2 ho hsz' n1 n2 n3 n4
    obtain ⟨C, vr, rfl, hC0, hC, hO, hZ, hrd, ho⟩ := hcut
    obtain ⟨g, cap', rfl, hgB, hlc, hgl, hR⟩ := hO.at hS (by omega)
    obtain ⟨c0, c1, cf0, cf1⟩ := hC.cells
    go_wp2_with fail
    refine (pick_any R k 12 _ hrd (by omega) (by omega) (by omega)).mono ?_
    rintro e w3 ⟨v, rfl, ⟨hv0, _, _⟩, hrd3, ho3'⟩
    have ho3 := ho.trans ho3'
    have hC3 := hC.only ho3' (by omega)
    have hO3 := hO.only ho3' (by omega)
    have hZ3 := hZ.only ho3' (by omega)
    clear c0 c1 cf0 cf1 hC hO hZ hrd ho ho3' hR hgl
    obtain ⟨c0, c1, cf0, cf1⟩ := hC3.cells
    obtain ⟨z0, z1, zf0, zf1⟩ := hZ3.cells
    have hCZ : ¬ C = w.heap.size + 1 := by omega
    by_cases hpos : 0 < v
    · go_wp2
      exact bodyPost_ret (v := .agg #[.string st, .slice (some ⟨g, 0, none⟩) rs.length cap']) (by simp [results, Tryd.results96, go_sem, z0, z1]) rfl (bent_done rfl hRl hst (by omega) (by omega) hS hO3 hrd3 (by omega) ho3)
    · by_cases hn0 : rs.length = 0
      · have hn0' : ((rs.length : Int) == 0) = true := by simp [hn0]
        have HN := Lib.hid hn0
        clear hn0
        go_wp2
        exact bodyPost_ret (v := .agg #[.string st, .slice (some ⟨g, 0, none⟩) rs.length cap']) (by simp [results, Tryd.results96, go_sem, z0, z1]) rfl (bent_done rfl hRl hst (by omega) (by omega) hS hO3 hrd3 (by omega) ho3)
      · have hn0' : ((rs.length : Int) == 0) = false := by simpa using hn0
        have hn1 : 0 < rs.length := by omega
        clear z0 z1 zf0 zf1
        go_wp2_with fail
        refine (pick_any R (k + 1) rs.length _ hrd3 (by omega) (by omega) (by omega)).mono ?_
        rintro e w4 ⟨v4, rfl, ⟨hv40, hv41, _⟩, hrd4, ho4'⟩
        obtain ⟨j, rfl⟩ : ∃ j : Nat, v4 = (j : Int) := ⟨v4.toNat, by omega⟩
        have hj : j < rs.length := by have := hv41 (by omega); omega
        have ho4 := ho3.trans ho4'
        have hC4 := hC3.only ho4' (by omega)
        have hO4 := hO3.only ho4' (by omega)
        have hZ4 := hZ3.only ho4' (by omega)
        clear c0 c1 cf0 cf1 hC3 hO3 hZ3 hrd3 ho3 ho4' hv41
        go_wp2_with fail
        refine (pick_any R (k + 1 + 1) 5 _ hrd4 (by omega) (by omega) (by omega)).mono ?_
        rintro e w5 ⟨v5, rfl, ⟨hv50, hv51, _⟩, hrd5, ho5'⟩
        have hv52 : v5 < 5 := hv51 (by omega)
        have ho5 := ho4.trans ho5'
        have hC5 := hC4.only ho5' (by omega)
        have hO5 := hO4.only ho5' (by omega)
        have hZ5 := hZ4.only ho5' (by omega)
        clear hC4 hO4 hZ4 hrd4 ho4 ho5' hv51 hn0
        have hjn : (j : Int) < (rs.length : Int) := by omega
        have hgR : ¬ g = R := by omega
        have hCl := hC5.lt
        by_cases q0 : v5 = 0
        · have e0 : (v5 == 0) = true := by simp [q0]
          clear q0
          go_wp2_with fail
          refine (of_any R (k + 1 + 1 + 1) w5.heap.size 5 _ [⟨#[]⟩, ⟨#[97]⟩, ⟨#[65, 66]⟩, ⟨#[70]⟩, ⟨#[66]⟩] _ (hrd5.alloc _) (by omega) rfl (by omega) (by omega) (by have := hrd5.lt; omega) (lit_cells w5 [⟨#[]⟩, ⟨#[97]⟩, ⟨#[65, 66]⟩, ⟨#[70]⟩, ⟨#[66]⟩] _)).mono ?_
          rintro e w6 ⟨s6, rfl, hs6, hrd6, ho6'⟩
          have hs6' : s6.size ≤ 100 := by
            simp only [List.mem_cons, List.not_mem_nil, or_false] at hs6
            rcases hs6 with rfl | rfl | rfl | rfl | rfl <;> decide
          have ho6 := (ho5.alloc _).trans ho6'
          have hC6 := (hC5.old _).only ho6' (by omega)
          have hO6 := (hO5.alloc _).only ho6' (by omega)
          have hZ6 := (hZ5.old _).only ho6' (by omega)
          obtain ⟨c0, c1, cf0, cf1⟩ := hC6.cells
          obtain ⟨z0, z1, zf0, zf1⟩ := (hZ6.other (p := ⟨C, 0, none⟩) (by show w.heap.size + 1 ≠ C; omega) (.string s6)).cells
          obtain ⟨y0, y1, _, _⟩ := (hC6.set0 (.string s6)).cells
          clear hC5 hO5 hZ5 hrd5 ho5 ho6' hs6
          go_wp2
          exact bodyPost_ret (v := .agg #[.string s6, .slice (some ⟨g, 0, none⟩) rs.length cap']) (by simp [results, Tryd.results96, go_sem, z0, z1]) rfl
            (bent_done rfl hRl hs6' (by omega) (by omega) hS (hO6.store (p := ⟨C, 0, none⟩) hC6 (by decide) _) (hrd6.other (p := ⟨C, 0, none⟩) (by show R < C; omega) _) (by omega) (ho6.store (Nat.le_refl _) (p := ⟨C, 0, none⟩) (by show w.heap.size ≤ C; omega) _))
        · have e0 : (v5 == 0) = false := by simpa using q0
          by_cases q1 : v5 = 1
          · have e1 : (v5 == 1) = true := by simp [q1]
            clear q0 q1
            obtain ⟨c0, c1, cf0, cf1⟩ := hC5.cells
            go_wp2_with fail
            go_region_held3 (fun w' => w'.cell? ⟨C, 1, none⟩ = some (.slice (some ⟨g, 0, none⟩) rs.length cap'))
              (first
                | go_keep
                | exact hC6.cells.2.1
                | exact (hC6.other (p := ⟨g, j * 2, none⟩) hCg _).cells.2.1)
              ((go_at_call 75; refine (of_any R (k + 1 + 1 + 1) w5.heap.size 4 _ [⟨#[]⟩, ⟨#[97]⟩, ⟨#[65, 66]⟩, ⟨#[70]⟩] _ ?_ (by omega) rfl (by omega) (by omega) ?_ ?_).mono ?_; (exact (hrd5.alloc _).drew); (have := hrd5.lt; omega); (exact lit_cells w5 [⟨#[]⟩, ⟨#[97]⟩, ⟨#[65, 66]⟩, ⟨#[70]⟩] _); rintro e w6 ⟨s6, rfl, hs6, hrd6, ho6'⟩; have hC6 := (hC5.old _).drew.only ho6' (by omega); have hO6 := (hO5.alloc _).drew.only ho6' (by omega); have hZ6 := (hZ5.old _).drew.only ho6' (by omega); have ho6 := (ho5.alloc _).drew.trans ho6'; obtain ⟨r0, rf0⟩ := own_cell hO6 (j * 2) (by omega); obtain ⟨r1, rf1⟩ := own_cell hO6 (j * 2 + 1) (by omega); rw [ruleCells_even rs j hj] at r0; rw [ruleCells_odd rs j hj] at r1; have hCg : ¬ C = g := own_ne hO6 hC6))
            have hs6' : s6.size ≤ 5 := by
              simp only [List.mem_cons, List.not_mem_nil, or_false] at hs6
              rcases hs6 with rfl | rfl | rfl | rfl <;> decide
            have hC7 := hC6.other (p := ⟨g, j * 2, none⟩) hCg (.string s6)
            have hZ7 := hZ6.other (p := ⟨g, j * 2, none⟩) (by show w.heap.size + 1 ≠ g; omega) (.string s6)
            have hO7 := own_left hO6 j hj s6
            have hrd7 := hrd6.other (p := ⟨g, j * 2, none⟩) (by show R < g; omega) (.string s6)
            have ho7 := ho6.store (Nat.le_refl _) (p := ⟨g, j * 2, none⟩) (by show w.heap.size ≤ g; omega) (.string s6)
            clear hC5 hO5 hZ5 hrd5 ho5 ho6' hs6 hC6 hO6 hZ6 hrd6 ho6 r0 r1 rf0 rf1 c0 c1 cf0 cf1
            generalize w6.setCell ⟨g, j * 2, none⟩ (.string s6) = w7 at *
            obtain ⟨c0, c1, cf0, cf1⟩ := hC7.cells
            obtain ⟨z0, z1, zf0, zf1⟩ := hZ7.cells
            go_wp2
            exact bodyPost_ret (v := .agg #[.string st, .slice (some ⟨g, 0, none⟩) rs.length cap']) (by simp [results, Tryd.results96, go_sem, z0, z1]) rfl
              (bent_done (by simp) hRl hst (by simp; omega) (by omega) (small_set hS j (s6, rs[j].2) hs6' (hS rs[j] (List.getElem_mem hj)).2) hO7 hrd7 (by omega) ho7)
          · have e1 : (v5 == 1) = false := by simpa using q1
            by_cases q2 : v5 = 2
            · have e2 : (v5 == 2) = true := by simp [q2]
              clear q0 q1 q2
              obtain ⟨c0, c1, cf0, cf1⟩ := hC5.cells
              go_wp2_with fail
              go_region_held3 (fun w' => w'.cell? ⟨C, 1, none⟩ = some (.slice (some ⟨g, 0, none⟩) rs.length cap'))
                (first
                  | go_keep
                  | exact hC6.cells.2.1
                  | exact (hC6.other (p := ⟨g, j * 2 + 1, none⟩) hCg _).cells.2.1)
                ((go_at_call 75; refine (of_any R (k + 1 + 1 + 1) w5.heap.size 5 _ [⟨#[97, 97, 97, 97, 97]⟩, ⟨#[101]⟩, ⟨#[32]⟩, ⟨#[97, 62]⟩, ⟨#[70]⟩] _ ?_ (by omega) rfl (by omega) (by omega) ?_ ?_).mono ?_; (exact (hrd5.alloc _).drew); (have := hrd5.lt; omega); (exact lit_cells w5 [⟨#[97, 97, 97, 97, 97]⟩, ⟨#[101]⟩, ⟨#[32]⟩, ⟨#[97, 62]⟩, ⟨#[70]⟩] _); rintro e w6 ⟨s6, rfl, hs6, hrd6, ho6'⟩; have hC6 := (hC5.old _).drew.only ho6' (by omega); have hO6 := (hO5.alloc _).drew.only ho6' (by omega); have hZ6 := (hZ5.old _).drew.only ho6' (by omega); have ho6 := (ho5.alloc _).drew.trans ho6'; obtain ⟨r0, rf0⟩ := own_cell hO6 (j * 2) (by omega); obtain ⟨r1, rf1⟩ := own_cell hO6 (j * 2 + 1) (by omega); rw [ruleCells_even rs j hj] at r0; rw [ruleCells_odd rs j hj] at r1; have hCg : ¬ C = g := own_ne hO6 hC6))
              have hs6' : s6.size ≤ 5 := by
                simp only [List.mem_cons, List.not_mem_nil, or_false] at hs6
                rcases hs6 with rfl | rfl | rfl | rfl | rfl <;> decide
              have hC7 := hC6.other (p := ⟨g, j * 2 + 1, none⟩) hCg (.string s6)
              have hZ7 := hZ6.other (p := ⟨g, j * 2 + 1, none⟩) (by show w.heap.size + 1 ≠ g; omega) (.string s6)
              have hO7 := own_right hO6 j hj s6
              have hrd7 := hrd6.other (p := ⟨g, j * 2 + 1, none⟩) (by show R < g; omega) (.string s6)
              have ho7 := ho6.store (Nat.le_refl _) (p := ⟨g, j * 2 + 1, none⟩) (by show w.heap.size ≤ g; omega) (.string s6)
              clear hC5 hO5 hZ5 hrd5 ho5 ho6' hs6 hC6 hO6 hZ6 hrd6 ho6 r0 r1 rf0 rf1 c0 c1 cf0 cf1
              generalize w6.setCell ⟨g, j * 2 + 1, none⟩ (.string s6) = w7 at *
              obtain ⟨c0, c1, cf0, cf1⟩ := hC7.cells
              obtain ⟨z0, z1, zf0, zf1⟩ := hZ7.cells
              go_wp2
              exact bodyPost_ret (v := .agg #[.string st, .slice (some ⟨g, 0, none⟩) rs.length cap']) (by simp [results, Tryd.results96, go_sem, z0, z1]) rfl
                (bent_done (by simp) hRl hst (by simp; omega) (by omega) (small_set hS j (rs[j].1, s6) (hS rs[j] (List.getElem_mem hj)).1 hs6') hO7 hrd7 (by omega) ho7)
            · have e2 : (v5 == 2) = false := by simpa using q2
              by_cases q3 : v5 = 3
              · have e3 : (v5 == 3) = true := by simp [q3]
                clear q0 q1 q2 q3
                have hrj := hS rs[j] (List.getElem_mem hj)
                obtain ⟨c0, c1, cf0, cf1⟩ := hC5.cells
                obtain ⟨r0, rf0⟩ := own_cell hO5 (j * 2) (by omega)
                obtain ⟨r1, rf1⟩ := own_cell hO5 (j * 2 + 1) (by omega)
                rw [ruleCells_even rs j hj] at r0
                rw [ruleCells_odd rs j hj] at r1
                have O1 := (hO5.alloc (.cells #[.string rs[j].1, .string rs[j].2] 159)).drew
                have U1 := (lit_rules w5 rs[j].1 rs[j].2 hrj.1 hrj.2).drew2
                go_wp2_with fail
                go_region_law (first | (refine step_append_rules rfl _ _ rfl (w.heap.size + 2) (.slice (some ⟨g, 0, none⟩) rs.length cap') rs [(rs[j].1, rs[j].2)] w5.heap.size 0 1 rfl rfl ?_ ?_ ?_ ?_ ?_; (exact O1); (exact U1); (simp; omega); (have := ho5.size; simp; omega); intro g6 cap6 w6 hO6 hgrow; have hC6 : BoxG w6 C (.string st) (.slice (some ⟨g, 0, none⟩) rs.length cap') := grown_keep O1 hgrow (hC5.old _).drew (fun cur h => by simp at h); obtain ⟨d0, d1, df0, df1⟩ := hC6.cells))
                all_goals
                  have hO7 := hO6.store (p := ⟨C, 1, none⟩) hC6 (by decide) (.slice (some ⟨g6, 0, none⟩) (rs.length + 1) cap6)
                  have hC7 := hC6.set1 (.slice (some ⟨g6, 0, none⟩) (rs.length + 1) cap6)
                  have hZ6 : BoxG w6 (w.heap.size + 1) (.string ⟨#[]⟩) (.slice none 0 0) := grown_keep O1 hgrow (hZ5.old _).drew (fun cur h => by simp at h)
                  have hZ7 := hZ6.other (p := ⟨C, 1, none⟩) (by show w.heap.size + 1 ≠ C; omega) (.slice (some ⟨g6, 0, none⟩) (rs.length + 1) cap6)
                  have hrd7 := (rdk_grown (hrd5.alloc _).drew (by omega) O1 hgrow).other (p := ⟨C, 1, none⟩) (by show R < C; omega) (.slice (some ⟨g6, 0, none⟩) (rs.length + 1) cap6)
                  have ho7 := (only_grown (ho5.alloc _).drew (Nat.le_add_right _ 2) O1 hgrow).store (Nat.le_refl _) (p := ⟨C, 1, none⟩) (by show w.heap.size ≤ C; omega) (.slice (some ⟨g6, 0, none⟩) (rs.length + 1) cap6)
                  clear hC5 hO5 hZ5 hrd5 ho5 r0 r1 rf0 rf1 c0 c1 cf0 cf1 O1 U1 hgrow hC6 hO6 hZ6 d0 d1 df0 df1
                  generalize w6.setCell ⟨C, 1, none⟩ (.slice (some ⟨g6, 0, none⟩) (rs.length + 1) cap6) = w7 at *
                  obtain ⟨c0, c1, cf0, cf1⟩ := hC7.cells
                  obtain ⟨z0, z1, zf0, zf1⟩ := hZ7.cells
                  go_wp2
                  exact bodyPost_ret (v := .agg #[.string st, .slice (some ⟨g6, 0, none⟩) (rs.length + 1) cap6]) (by simp [results, Tryd.results96, go_sem, z0, z1]) rfl
                    (bent_done (rs := rs ++ [(rs[j].1, rs[j].2)]) (by simp) hRl hst (by simp; omega) (by omega) (small_snoc hS hrj.1 hrj.2) hO7 hrd7 (by omega) ho7)
              · have e3 : (v5 == 3) = false := by simpa using q3
                clear q0 q1 q2 q3
                go_wp2
                go_loopg [31] 9 (fun gk _ wr => MoreRel R k m w.heap.size C gk st w wr)
                case atStart => exact ⟨rs, g, cap', hC5, hO5, hS, by omega, by omega, by omega, hrd5.mono (by omega), hZ5, ho5⟩
                case round =>
                  obtain ⟨us, gu, capu, hC, hO, hSu, hlu, hg9, hgu, hrd, hZ, ho⟩ := hrel
                  obtain ⟨c0, c1, cf0, cf1⟩ := hC.cells
                  by_cases hle : us.length ≤ 8
                  · have hle' : (us.length : Int) ≤ 8 := by omega
                    go_wp2_with fail
                    go_region_law (first
                      | (go_simp; go_at_call 118; refine (l1Signed_any R (k + 3 + 3 * (9 - gk)) 3 _ ?_ (by omega) (by omega)).mono ?_; (exact hrd.drew); rintro e wa ⟨sa, rfl, hsa, hrda, hoa⟩; have hCa := hC.drew.only hoa (by omega); have hOa := hO.drew.only hoa (by omega); have hZa := hZ.drew.only hoa (by omega); have ho_a := ho.drew.trans hoa; obtain ⟨a0, a1, af0, af1⟩ := hCa.cells; have a2 : ∀ o, (wa.alloc o).cell? ⟨C, 1, none⟩ = some (.slice (some ⟨gu, 0, none⟩) us.length capu) := (fun o => (hCa.old o).cells.2.1))
                      | (refine step_append_rules rfl _ _ rfl (w.heap.size + 2) (.slice (some ⟨gu, 0, none⟩) us.length capu) us [(⟨#[69]⟩, sa)] wa.heap.size 0 1 rfl rfl ?_ ?_ ?_ ?_ ?_; (exact hOa.alloc _); (exact lit_rules wa ⟨#[69]⟩ sa (by decide) (Nat.le_trans hsa (by omega))); (simp; omega); (have := ho_a.size; have := hCa.lt; simp; omega); intro g6 cap6 w6 hO6 hgrow; have hC6 : BoxG w6 C (.string st) (.slice (some ⟨gu, 0, none⟩) us.length capu) := grown_keep (hOa.alloc _) hgrow (hCa.old _) (fun cur h => by simp at h); obtain ⟨d0, d1, df0, df1⟩ := hC6.cells))
                    all_goals
                      have hO7 := hO6.store (p := ⟨C, 1, none⟩) hC6 (by decide) (.slice (some ⟨g6, 0, none⟩) (us.length + 1) cap6)
                      have hC7 := hC6.set1 (.slice (some ⟨g6, 0, none⟩) (us.length + 1) cap6)
                      have hZ6 : BoxG w6 (w.heap.size + 1) (.string ⟨#[]⟩) (.slice none 0 0) := grown_keep (hOa.alloc _) hgrow (hZa.old _) (fun cur h => by simp at h)
                      have hZ7 := hZ6.other (p := ⟨C, 1, none⟩) (by show w.heap.size + 1 ≠ C; omega) (.slice (some ⟨g6, 0, none⟩) (us.length + 1) cap6)
                      have hrd7 := (rdk_grown (hrda.alloc _) (by omega) (hOa.alloc _) hgrow).other (p := ⟨C, 1, none⟩) (by show R < C; omega) (.slice (some ⟨g6, 0, none⟩) (us.length + 1) cap6)
                      have ho7 := (only_grown (ho_a.alloc _) (Nat.le_add_right _ 2) (hOa.alloc _) hgrow).store (Nat.le_refl _) (p := ⟨C, 1, none⟩) (by show w.heap.size ≤ C; omega) (.slice (some ⟨g6, 0, none⟩) (us.length + 1) cap6)
                      have hs3 : sa.size ≤ 5 := Nat.le_trans hsa (by omega)
                      have hM : MoreRel R k m w.heap.size C (gk - 1) st w (w6.setCell ⟨C, 1, none⟩ (.slice (some ⟨g6, 0, none⟩) (us.length + 1) cap6)) :=
                        ⟨us ++ [(⟨#[69]⟩, sa)], g6, cap6, by simpa using hC7, by simpa using hO7, small_snoc hSu (by decide) hs3, by simp; omega, by omega, by simp; omega, hrd7.mono (by omega), hZ7, ho7⟩
                      clear hC hO hZ hrd ho c0 c1 cf0 cf1 hgrow hC6 hO6 hZ6 d0 d1 df0 df1 hO7 hC7 hZ7 hrd7 ho7 hCa hOa hZa hrda ho_a a0 a1 a2 af0 af1 hoa hsa
                      go_wp2
                      go_roundg (gk - 1)
                      case measure => omega
                      case rel => exact hM
                  · have hle' : ¬ (us.length : Int) ≤ 8 := by omega
                    obtain ⟨z0, z1, zf0, zf1⟩ := hZ.cells
                    go_wp2
                    exact bodyPost_ret (v := .agg #[.string st, .slice (some ⟨gu, 0, none⟩) us.length capu]) (by simp [results, Tryd.results96, go_sem, z0, z1]) rfl
                      (bent_done rfl hRl hst hlu (by omega) hSu hO hrd (by omega) ho)
end Go.Proofs.YtpkejcjjbkgomaaDoor
