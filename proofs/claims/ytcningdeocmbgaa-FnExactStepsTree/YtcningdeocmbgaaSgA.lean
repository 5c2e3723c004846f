/- The tree of steps: what it is, and the signs of a row of trees. -/
import Derived.Test.YtcningdeocmbgaaOwB
import Derived.Test.YtcningdeocmbgaaTextB
namespace Go.Proofs.Ytcningdeocmbgaa
open Go.ChangeShapes Go.WideShapes Go.ChangeAt Go.RowKit Go.Deep
set_option maxRecDepth 100000
/-- the signs of trees, one behind the other -/
def signsL (ts : List OT) : List UInt8 := ts.flatMap fun t => t.s.data.toList
theorem signsL_take {ts : List OT} {k : Nat} (h : k < ts.length) : signsL (ts.take (k + 1)) = signsL (ts.take k) ++ ts[k].s.data.toList := by
  unfold signsL
  rw [List.take_succ_eq_append_getElem h, List.flatMap_append]
  simp
theorem signsL_len {ts : List OT} (h : ∀ t ∈ ts, t.s.size = 1) : (signsL ts).length = ts.length := by
  unfold signsL
  induction ts with
  | nil => rfl
  | cons x l ih =>
    have h1 := h x (List.mem_cons_self ..)
    have h2 := ih (fun t ht => h t (List.mem_cons_of_mem _ ht))
    simp only [List.flatMap_cons, List.length_append, List.length_cons, h2]
    simp at h1 ⊢
    omega
/-- a row of trees as it lies: the cells of each -/
def TreesAt (w : World) (a : Option Addr) (us : List KidO) : Prop := ∀ j (h : j < us.length), ∃ g off, a = some ⟨g, off, none⟩ ∧ g < w.heap.size ∧ w.cell? ⟨g, off + j * 3, none⟩ = some (.string us[j].1) ∧ w.cell? ⟨g, off + j * 3 + 1, none⟩ = some (.int .i64 us[j].2.1) ∧ w.cell? ⟨g, off + j * 3 + 2, none⟩ = some us[j].2.2
theorem TreesAt.below {w w' : World} {a : Option Addr} {us : List KidO} (h : TreesAt w a us) (hb : Below w.heap.size w w') : TreesAt w' a us := fun j hj => by
  obtain ⟨g, off, e, hg, c0, c1, c2⟩ := h j hj
  exact ⟨g, off, e, Nat.lt_of_lt_of_le hg hb.size, by rw [hb.cell (p := ⟨g, _, none⟩) hg, c0], by rw [hb.cell (p := ⟨g, _, none⟩) hg, c1], by rw [hb.cell (p := ⟨g, _, none⟩) hg, c2]⟩
theorem TreesAt.drew {w : World} {a : Option Addr} {us : List KidO} (h : TreesAt w a us) : TreesAt w.drew a us := h
/-- a row of the call's own, from the k-th on -/
theorem TreesW.at {w : World} {B : Nat} {v : Value} {us : List KidO} {ts : List OT} (H : TreesW w B v us ts) : (v = .slice none 0 0 ∧ us = [] ∧ ts = []) ∨ ∃ g cap, v = .slice (some ⟨g, 0, none⟩) us.length cap ∧ us.length ≤ cap ∧ B ≤ g ∧ g < w.heap.size ∧ ∀ k, k ≤ us.length → TreesAt w (some ⟨g, k * 3, none⟩) (us.drop k) := by
  rcases H.row.2 with ⟨hv, h0⟩ | ⟨g, cap, cur, hv, hg, hh, hlc, hm, hz, ht⟩
  · have hu : us = [] := List.eq_nil_of_length_eq_zero h0
    exact .inl ⟨hv, hu, List.eq_nil_of_length_eq_zero (by rw [← H.len, hu]; rfl)⟩
  · refine .inr ⟨g, cap, hv, hlc, hg, (Array.getElem?_eq_some_iff.1 hh).1, fun k hk j hj => ?_⟩
    have hj' : k + j < us.length := by rw [List.length_drop] at hj; omega
    obtain ⟨f0, f1, f2⟩ := flatO_at us (k + j) hj'
    have e : (us.drop k)[j] = us[k + j] := List.getElem_drop ..
    have cv : ∀ q x, q < us.length * 3 → (flatO us)[q]? = some x → w.cell? ⟨g, q, none⟩ = some x := by
      intro q x hq hx
      rw [← ht, List.getElem?_take, if_pos hq] at hx
      rw [cell_of_block hh]
      simpa using hx
    refine ⟨g, k * 3, rfl, (Array.getElem?_eq_some_iff.1 hh).1, ?_, ?_, ?_⟩
    · rw [e, show k * 3 + j * 3 = (k + j) * 3 from by omega]; exact cv _ _ (by omega) f0
    · rw [e, show k * 3 + j * 3 + 1 = (k + j) * 3 + 1 from by omega]; exact cv _ _ (by omega) f1
    · rw [e, show k * 3 + j * 3 + 2 = (k + j) * 3 + 2 from by omega]; exact cv _ _ (by omega) f2
def signsU (us : List KidO) : List UInt8 := us.flatMap fun u => u.1.data.toList
theorem signsU_take {us : List KidO} {k : Nat} (h : k < us.length) : signsU (us.take (k + 1)) = signsU (us.take k) ++ us[k].1.data.toList := by
  unfold signsU
  rw [List.take_succ_eq_append_getElem h, List.flatMap_append]
  simp
theorem signsU_eq {w : World} {B : Nat} {v : Value} {us : List KidO} {ts : List OT} (H : TreesW w B v us ts) (k : Nat) : signsU (us.drop k) = signsL (ts.drop k) := by
  have e : us.map (·.1) = ts.map OT.s := by
    apply List.ext_getElem (by simp [H.len])
    intro i h1 h2
    have hi : i < us.length := by simpa using h1
    obtain ⟨a, cap, h, _⟩ := H.kid i hi
    simp only [List.getElem_map]
    rw [h]
  have e2 : (us.drop k).map (·.1) = (ts.drop k).map OT.s := by rw [List.map_drop, List.map_drop, e]
  have s1 : ∀ l : List KidO, signsU l = (l.map (·.1)).flatMap (fun s => s.data.toList) := fun l => by unfold signsU; rw [List.flatMap_map]
  have s2 : ∀ l : List OT, signsL l = (l.map OT.s).flatMap (fun s => s.data.toList) := fun l => by unfold signsL; rw [List.flatMap_map]
  rw [s1, s2, e2]
theorem signsU_len (us : List KidO) (hs : ∀ u ∈ us, u.1.size ≤ 1) (k : Nat) : (signsU (us.take k)).length ≤ k := by
  have : ∀ l : List KidO, (∀ u ∈ l, u.1.size ≤ 1) → (signsU l).length ≤ l.length := by
    intro l
    induction l with
    | nil => intro _; simp [signsU]
    | cons x l ih =>
      intro h
      have h1 := h x (List.mem_cons_self ..)
      have h2 := ih (fun t ht => h t (List.mem_cons_of_mem _ ht))
      unfold signsU at h2 ⊢
      simp only [List.flatMap_cons, List.length_append, List.length_cons]
      simp at h1 h2 ⊢
      omega
  have h := this (us.take k) (fun u hu => hs u (List.mem_of_mem_take hu))
  rw [List.length_take] at h
  omega
set_option maxHeartbeats 800000 in
theorem l7Signs_any (a : Option Addr) (cap : Nat) (us : List KidO) (w : World) (H : TreesAt w a us) (hn : us.length ≤ 1000) (hs : ∀ u ∈ us, u.1.size ≤ 1) :
    Calls Try.prog 27 #[.slice a us.length cap] w fun e w' => e = .returned (.string (bytesOf (signsU us))) ∧ Below w.heap.size w w' := by
  go_enter Try.func27, Try.ntmps27
  go_wp2
  go_loopw [3, 4] (fun o i wr => ∃ k : Nat, k ≤ us.length ∧ i = .int .i64 k ∧ o = .string (bytesOf (signsU (us.take k))) ∧ Below w.heap.size w wr) (fun _ i _ => us.length - (intOf i).toNat)
  case atStart => exact ⟨0, Nat.zero_le _, rfl, rfl, Below.refl _ _⟩
  case round =>
    obtain ⟨k, hk, rfl, rfl, hb⟩ := hrel
    have hl := signsU_len us hs k
    by_cases hlt : k < us.length
    · obtain ⟨g, off, e, hg, c0, _, _⟩ := (H.below hb) k hlt
      subst e
      have h1 := hs us[k] (List.getElem_mem hlt)
      have ad := run_add_bytes (P := Try.prog) (signsU (us.take k)) us[k].1 (by omega)
      have HT : Hid (cat (signsU (us.take k)) us[k].1 = signsU (us.take (k + 1))) := by show _ = _; rw [signsU_take hlt]; rfl
      have hkl : (k : Int) < (us.length : Int) := by omega
      have hb0 : (0 : Int) ≤ (k : Int) := by omega
      go_wp2
      go_roundw
      case rel => exact ⟨k + 1, by omega, by go_num, by rw [HT.out], hb⟩
      case measure => simp [intOf]; omega
    · obtain rfl : k = us.length := by omega
      go_wp2
      go_ret
      exact ⟨ret_string (by rw [List.take_length]), hb⟩
theorem Builds.below' {B b : Nat} {l : List UInt8} {w w' : World} (h : Builds B b l w) (hb : Below w.heap.size w w') : Builds B b l w' := by
  have one : ∀ p, Lib.BuilderAt 99 5 B b p (Lib.byteCells l) w → Lib.BuilderAt 99 5 B b p (Lib.byteCells l) w' := by
    intro p h
    have hlt := h.lt
    obtain ⟨h1, v, h2, h3, h4⟩ := h
    exact ⟨h1, v, (hb.block _ hlt).trans h2, owns_below h3 hb, h4⟩
  rcases h with h | h
  · exact .inl (one _ h)
  · exact .inr (one _ h)
set_option maxHeartbeats 1600000 in
theorem signsOf_any (a : Option Addr) (cap : Nat) (us : List KidO) (w : World) (H : TreesAt w a us) (hn : us.length ≤ 1000) (hs : ∀ u ∈ us, u.1.size ≤ 1) (hone : ∀ u ∈ us, ∃ c n d, u.2.2 = .slice c n d) :
    Calls Try.prog 34 #[.slice a us.length cap] w fun e w' => e = .returned (.string (bytesOf (signsU us))) ∧ Below w.heap.size w w' := by
  have hB0 : Builds w.heap.size w.heap.size [] (w.alloc (.cells #[.pointer none, .slice none 0 0] 99)) := Lib.fresh_isBuilder _ _ _
  have hb0 := (Below.refl w.heap.size w).alloc (Nat.le_refl _) (.cells #[.pointer none, .slice none 0 0] 99)
  go_enter Try.func34, Try.ntmps34
  go_wp2_with fail
  go_loopw [8] (fun i wr => ∃ k : Nat, k ≤ us.length ∧ i = .int .i64 k ∧ Builds w.heap.size w.heap.size (signsU (us.take k)) wr ∧ Below w.heap.size w wr) (fun i _ => us.length - (intOf i).toNat)
  case atStart => exact ⟨0, Nat.zero_le _, rfl, hB0, hb0⟩
  case round =>
    clear hB0 hb0
    obtain ⟨k, hk, rfl, hB, hb⟩ := hrel
    have hl := signsU_len us hs k
    by_cases hlt : k < us.length
    · obtain ⟨g, off, e, hg, c0, c1, c2⟩ := (H.below hb) k hlt
      subst e
      obtain ⟨q1, q2, q3, hq⟩ := hone us[k] (List.getElem_mem hlt)
      rw [hq] at c2
      have h1 := hs us[k] (List.getElem_mem hlt)
      have HT : Hid (signsU (us.take k) ++ us[k].1.data.toList = signsU (us.take (k + 1))) := by show _ = _; rw [signsU_take hlt]
      have hkl : (k : Int) < (us.length : Int) := by omega
      have hb3 := (Below.refl _ _).alloc (Nat.le_refl wr.heap.size) (.cells #[.string us[k].1, .int .i64 us[k].2.1, .slice q1 q2 q3] 30)
      have hB2 := hB.below' hb3
      have hb4 := hb.trans (hb3.mono hb.size)
      have hs2 := hb4.size
      have hself := bytesOf_self us[k].1
      have hlen1 : us[k].1.data.toList.length = us[k].1.size := by simp
      go_wp2_with fail
      rw [← hself]
      refine (write_any _ _ _ _ _ hB2 (by omega) hs2).mono ?_
      rintro e w3 ⟨rfl, hB3, hb5⟩
      rw [HT.out] at hB3
      clear c0 c1 c2 hb3 hB hB2 hself hlen1
      go_wp2
      go_roundw
      case rel => exact ⟨k + 1, by omega, by go_num, hB3, hb4.trans hb5⟩
      case measure => simp [intOf]; omega
    · obtain rfl : k = us.length := by omega
      rw [List.take_length] at hB
      go_wp2_with fail
      refine (builderString_any _ _ _ _ hB hb.size).mono ?_
      rintro e w' ⟨rfl, hb'⟩
      go_wp2
      go_ret
      exact ⟨ret_string rfl, hb.trans hb'⟩
end Go.Proofs.Ytcningdeocmbgaa
