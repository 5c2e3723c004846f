/- GramFor of the program; rows of numbers that are marked and looked at again. -/
import Derived.Test.YtjpkohahabclgaaMapC
import Derived.Test.YtjpkohahabclgaaIntA
namespace Go.Proofs.Ytjpkohahabclgaa
open Go.ChangeShapes Go.WideShapes Go.ChangeAt Go.RowKit Go.WideMaps Go.Maps
set_option maxRecDepth 100000
/-- numbers of the call's own, from block B on and below block U, or none -/
def OwnI (w : World) (B U : Nat) (a : Option Addr) (zs : List Int) : Prop := zs.length ≤ maxLen ∧ (zs = [] ∨ ∃ g, B ≤ g ∧ g < U ∧ a = some ⟨g, 0, none⟩ ∧ ∃ cur : Array Value, w.heap[g]? = some (.cells cur 3) ∧ zs.length ≤ cur.size ∧ ∀ i (_ : i < zs.length), cur[i]? = some (.int .i64 zs[i]))
theorem OwnI.keep {w w' : World} {B U : Nat} {a : Option Addr} {zs : List Int} (h : OwnI w B U a zs) (hk : ∀ b, B ≤ b → b < U → b < w.heap.size → w'.heap[b]? = w.heap[b]?) : OwnI w' B U a zs := by
  rcases h with ⟨hm, h | ⟨g, h1, h2, h3, cur, h4, h5⟩⟩
  · exact ⟨hm, .inl h⟩
  · exact ⟨hm, .inr ⟨g, h1, h2, h3, cur, (hk g h1 h2 (Array.getElem?_eq_some_iff.1 h4).1).trans h4, h5⟩⟩
theorem OwnI.below {w w' : World} {B U : Nat} {a : Option Addr} {zs : List Int} (h : OwnI w B U a zs) (hb : Below w.heap.size w w') : OwnI w' B U a zs := h.keep fun b _ _ hl => hb.block b hl
theorem OwnI.only {R : Nat} {w w' : World} {B U : Nat} {a : Option Addr} {zs : List Int} (h : OwnI w B U a zs) (hb : Only R w w') (hR : R < B ∨ U ≤ R) : OwnI w' B U a zs := h.keep fun b h1 h2 hl => hb.block b hl (by omega)
theorem OwnI.ints {w : World} {B U : Nat} {a : Option Addr} {zs : List Int} (h : OwnI w B U a zs) : IntsAt w a zs := by
  rcases h with ⟨hm, rfl | ⟨g, _, _, h3, cur, h4, _, h6⟩⟩
  · exact ⟨hm, fun i hi => absurd hi (Nat.not_lt_zero _)⟩
  · exact ⟨hm, fun i hi => ⟨g, 0, h3, (Array.getElem?_eq_some_iff.1 h4).1, by rw [Nat.zero_add, cell_of_block h4 i, h6 i hi]⟩⟩
theorem OwnZ.ints {w : World} {B : Nat} {v : Value} {zs : List Int} (h : OwnZ w B v zs) (hl : zs.length ≤ 1000) : ∃ a cap, v = .slice a zs.length cap ∧ IntsAt w a zs := by
  obtain ⟨g, cap, e, _, hh⟩ := h.at hl
  exact ⟨_, cap, e, hh⟩
theorem ownI_of_ints {w : World} {B : Nat} {v : Value} {zs : List Int} (h : Ints w B v zs) (hl : zs.length ≤ 1000) : ∃ a cap, v = .slice a zs.length cap ∧ OwnI w (B + 1) w.heap.size a zs := by
  have hm : zs.length ≤ maxLen := by unfold maxLen; omega
  rcases h.1.2 with ⟨hv, h0⟩ | ⟨g, cap, cur, hv, hg, hh, hlc, _, hs, ht⟩
  · obtain rfl : zs = [] := List.length_eq_zero_iff.1 h0
    exact ⟨none, 0, hv, hm, .inl rfl⟩
  · refine ⟨_, cap, hv, hm, .inr ⟨g, hg, (Array.getElem?_eq_some_iff.1 hh).1, rfl, cur, hh, by omega, fun i hi => ?_⟩⟩
    have := congrArg (fun l => l[i]?) ht
    simp only [List.getElem?_map, List.getElem?_take] at this
    rw [if_pos (by omega)] at this
    rw [← Array.getElem?_toList, this]; simp [hi]
theorem forL_len (st : ByteArray) (rs : List RuleT) (left : ByteArray) : (forL st rs left).length ≤ 8 := by
  unfold forL
  split
  · rename_i hok
    have h1 := (gramOk_facts hok).2.1
    have h2 := forTo_len rs left rs.length
    omega
  · simp
set_option maxHeartbeats 1000000 in
theorem gramFor_any (st left : ByteArray) (a : Option Addr) (cap : Nat) (rs : List RuleT) (w : World) (H : RulesAt w a rs) (hcap : rs.length ≤ cap) (hlf : left.size ≤ maxLen) :
    Calls Try.prog 22 #[.agg #[.string st, .slice a rs.length cap], .string left] w fun e w' => ∃ au cu, e = .returned (.slice au (forL st rs left).length cu) ∧ OwnI w' w.heap.size w'.heap.size au (forL st rs left) ∧ Below w.heap.size w w' := by
  cases hok : gramOkB st rs with
  | false =>
    have e2 : forL st rs left = [] := by simp [forL, hok]
    refine (gramFor_bad st left a cap rs w H hcap hok).mono ?_
    rintro e w' ⟨rfl, hb⟩
    rw [e2]
    exact ⟨none, 0, rfl, ⟨Nat.zero_le _, .inl rfl⟩, hb⟩
  | true =>
    have e2 : forL st rs left = forTo rs left rs.length := by simp [forL, hok]
    have hl8 := (gramOk_facts hok).2.1
    have hl9 := forTo_len rs left rs.length
    have hA : BoxG (w.alloc (.cells #[.string st, .slice a rs.length cap] 24)) w.heap.size (.string st) (.slice a rs.length cap) := blk_new _ _ rfl
    have hbA := (Below.refl w.heap.size w).alloc (Nat.le_refl _) (.cells #[.string st, .slice a rs.length cap] 24)
    rw [e2]
    clear e2
    go_enter Try.func22, Try.ntmps22
    go_wp2_with fail
    refine (gramOk_any _ _ _ rs _ (H.below hbA (Nat.le_refl _)) hcap).mono ?_
    rintro e w2 ⟨rfl, hb2⟩
    have hB2 : Below w.heap.size w w2 := hbA.trans (hb2.mono (by simp))
    have hA2 := hA.below hb2
    obtain ⟨a0, a1, _, _⟩ := hA2.cells
    clear hA hbA hb2
    rw [hok]
    go_wp2_with fail
    refine (rulesByLeft_any Unit st a cap rs _ (H.below hB2 (Nat.le_refl _)) (by omega)).mono ?_
    rintro e w3 ⟨rfl, D, hG, hRd, hb3, hsz⟩
    obtain ⟨v, zs, hr, hat, hoi, hzl, _⟩ := groups_look hG (by omega) hlf
    obtain rfl := Reads.places hRd hat.out hoi
    obtain ⟨au, cu, rfl, hI⟩ := ownI_of_ints hoi (by omega)
    have hB3 := Below.on hB2 hb3 (Nat.le_refl _)
    have hI3 : OwnI w3 w.heap.size w3.heap.size au (forTo rs left rs.length) := by
      rcases hI with ⟨hm, h | ⟨g, h1, h2⟩⟩
      · exact ⟨hm, .inl h⟩
      · exact ⟨hm, .inr ⟨g, by have := hB2.size; omega, h2⟩⟩
    clear hRd hat hoi hzl hG hb3 hsz hI hB2 hl9
    go_wp2
    go_ret
    exact ⟨_, _, rfl, hI3, hB3⟩
/-- the first q cells of block b hold the numbers from k on, and no other block of w has changed -/
def MarkZ (w w' : World) (b k C q : Nat) : Prop :=
  Only b w w' ∧ ∃ cur : Array Value, w'.heap[b]? = some (.cells cur 3) ∧ cur.size = C ∧ ∀ j, j < q → cur[j]? = some (.int .i64 ((k + j : Nat) : Int))
theorem MarkZ.put {w w' : World} {b k C q : Nat} (h : MarkZ w w' b k C q) (hq : q < C) : MarkZ w (w'.setCell ⟨b, q, none⟩ (.int .i64 ((k + q : Nat) : Int))) b k C (q + 1) := by
  obtain ⟨h1, cur, h2, h3, h4⟩ := h
  refine ⟨h1.trans ⟨rfl, rfl, rfl, by simp [World.setCell], fun j _ hj => Below.heap_setCell _ _ _ _ hj⟩, cur.setIfInBounds q (.int .i64 ((k + q : Nat) : Int)), by simp [World.setCell, Array.getElem?_modify, h2], by simpa using h3, fun j hj => ?_⟩
  by_cases e : j = q
  · subst e
    rw [Array.getElem?_setIfInBounds_self, if_pos (by omega)]
  · rw [Array.getElem?_setIfInBounds_ne (fun h => e h.symm)]
    exact h4 j (by omega)
theorem MarkZ.cell {w w' : World} {b k C q : Nat} (h : MarkZ w w' b k C q) {j : Nat} (hj : j < C) : (∃ v, w'.cell? ⟨b, j, none⟩ = some v) ∧ w'.frozen? ⟨b, j, none⟩ = false := by
  obtain ⟨h1, cur, h2, h3, _⟩ := h
  refine ⟨⟨cur[j]'(by omega), ?_⟩, frozen_of_block h2 j⟩
  rw [cell_of_block h2 j]
  simp [h3 ▸ hj]
/-- the row of n numbers holds the numbers from k on -/
def MarkI (w : World) (a : Option Addr) (n k : Nat) : Prop := ∀ j, j < n → ∃ b, a = some ⟨b, 0, none⟩ ∧ b < w.heap.size ∧ w.cell? ⟨b, j, none⟩ = some (.int .i64 ((k + j : Nat) : Int))
theorem MarkI.below {w w' : World} {a : Option Addr} {n k : Nat} (h : MarkI w a n k) (hb : Below w.heap.size w w') : MarkI w' a n k := fun j hj => by
  obtain ⟨b, e, hlt, hc⟩ := h j hj
  exact ⟨b, e, Nat.lt_of_lt_of_le hlt hb.size, by rw [hb.cell (p := ⟨b, j, none⟩) hlt, hc]⟩
set_option maxHeartbeats 400000 in
theorem markOwnI_any (a : Option Addr) (n cap k B U : Nat) (zs : List Int) (w : World) (H : OwnI w B U a zs) (hz : zs.length = n) (hB : B ≤ w.heap.size) (hn : n ≤ 1048576) (hk : k ≤ 3000000) :
    Calls Try.prog 24 #[.slice a n cap, .int .i64 (k : Int)] w fun e w' => e = .returned (.int .i64 ((k + n : Nat) : Int)) ∧ MarkI w' a n k ∧ ∃ b, B ≤ b ∧ (b < U ∨ w.heap.size ≤ b) ∧ Only b w w' := by
  rcases H with ⟨_, rfl | ⟨b, h1, h2, rfl, cur, h4, h5, _⟩⟩
  · obtain rfl : n = 0 := by simpa using hz.symm
    go_enter Try.func24, Try.ntmps24
    go_wp2
    go_loopw [1, 5] (fun kv iv wr => iv = .int .i64 0 ∧ kv = .int .i64 (k : Nat) ∧ wr = w) (fun _ _ _ => 0)
    case atStart => exact ⟨rfl, rfl, rfl⟩
    case round =>
      obtain ⟨rfl, rfl, rfl⟩ := hrel
      go_wp2
      go_ret
      exact ⟨by simp, fun j hj => by omega, _, hB, .inr (Nat.le_refl _), Only.refl _ _⟩
  · rw [hz] at h5
    clear hz
    go_enter Try.func24, Try.ntmps24
    go_wp2
    go_loopw [1, 5] (fun kv iv wr => ∃ q : Nat, q ≤ n ∧ iv = .int .i64 (q : Nat) ∧ kv = .int .i64 ((k + q : Nat) : Int) ∧ MarkZ w wr b k cur.size q) (fun _ iv _ => n - (intOf iv).toNat)
    case atStart => exact ⟨0, Nat.zero_le _, rfl, rfl, Only.refl _ _, cur, h4, rfl, fun j hj => by omega⟩
    case round =>
      obtain ⟨q, hq, rfl, rfl, hM⟩ := hrel
      by_cases hlt : q < n
      · have hlt' : (q : Int) < (n : Int) := by omega
        obtain ⟨⟨u0, c0⟩, f0⟩ := hM.cell (j := q) (by omega)
        have HM := Lib.hid (hM.put (by omega))
        clear hM
        go_wp2
        go_roundw
        case rel => exact ⟨q + 1, by omega, by go_num, by go_num, HM.out⟩
        case measure => simp [intOf]; omega
      · have hlt' : ¬ (q : Int) < (n : Int) := by omega
        obtain rfl : q = n := by omega
        go_wp2
        go_ret
        obtain ⟨o1, cur', o2, o3, o4⟩ := hM
        exact ⟨rfl, fun j hj => ⟨b, rfl, (Array.getElem?_eq_some_iff.1 o2).1, by rw [cell_of_block o2 j, o4 j hj]⟩, b, h1, .inl h2, o1⟩
set_option maxHeartbeats 400000 in
theorem heldIntS_any (a : Option Addr) (n cap k : Nat) (w : World) (H : MarkI w a n k) (hn : n ≤ 1048576) (hk : k ≤ 3000000) :
    Calls Try.prog 25 #[.slice a n cap, .int .i64 (k : Int)] w fun e w' => e = .returned (.int .i64 ((k + n : Nat) : Int)) ∧ Below w.heap.size w w' := by
  go_enter Try.func25, Try.ntmps25
  go_wp2
  go_loopw [1, 5] (fun kv iv wr => ∃ q : Nat, q ≤ n ∧ iv = .int .i64 (q : Nat) ∧ kv = .int .i64 ((k + q : Nat) : Int) ∧ Below w.heap.size w wr) (fun _ iv _ => n - (intOf iv).toNat)
  case atStart => exact ⟨0, Nat.zero_le _, rfl, rfl, Below.refl _ _⟩
  case round =>
    obtain ⟨q, hq, rfl, rfl, hb⟩ := hrel
    by_cases hlt : q < n
    · have hlt' : (q : Int) < (n : Int) := by omega
      obtain ⟨b, rfl, hbl, c0⟩ := (H.below hb) q hlt
      have c1 : wr.drew.cell? ⟨b, q, none⟩ = some (.int .i64 ((k + q : Nat) : Int)) := c0
      go_wp2
      all_goals (try go_region)
      all_goals
        go_wp2
        go_roundw
        case rel => exact ⟨q + 1, by omega, by go_num, by go_num, by first | exact hb | exact hb.drew⟩
        case measure => simp [intOf]; omega
    · have hlt' : ¬ (q : Int) < (n : Int) := by omega
      obtain rfl : q = n := by omega
      go_wp2
      go_ret
      exact ⟨rfl, hb⟩
end Go.Proofs.Ytjpkohahabclgaa
