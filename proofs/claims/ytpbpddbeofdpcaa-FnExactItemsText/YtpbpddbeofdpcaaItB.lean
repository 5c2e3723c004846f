/- ItemOk, afterDot, ItemNext of the program; ItemOk, l5Next, ItemNext of the model. -/
import Derived.Test.YtpbpddbeofdpcaaItA
namespace Go.Proofs.Ytpbpddbeofdpcaa
open Go.ChangeShapes Go.WideShapes Go.ChangeAt Go.RowKit
set_option maxRecDepth 100000
def itemOkB (st : ByteArray) (rs : List RuleT) (r d : Int) (s : ByteArray) : Bool := gramOkB st rs && itemB st rs r d s
/-- a grammar in a box of its own, an item in the next one -/
theorem two_boxes (st : ByteArray) (a : Option Addr) (n cap : Nat) (r d : Int) (s : ByteArray) (w w' : World) (TG TI : TypeId)
    (hb : Below ((w.alloc (.cells #[.string st, .slice a n cap] TG)).alloc (.cells #[.int .i64 r, .int .i64 d, .string s] TI)).heap.size ((w.alloc (.cells #[.string st, .slice a n cap] TG)).alloc (.cells #[.int .i64 r, .int .i64 d, .string s] TI)) w') :
    Below w.heap.size w w' ∧ w.heap.size + 1 < w'.heap.size ∧ w'.cell? ⟨w.heap.size, 0, none⟩ = some (.string st) ∧ w'.cell? ⟨w.heap.size, 1, none⟩ = some (.slice a n cap) ∧
      w'.cell? ⟨w.heap.size + 1, 0, none⟩ = some (.int .i64 r) ∧ w'.cell? ⟨w.heap.size + 1, 1, none⟩ = some (.int .i64 d) ∧ w'.cell? ⟨w.heap.size + 1, 2, none⟩ = some (.string s) := by
  have h1 := hb.size
  simp at h1
  refine ⟨(((Below.refl w.heap.size w).alloc (Nat.le_refl _) _).alloc (by simp) _).trans (hb.mono (by simp; omega)), by omega, ?_, ?_, ?_, ?_, ?_⟩
  · rw [hb.cell (p := ⟨w.heap.size, 0, none⟩) (by simp; omega)]; simp
  · rw [hb.cell (p := ⟨w.heap.size, 1, none⟩) (by simp; omega)]; simp
  · rw [hb.cell (p := ⟨w.heap.size + 1, 0, none⟩) (by simp)]; simp
  · rw [hb.cell (p := ⟨w.heap.size + 1, 1, none⟩) (by simp)]; simp
  · rw [hb.cell (p := ⟨w.heap.size + 1, 2, none⟩) (by simp)]; simp

set_option maxHeartbeats 1000000 in
theorem iItemOk_any (st : ByteArray) (a : Option Addr) (cap : Nat) (rs : List RuleT) (r d : Int) (s : ByteArray) (w : World) (H : RulesAt w a rs) (hs : st.size ≤ maxLen) (hcap : rs.length ≤ cap) :
    Calls Try.prog 12 #[.agg #[.string st, .slice a rs.length cap], .agg #[.int .i64 r, .int .i64 d, .string s]] w fun e w' => e = .returned (.bool (itemOkB st rs r d s)) ∧ Below w.heap.size w w' := by
  have hbw := ((Below.refl w.heap.size w).alloc (Nat.le_refl _) (.cells #[.string st, .slice a rs.length cap] 32)).alloc (by simp) (.cells #[.int .i64 r, .int .i64 d, .string s] 34)
  have H1 := H.below hbw (Nat.le_refl _)
  have HO : Hid (itemOkB st rs r d s = (gramOkB st rs && itemB st rs r d s)) := rfl
  go_enter Try.func12, Try.ntmps12
  go_wp2_with fail
  refine (gramOk_any _ _ _ rs _ H1 hcap).mono ?_
  rintro e w2 ⟨rfl, hb2⟩
  obtain ⟨c2, z2, k0, k1, k2, k3, k4⟩ := two_boxes _ _ _ _ _ _ _ _ _ _ _ hb2
  have H2 := H.below c2 (Nat.le_refl _)
  clear hb2 H1 hbw
  generalize gramOkB st rs = ok at *
  cases ok with
  | false =>
    go_wp2_with fail
    go_ret
    exact ⟨ret_bool (by rw [HO.out]; rfl), c2⟩
  | true =>
    go_wp2_with fail
    refine (itemOk_any _ _ _ rs _ _ _ _ H2 hs).mono ?_
    rintro e w3 ⟨rfl, hb3⟩
    generalize itemB st rs r d s = ok at *
    go_wp2_with fail
    go_ret
    exact ⟨ret_bool (by rw [HO.out]; rfl), Below.on c2 hb3 (Nat.le_refl _)⟩
set_option maxHeartbeats 1000000 in
theorem sItemOk_any (st : ByteArray) (a : Option Addr) (cap : Nat) (rs : List RuleT) (r d : Int) (s : ByteArray) (w : World) (H : RulesAt w a rs) (hs : st.size ≤ maxLen) (hcap : rs.length ≤ cap) :
    Calls Try.prog 9 #[.agg #[.string st, .slice a rs.length cap], .agg #[.int .i64 r, .int .i64 d, .string s]] w fun e w' => e = .returned (.bool (itemOkB st rs r d s)) ∧ Below w.heap.size w w' := by
  have hbw := ((Below.refl w.heap.size w).alloc (Nat.le_refl _) (.cells #[.string st, .slice a rs.length cap] 32)).alloc (by simp) (.cells #[.int .i64 r, .int .i64 d, .string s] 34)
  have H1 := H.below hbw (Nat.le_refl _)
  have HO : Hid (itemOkB st rs r d s = (gramOkB st rs && itemB st rs r d s)) := rfl
  go_enter Try.func9, Try.ntmps9
  go_wp2_with fail
  refine (sGramOk_any _ _ _ rs _ H1 hcap).mono ?_
  rintro e w2 ⟨rfl, hb2⟩
  obtain ⟨c2, z2, k0, k1, k2, k3, k4⟩ := two_boxes _ _ _ _ _ _ _ _ _ _ _ hb2
  have H2 := H.below c2 (Nat.le_refl _)
  clear hb2 H1 hbw
  generalize gramOkB st rs = ok at *
  cases ok with
  | false =>
    go_wp2_with fail
    go_ret
    exact ⟨ret_bool (by rw [HO.out]; rfl), c2⟩
  | true =>
    go_wp2_with fail
    refine (l5Item_any _ _ _ rs _ _ _ _ H2 hs).mono ?_
    rintro e w3 ⟨rfl, hb3⟩
    generalize itemB st rs r d s = ok at *
    go_wp2_with fail
    go_ret
    exact ⟨ret_bool (by rw [HO.out]; rfl), Below.on c2 hb3 (Nat.le_refl _)⟩

set_option maxHeartbeats 1000000 in
theorem afterDot_any (st : ByteArray) (a : Option Addr) (cap : Nat) (rs : List RuleT) (r : Int) (d : Nat) (s : ByteArray) (w : World) (H : RulesAt w a rs) (h0 : -1 ≤ r) (h1 : r < (rs.length : Int)) (h2 : d ≤ (rightI st rs r).size) :
    Calls Try.prog 31 #[.agg #[.string st, .slice a rs.length cap], .agg #[.int .i64 r, .int .i64 (d : Int), .string s]] w fun e w' => e = .returned (.string ((rightI st rs r).extract d (rightI st rs r).size)) ∧ Below w.heap.size w w' := by
  have hbw := ((Below.refl w.heap.size w).alloc (Nat.le_refl _) (.cells #[.string st, .slice a rs.length cap] 32)).alloc (by simp) (.cells #[.int .i64 r, .int .i64 (d : Int), .string s] 34)
  obtain ⟨_, hsz, y0, y1, x0, x1, x2⟩ := two_boxes st a rs.length cap r d s w _ 32 34 (Below.refl _ _)
  generalize hw1 : (w.alloc (.cells #[.string st, .slice a rs.length cap] 32)).alloc (.cells #[.int .i64 r, .int .i64 (d : Int), .string s] 34) = w1 at hbw hsz y0 y1 x0 x1 x2
  have g0 : ∀ x, (grow w1 x).cell? ⟨w.heap.size + 1, 0, none⟩ = some (.int .i64 r) := fun x => by rw [grow_cell _ _ _ _ (by omega), x0]
  have g1 : ∀ x, (grow w1 x).cell? ⟨w.heap.size + 1, 1, none⟩ = some (.int .i64 (d : Int)) := fun x => by rw [grow_cell _ _ _ _ (by omega), x1]
  have g3 : ∀ x, (grow w1 x).cell? ⟨w.heap.size, 0, none⟩ = some (.string st) := fun x => by rw [grow_cell _ _ _ _ (by omega), y0]
  have g4 : ∀ x, (grow w1 x).cell? ⟨w.heap.size, 1, none⟩ = some (.slice a rs.length cap) := fun x => by rw [grow_cell _ _ _ _ (by omega), y1]
  have hfin : ∀ x, Below w.heap.size w (grow w1 x) := fun x => hbw.trans ((below_grow _ _).mono (by omega))
  have HR : ∀ x, Calls Try.prog 36 #[.agg #[.string st, .slice a rs.length cap], .int .i64 r] (grow w1 x) fun e w'' => e = .returned (.agg #[.string (leftI rs r), .string (rightI st rs r)]) ∧ ∃ y, w'' = grow w1 y :=
    fun x => Calls.grow_of (ruleAt_any _ _ _ rs _ _ (H.below (hfin x) (Nat.le_refl _)) h0 h1)
  have hfld := run_field_right (leftI rs r) (rightI st rs r)
  generalize rightI st rs r = q at *
  generalize leftI rs r = q' at *
  go_enter Try.func31, Try.ntmps31
  go_wp2
  refine wp_region_grow (by kernel_rfl) (by kernel_rfl) ?_
  repeat (go_big_quiet_step ((go_at_call 36; exact HR _)))
  refine wpQuiet_nil ?_
  rintro _ ⟨x, rfl⟩
  go_wp2
  go_ret
  exact ⟨rfl, hfin x⟩

theorem itemOkB_facts {st : ByteArray} {rs : List RuleT} {r d : Int} {s : ByteArray} (h : itemOkB st rs r d s = true) : gramOkB st rs = true ∧ -1 ≤ r ∧ r < (rs.length : Int) ∧ ∃ k : Nat, d = k ∧ k ≤ (rightI st rs r).size := by
  unfold itemOkB itemB at h
  simp only [Bool.and_eq_true, decide_eq_true_eq] at h
  obtain ⟨h1, h2, h3, h4, h5, _⟩ := h
  exact ⟨h1, h2, h3, d.toNat, by omega, by omega⟩
def nextB (st : ByteArray) (rs : List RuleT) (r d : Int) (s : ByteArray) : ByteArray := if itemOkB st rs r d s = true then (rightI st rs r).extract d.toNat (d.toNat + 1) else ⟨#[]⟩
theorem ret_bytes {a b : ByteArray} (h : a = b) : Ending.returned (.string a) = .returned (.string b) := by rw [h]
theorem extract_lists (q : ByteArray) (i j : Nat) : (q.extract i j).data.toList = (q.data.toList.drop i).take (j - i) := by
  rw [ByteArray.data_extract, Array.toList_extract]
theorem first_of_rest (q : ByteArray) (k m : Nat) (hm : m = min 1 (q.extract k q.size).size) (hk : k ≤ q.size) : (q.extract k q.size).extract 0 m = q.extract k (k + 1) := by
  apply ByteArray.ext
  apply Array.ext'
  rw [ByteArray.size_extract] at hm
  rw [extract_lists, extract_lists, extract_lists, List.drop_zero, List.take_take]
  by_cases h : k < q.size
  · congr 1; omega
  · rw [List.drop_eq_nil_of_le (by simp; omega)]; simp
theorem extract_all (q : ByteArray) (m : Nat) (h : q.size ≤ m) : q.extract 0 m = q := by
  apply ByteArray.ext
  apply Array.ext'
  rw [extract_lists, List.drop_zero, List.take_of_length_le (by simp; omega)]
theorem extract_none (q : ByteArray) (k m : Nat) (h : q.size ≤ k) : q.extract k m = ⟨#[]⟩ := by
  apply ByteArray.ext
  apply Array.ext'
  rw [extract_lists, List.drop_eq_nil_of_le (by simp; omega)]
  simp

set_option maxHeartbeats 1000000 in
theorem iItemNext_any (st : ByteArray) (a : Option Addr) (cap : Nat) (rs : List RuleT) (r d : Int) (s : ByteArray) (w : World) (H : RulesAt w a rs) (hs : st.size ≤ maxLen) (hcap : rs.length ≤ cap) :
    Calls Try.prog 15 #[.agg #[.string st, .slice a rs.length cap], .agg #[.int .i64 r, .int .i64 d, .string s]] w fun e w' => e = .returned (.string (nextB st rs r d s)) ∧ Below w.heap.size w w' := by
  have hbw := ((Below.refl w.heap.size w).alloc (Nat.le_refl _) (.cells #[.string st, .slice a rs.length cap] 32)).alloc (by simp) (.cells #[.int .i64 r, .int .i64 d, .string s] 34)
  have H1 := H.below hbw (Nat.le_refl _)
  have hm := rightI_le H hs r
  unfold maxLen at hm
  cases hok : itemOkB st rs r d s with
  | false =>
    have HN : Hid (nextB st rs r d s = ⟨#[]⟩) := by show _ = _; unfold nextB; rw [hok]; rfl
    go_enter Try.func15, Try.ntmps15
    go_wp2_with fail
    refine (iItemOk_any _ _ _ rs _ _ _ _ H1 hs hcap).mono ?_
    rintro e w2 ⟨rfl, hb2⟩
    obtain ⟨c2, z2, k0, k1, k2, k3, k4⟩ := two_boxes _ _ _ _ _ _ _ _ _ _ _ hb2
    rw [hok]
    go_wp2_with fail
    go_ret
    exact ⟨ret_bytes HN.out.symm, c2⟩
  | true =>
    obtain ⟨f1, f2, f3, k, rfl, f4⟩ := itemOkB_facts hok
    have HN : Hid (nextB st rs r k s = (rightI st rs r).extract k (k + 1)) := by show _ = _; unfold nextB; rw [if_pos hok]; simp
    go_enter Try.func15, Try.ntmps15
    go_wp2_with fail
    refine (iItemOk_any _ _ _ rs _ _ _ _ H1 hs hcap).mono ?_
    rintro e w2 ⟨rfl, hb2⟩
    obtain ⟨c2, z2, k0, k1, k2, k3, k4⟩ := two_boxes _ _ _ _ _ _ _ _ _ _ _ hb2
    have H2 := H.below c2 (Nat.le_refl _)
    rw [hok]
    clear hb2 H1 hbw
    go_wp2_with fail
    refine (afterDot_any _ _ _ rs _ _ _ _ H2 f2 f3 f4).mono ?_
    rintro e w3 ⟨rfl, hb3⟩
    have HF := Lib.hid (first_of_rest (rightI st rs r) k _ rfl f4)
    have hz : ((rightI st rs r).extract k (rightI st rs r).size).size ≤ 9223372036854775807 := by rw [ByteArray.size_extract]; omega
    generalize (rightI st rs r).extract k (rightI st rs r).size = q at *
    go_wp2_with fail
    all_goals go_ret
    · exact ⟨ret_bytes (by rw [HN.out, ← HF.out, extract_all q _ (by omega)]), Below.on c2 hb3 (Nat.le_refl _)⟩
    · exact ⟨ret_bytes (by rw [HN.out, ← HF.out, Nat.min_eq_left (by omega)]), Below.on c2 hb3 (Nat.le_refl _)⟩
set_option maxHeartbeats 1000000 in
theorem l5Next_any (st : ByteArray) (a : Option Addr) (cap : Nat) (rs : List RuleT) (r : Int) (k : Nat) (s : ByteArray) (w : World) (H : RulesAt w a rs) (h1 : r < (rs.length : Int)) (h2 : k ≤ (rightI st rs r).size) (hm : (rightI st rs r).size ≤ maxLen) :
    Calls Try.prog 30 #[.agg #[.string st, .slice a rs.length cap], .agg #[.int .i64 r, .int .i64 (k : Int), .string s]] w fun e w' => e = .returned (.string ((rightI st rs r).extract k (k + 1))) ∧ Below w.heap.size w w' := by
  have hbw := ((Below.refl w.heap.size w).alloc (Nat.le_refl _) (.cells #[.string st, .slice a rs.length cap] 32)).alloc (by simp) (.cells #[.int .i64 r, .int .i64 (k : Int), .string s] 34)
  have H1 := H.below hbw (Nat.le_refl _)
  unfold maxLen at hm
  have C := l5Right_any st a cap rs r _ H1 h1
  generalize rightI st rs r = q at *
  go_enter Try.func30, Try.ntmps30
  go_wp2_with fail
  refine C.mono ?_
  rintro e w2 ⟨rfl, hb2⟩
  obtain ⟨c2, z2, k0, k1, k2, k3, k4⟩ := two_boxes _ _ _ _ _ _ _ _ _ _ _ hb2
  by_cases hk : k < q.size
  · go_wp2_with fail
    go_ret
    exact ⟨rfl, c2⟩
  · have HE := Lib.hid (extract_none q k (k + 1) (by omega))
    go_wp2_with fail
    go_ret
    exact ⟨ret_bytes HE.out.symm, c2⟩
set_option maxHeartbeats 1000000 in
theorem sItemNext_any (st : ByteArray) (a : Option Addr) (cap : Nat) (rs : List RuleT) (r d : Int) (s : ByteArray) (w : World) (H : RulesAt w a rs) (hs : st.size ≤ maxLen) (hcap : rs.length ≤ cap) :
    Calls Try.prog 14 #[.agg #[.string st, .slice a rs.length cap], .agg #[.int .i64 r, .int .i64 d, .string s]] w fun e w' => e = .returned (.string (nextB st rs r d s)) ∧ Below w.heap.size w w' := by
  have hbw := ((Below.refl w.heap.size w).alloc (Nat.le_refl _) (.cells #[.string st, .slice a rs.length cap] 32)).alloc (by simp) (.cells #[.int .i64 r, .int .i64 d, .string s] 34)
  have H1 := H.below hbw (Nat.le_refl _)
  have hm := rightI_le H hs r
  cases hok : itemOkB st rs r d s with
  | false =>
    have HN : Hid (nextB st rs r d s = ⟨#[]⟩) := by show _ = _; unfold nextB; rw [hok]; rfl
    go_enter Try.func14, Try.ntmps14
    go_wp2_with fail
    refine (sItemOk_any _ _ _ rs _ _ _ _ H1 hs hcap).mono ?_
    rintro e w2 ⟨rfl, hb2⟩
    obtain ⟨c2, z2, k0, k1, k2, k3, k4⟩ := two_boxes _ _ _ _ _ _ _ _ _ _ _ hb2
    rw [hok]
    go_wp2_with fail
    go_ret
    exact ⟨ret_bytes HN.out.symm, c2⟩
  | true =>
    obtain ⟨f1, f2, f3, k, rfl, f4⟩ := itemOkB_facts hok
    have HN : Hid (nextB st rs r k s = (rightI st rs r).extract k (k + 1)) := by show _ = _; unfold nextB; rw [if_pos hok]; simp
    go_enter Try.func14, Try.ntmps14
    go_wp2_with fail
    refine (sItemOk_any _ _ _ rs _ _ _ _ H1 hs hcap).mono ?_
    rintro e w2 ⟨rfl, hb2⟩
    obtain ⟨c2, z2, k0, k1, k2, k3, k4⟩ := two_boxes _ _ _ _ _ _ _ _ _ _ _ hb2
    have H2 := H.below c2 (Nat.le_refl _)
    rw [hok]
    clear hb2 H1 hbw
    go_wp2_with fail
    refine (l5Next_any _ _ _ rs _ _ _ _ H2 f3 f4 hm).mono ?_
    rintro e w3 ⟨rfl, hb3⟩
    generalize (rightI st rs r).extract k (k + 1) = q at *
    go_wp2_with fail
    go_ret
    exact ⟨ret_bytes HN.out.symm, Below.on c2 hb3 (Nat.le_refl _)⟩
end Go.Proofs.Ytpbpddbeofdpcaa
