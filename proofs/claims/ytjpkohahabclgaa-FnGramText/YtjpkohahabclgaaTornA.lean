/- The draw of a text, torn or not. -/
import Derived.Test.YtjpkohahabclgaaDrawH
import Derived.Test.YtjpkohahabclgaaReadA
namespace Go.Proofs.Ytjpkohahabclgaa
open Go.ChangeShapes Go.WideShapes Go.ChangeAt Go.RowKit
set_option maxRecDepth 100000
def catB (x y : ByteArray) : ByteArray := x ++ y
theorem run_catB (x y : ByteArray) (h : x.size + y.size ≤ 1000000) (w : World) : (Op.stringOp .add x y).run Try.prog w = .ok (.string (catB x y)) w := run_string_add_sum w _ _ (by omega)
theorem catB_size (x y : ByteArray) : (catB x y).size = x.size + y.size := by unfold catB; simp
theorem extract_size (s : ByteArray) (a b : Nat) : (s.extract a b).size ≤ s.size := by simp; omega
def TornSays (R k : Nat) (w : World) (e : Ending) (w' : World) : Prop := ∃ s : ByteArray, e = .returned (.string s) ∧ s.size ≤ 300000 ∧ Rdk w' R k ∧ Only R w w'
def tornL : List ByteArray := [⟨#[]⟩, ⟨#[62]⟩, ⟨#[10]⟩, ⟨#[65]⟩, ⟨#[97]⟩, ⟨#[66]⟩, ⟨#[32]⟩, ⟨#[40]⟩]
theorem torn_size {s : ByteArray} (h : s ∈ tornL) : s.size ≤ 1 := by
  simp only [tornL, List.mem_cons, List.not_mem_nil, or_false] at h
  rcases h with rfl | rfl | rfl | rfl | rfl | rfl | rfl | rfl <;> decide
set_option maxHeartbeats 4000000 in
theorem l1Torn_any (R k : Nat) (s : ByteArray) (w : World) (H : Rdk w R k) (hk : k ≤ 900000) (hs : s.size ≤ 100000) :
    Calls Try.prog 84 #[.pointer (some ⟨R, 0, none⟩), .string s] w (TornSays R (k + 4) w) := by
  by_cases hz : s.size = 0
  · have t1 : ((s.size : Int) == 0) = true := by rw [hz]; rfl
    clear hz
    go_enter Try.func84, Try.ntmps84
    go_wp2
    go_ret
    exact ⟨s, rfl, by omega, H.mono (by omega), Only.refl _ _⟩
  have t1 : ((s.size : Int) == 0) = false := by rw [beq_eq_false_iff_ne]; omega
  have hsz : 0 < s.size := by omega
  clear hz
  go_enter Try.func84, Try.ntmps84
  go_wp2_with fail
  refine (pick_any R k 2 _ H (by omega) (by omega) (by omega)).mono ?_
  rintro e w2 ⟨v, rfl, ⟨hv0, hv1, _⟩, hrd2, ho2⟩
  by_cases hv : v = 0
  · have t2 : (v == 0) = true := by rw [hv]; rfl
    clear hv hv1
    go_wp2
    go_ret
    exact ⟨s, rfl, by omega, hrd2.mono (by omega), ho2⟩
  have t2 : (v == 0) = false := by simpa using hv
  clear hv hv1
  go_wp2_with fail
  refine (pick_any R (k + 1) (s.size : Int) _ hrd2 (by omega) (by omega) (by omega)).mono ?_
  rintro e w3' ⟨j', rfl, ⟨hj0, hj1, _⟩, hrd3', ho3'⟩
  have hjl' := hj1 (by omega)
  obtain ⟨j, rfl⟩ : ∃ j : Nat, j' = (j : Int) := ⟨j'.toNat, by omega⟩
  have hjs : j < s.size := by omega
  have hjs' : (j : Int) ≤ (s.size : Int) := by omega
  have ho3 := ho2.trans ho3'
  have hRl := hrd3'.lt
  have hwrap : ∀ m : Nat, m < 2 → IntKind.i64.wrap ((j : Int) + (m : Int)) = (j : Int) + (m : Int) := fun m hm => IntWalk.i64_in _ (by omega)
  have HW := Lib.hid hwrap
  have hex := extract_size s 0 j
  clear hj1 hrd2 ho2 ho3' H hwrap
  have hLn : ∀ W : World, ∀ i (h : i < tornL.length), (W.alloc (.cells #[.string ⟨#[]⟩, .string ⟨#[62]⟩, .string ⟨#[10]⟩, .string ⟨#[65]⟩, .string ⟨#[97]⟩, .string ⟨#[66]⟩, .string ⟨#[32]⟩, .string ⟨#[40]⟩] 9)).cell? ⟨W.heap.size, i, none⟩ = some (.string tornL[i]) := fun W i h => lit_cells W tornL 9 i h
  have HLN := Lib.hid hLn
  clear hLn
  have hAl := hrd3'.alloc (.cells #[.string ⟨#[]⟩, .string ⟨#[62]⟩, .string ⟨#[10]⟩, .string ⟨#[65]⟩, .string ⟨#[97]⟩, .string ⟨#[66]⟩, .string ⟨#[32]⟩, .string ⟨#[40]⟩] 9)
  have n1 : w3'.heap.size ≠ R := by omega
  have oA : Only R w (w3'.alloc (.cells #[.string ⟨#[]⟩, .string ⟨#[62]⟩, .string ⟨#[10]⟩, .string ⟨#[65]⟩, .string ⟨#[97]⟩, .string ⟨#[66]⟩, .string ⟨#[32]⟩, .string ⟨#[40]⟩] 9)).drew := (ho3.alloc _).drew
  have oB : Only R w w3'.drew := ho3.drew
  go_wp2_with fail
  go_region_law (first
    | (have _ := tokp; go_simp; go_at_call 87; refine (of_any R (k + 3) w3'.heap.size 8 8 tornL _ hrdp (by omega) rfl (by omega) (by omega) n1 (fun i h => (hop.cell (p := ⟨w3'.heap.size, i, none⟩) (by simp) n1).trans (HLN.out w3' i h))).mono ?_; rintro e wf ⟨sa, rfl, hsa', hrdf, hof⟩; have hsa := torn_size hsa'; have toks := True.intro; have oF := oP.trans hof; have hadd1 := run_catB (s.extract 0 j) sa (by omega); have hadd2 := run_catB (catB (s.extract 0 j) sa) (s.extract (j + m) s.size) (by have := extract_size s (j + m) s.size; rw [catB_size]; omega))
    | (have _ := tokq; go_simp; go_at_call 87; refine (of_any R (k + 3) wp.heap.size 8 8 tornL _ (hrdp.alloc _) (by omega) rfl (by omega) (by omega) (by have := hrdp.lt; omega) (fun i h => HLN.out wp i h)).mono ?_; rintro e wf ⟨sa, rfl, hsa', hrdf, hof⟩; have hsa := torn_size hsa'; have toks := True.intro; have oF := (oP.alloc _).trans hof; have hadd1 := run_catB (s.extract 0 j) sa (by omega); have hadd2 := run_catB (catB (s.extract 0 j) sa) (s.extract (j + m) s.size) (by have := extract_size s (j + m) s.size; rw [catB_size]; omega))
    | (have _ := toks; go_simp; go_at_call 119; refine (pick_any R (k + 3) 2 _ hrdf (by omega) (by omega) (by omega)).mono ?_; rintro e wp ⟨m', rfl, ⟨hm0, hm1, _⟩, hrdp, hop⟩; obtain ⟨m, rfl⟩ : ∃ m : Nat, m' = (m : Int) := ⟨m'.toNat, by omega⟩; have hm2 : m < 2 := (by have := hm1 (by omega); omega); have oF2 := oF.trans hop; have hwm := HW.out m hm2; have hms : (j : Int) + (m : Int) ≤ (s.size : Int) := (by omega); have hnn : 0 ≤ (j : Int) + (m : Int) := (by omega); have htn : ((j : Int) + (m : Int)).toNat = j + m := (by omega); have hadd2 := run_catB (catB (s.extract 0 j) sa) (s.extract (j + m) s.size) (by have := extract_size s (j + m) s.size; rw [catB_size]; omega))
    | (go_simp; go_at_call 87; refine (of_any R (k + 2) w3'.heap.size 8 8 tornL _ hAl.drew (by omega) rfl (by omega) (by omega) n1 (fun i h => HLN.out w3' i h)).mono ?_; rintro e wf ⟨sa, rfl, hsa', hrdf, hof⟩; have hsa := torn_size hsa'; have toks := True.intro; have oF := oA.trans hof; have hadd1 := run_catB (s.extract 0 j) sa (by omega))
    | (go_simp; go_at_call 119; refine (pick_any R (k + 2) 2 _ hAl.drew (by omega) (by omega) (by omega)).mono ?_; rintro e wp ⟨m', rfl, ⟨hm0, hm1, _⟩, hrdp, hop⟩; obtain ⟨m, rfl⟩ : ∃ m : Nat, m' = (m : Int) := ⟨m'.toNat, by omega⟩; have hm2 : m < 2 := (by have := hm1 (by omega); omega); have oP := oA.trans hop; have tokp := True.intro; have hwm := HW.out m hm2; have hms : (j : Int) + (m : Int) ≤ (s.size : Int) := (by omega); have hnn : 0 ≤ (j : Int) + (m : Int) := (by omega); have htn : ((j : Int) + (m : Int)).toNat = j + m := (by omega))
    | (go_simp; go_at_call 119; refine (pick_any R (k + 2) 2 _ hrd3'.drew (by omega) (by omega) (by omega)).mono ?_; rintro e wp ⟨m', rfl, ⟨hm0, hm1, _⟩, hrdp, hop⟩; obtain ⟨m, rfl⟩ : ∃ m : Nat, m' = (m : Int) := ⟨m'.toNat, by omega⟩; have hm2 : m < 2 := (by have := hm1 (by omega); omega); have oP := oB.trans hop; have tokq := True.intro; have hwm := HW.out m hm2; have hms : (j : Int) + (m : Int) ≤ (s.size : Int) := (by omega); have hnn : 0 ≤ (j : Int) + (m : Int) := (by omega); have htn : ((j : Int) + (m : Int)).toNat = j + m := (by omega))
    | fail)
  all_goals
    have hq1 := extract_size s (j + m) s.size
    have hq2 : (catB (catB (s.extract 0 j) sa) (s.extract (j + m) s.size)).size ≤ 300000 := by rw [catB_size, catB_size]; omega
    go_wp2
    refine bodyPost_ret (v := .string (catB (catB (s.extract 0 j) sa) (s.extract (j + m) s.size))) (by simp [results, Try.results84, go_sem]) rfl ⟨_, rfl, hq2, ?_, ?_⟩
    · first | exact hrdp | exact hrdf
    · first | exact oF2 | exact oF
theorem text_len2 (st : ByteArray) (rs : List RuleT) (hl : rs.length ≤ 10) (hs : st.size ≤ 100) (hS : SmallR rs) : (gramTextL st rs).length ≤ 100000 := by
  have h : ∀ us : List RuleT, SmallR us → (us.flatMap ruleTextL).length ≤ 300 * us.length := by
    intro us
    induction us with
    | nil => intro _; simp
    | cons r us ih =>
      intro h
      have h1 := ih (fun x hx => h x (List.mem_cons_of_mem _ hx))
      have h2 := h r (List.mem_cons_self)
      rw [List.flatMap_cons, List.length_append, List.length_cons]
      have h3 : (ruleTextL r).length = r.1.size + r.2.size + 2 := by simp [ruleTextL]; omega
      omega
  unfold gramTextL
  split
  · unfold textTo
    rw [List.take_length, List.length_append, List.length_cons]
    have := h rs hS
    have h4 : st.data.toList.length = st.size := by simp
    omega
  · simp
def TextOf (w : World) (e : Ending) (w' : World) : Prop := ∃ s : ByteArray, e = .returned (.string s) ∧ s.size ≤ 300000 ∧ Below w.heap.size w w'
theorem drawGramRead_any (a : Option Addr) (n cap : Nat) (w : World) (H : BytesAt w a n cap) :
    Calls Try.prog 39 #[.slice a n cap] w (TextOf w) := by
  go_enter Try.func39, Try.ntmps39
  go_wp2_with fail
  refine (l17Open_any a n cap _ H).mono ?_
  rintro e w2 ⟨rfl, hrd2, hb2⟩
  go_wp2_with fail
  refine (l1Gram_any w.heap.size 0 w2 hrd2 (by omega)).mono ?_
  rintro e w3 ⟨v3, st3, rs3, rfl, ⟨b3, off3, cap3, rfl, hc3, hR3, hl3, hs3, hS3, hb3⟩, hrd3, ho3⟩
  have hlt2 := hrd2.lt
  have hB3 : Below w.heap.size w w3 := hb2.trans (ho3.below _ (by omega) (by omega))
  have hT := text_len2 st3 rs3 (by omega) hs3 hS3
  clear hb2 hrd2 ho3 hS3
  go_wp2_with fail
  refine (sGramText_any st3 (some ⟨b3, off3, none⟩) cap3 rs3 _ hR3 hc3).mono ?_
  rintro e w4 ⟨rfl, hb4⟩
  have hrd4 := hrd3.below hb4
  have hB4 := hB3.trans (hb4.mono hB3.size)
  have hlt4 := hrd4.lt
  clear hrd3 hB3 hR3 hb4
  go_wp2_with fail
  refine (l1Torn_any w.heap.size _ (bytesOf (gramTextL st3 rs3)) _ hrd4 (by omega) (by rw [bytesOf_size]; omega)).mono ?_
  rintro e w5 ⟨s, rfl, hs5, hrd5, ho5⟩
  go_wp2
  go_ret
  exact ⟨s, rfl, hs5, hB4.trans (ho5.below _ (by omega) (by omega))⟩
end Go.Proofs.Ytjpkohahabclgaa
