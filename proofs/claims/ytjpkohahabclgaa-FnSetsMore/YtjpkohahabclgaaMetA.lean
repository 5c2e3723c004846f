/- The worklist of reachable symbols: contracts of the closure meet and of eachSign. -/
import Derived.Test.YtjpkohahabclgaaChan
import Derived.Test.YtjpkohahabclgaaSetE
import Derived.Deep.Cut
namespace Go.Proofs.Ytjpkohahabclgaa
open Go.ChangeShapes Go.WideShapes Go.ChangeAt Go.RowKit Go.Conc
set_option maxRecDepth 100000
def strsOf (l : List UInt8) : Array Value := (l.map fun c => Value.string ⟨#[c]⟩).toArray
theorem strsOf_size (l : List UInt8) : (strsOf l).size = l.length := by simp [strsOf]
theorem strsOf_push (l : List UInt8) (c : UInt8) : (strsOf l).push (.string ⟨#[c]⟩) = strsOf (l ++ [c]) := by simp [strsOf]
/-- how many symbols a set holds -/
def pc (m : Nat) : Nat := (textN m).length
theorem pc_all : ∀ m : Fin 1024, ordL.all (fun c => hasN m.val c || (pc (m.val ||| bitN c) == pc m.val + 1)) = true := by decide +kernel
theorem pc_add {m : Nat} (hm : m < 1024) {c : UInt8} (hc : c ∈ ordL) (h : hasN m c = false) : pc (m ||| bitN c) = pc m + 1 := by
  have := List.all_eq_true.1 (pc_all ⟨m, hm⟩) c hc
  rw [h] at this
  simpa using this
theorem pc_big_all : ∀ m : Fin 1024, (m.val ||| 62) = 62 → pc m.val ≤ 5 := by decide +kernel
theorem pc_big {m : Nat} (hm : m < 1024) (h : Sub m 62) : pc m ≤ 5 := pc_big_all ⟨m, hm⟩ h
theorem bit_big {c : UInt8} (h : bigN (c.toNat : Int) = true) : Sub (bitN c) 62 := by
  rcases bigN_cases h with rfl | rfl | rfl | rfl | rfl <;> (unfold Sub; decide)
def meets (m : Nat) (c : UInt8) : Bool := bigN (c.toNat : Int) && !hasN m c
def meetM (m : Nat) (c : UInt8) : Nat := if meets m c = true then m ||| bitN c else m
def meetL (m : Nat) (l : List UInt8) (c : UInt8) : List UInt8 := if meets m c = true then l ++ [c] else l
/-- the set, the channel and its variable, B blocks on -/
def MetW (w0 W : World) (B m : Nat) (l : List UInt8) : Prop :=
  m < 1024 ∧ Sub m 62 ∧ l.length ≤ pc m ∧ one1 W (B + 1) (.int .u16 (m : Nat)) 75 ∧ (∃ s r, W.heap[B + 2]? = some (.chan 5 (strsOf l) false s r false)) ∧ one1 W (B + 3) (.chan (some (B + 2))) 124 ∧ Below (B + 1) w0 W
theorem bigs_ord {c : UInt8} (h : bigN (c.toNat : Int) = true) : c ∈ ordL := by
  rcases bigN_cases h with rfl | rfl | rfl | rfl | rfl <;> decide
theorem meet_ok {m : Nat} {c : UInt8} {l : List UInt8} (h1 : m < 1024) (h2 : Sub m 62) (h3 : l.length ≤ pc m) (h : meets m c = true) : m ||| bitN c < 1024 ∧ Sub (m ||| bitN c) 62 ∧ (l ++ [c]).length ≤ pc (m ||| bitN c) ∧ l.length < 5 := by
  unfold meets at h
  rw [Bool.and_eq_true] at h
  obtain ⟨hb, hn⟩ := h
  have hn' : hasN m c = false := by simpa using hn
  have hc := bigs_ord hb
  have hp := pc_add h1 hc hn'
  have hlt := or_lt h1 (bitN_lt c)
  have hs := h2.or (bit_big hb)
  have := pc_big hlt hs
  exact ⟨hlt, hs, by simp; omega, by omega⟩
theorem oneBig (c : UInt8) : isBigS ⟨#[c]⟩ = bigN (c.toNat : Int) := by simp [isBigS, byteAt, ByteArray.size]
theorem one1.chan {w : World} {b c : Nat} {v : Value} {T : TypeId} (h : one1 w b v T) (hc : b ≠ c) {cap : Nat} {buf : Array Value} {cl : Bool} {s r : Nat} {tm : Bool} : one1 (w.setChan c cap buf cl s r tm) b v T := by
  unfold one1 at *
  simp only [World.setChan]
  rw [Array.getElem?_setIfInBounds_ne (fun e => hc e.symm)]
  exact h
set_option maxHeartbeats 1000000 in
theorem meet_any (B m : Nat) (l : List UInt8) (c : UInt8) (w0 W : World) (H : MetW w0 W B m l) :
    Calls Try.prog 114 #[.string ⟨#[c]⟩, .pointer (some ⟨B + 1, 0, none⟩), .pointer (some ⟨B + 3, 0, none⟩)] W fun e W' => (∃ u, e = .returned u) ∧ MetW w0 W' B (meetM m c) (meetL m l c) := by
  obtain ⟨h1, h2, h3, k1, ⟨s, r, k2⟩, k3, hb⟩ := H
  have hsz : (⟨#[c]⟩ : ByteArray).size ≤ maxLen := by simp [ByteArray.size, maxLen]
  have hall : hasAllN m (⟨#[c]⟩ : ByteArray).data.toList = hasN m c := by simp [hasAllN]
  have hset : setN (⟨#[c]⟩ : ByteArray).data.toList = bitN c := setN_one c
  obtain ⟨c1, f1⟩ := k1.cell
  obtain ⟨c3, f3⟩ := k3.cell
  go_enter Try.func114, Try.ntmps114
  cases hb1 : bigN (c.toNat : Int) with
  | false =>
    go_wp2_with (go_at_call 42; refine (signBig_any ⟨#[c]⟩ _).mono ?_; rintro e w' ⟨rfl, rfl⟩; rw [oneBig, hb1])
    go_end0
    refine ⟨⟨_, rfl⟩, ?_⟩
    have hm : meets m c = false := by simp [meets, hb1]
    unfold meetM meetL
    rw [hm]
    exact ⟨h1, h2, h3, k1, ⟨s, r, k2⟩, k3, hb⟩
  | true =>
    cases hn : hasN m c with
    | true =>
      go_wp2_with (first | (go_at_call 42; refine (signBig_any ⟨#[c]⟩ _).mono ?_; rintro e w' ⟨rfl, rfl⟩; rw [oneBig, hb1]) | (go_at_call 72; refine (hasAll_any m ⟨#[c]⟩ _ h1 hsz).mono ?_; rintro e w' ⟨rfl, rfl⟩; rw [hall, hn]))
      go_end0
      refine ⟨⟨_, rfl⟩, ?_⟩
      have hm : meets m c = false := by simp [meets, hn]
      unfold meetM meetL
      rw [hm]
      exact ⟨h1, h2, h3, k1, ⟨s, r, k2⟩, k3, hb⟩
    | false =>
      have hm : meets m c = true := by simp [meets, hn, hb1]
      obtain ⟨o1, o2, o3, o4⟩ := meet_ok h1 h2 h3 hm
      have hor := bits_or m (bitN c) h1 (bitN_lt c)
      go_upto_region 1 with (first | (go_at_call 42; refine (signBig_any ⟨#[c]⟩ _).mono ?_; rintro e w' ⟨rfl, rfl⟩; rw [oneBig, hb1]) | (go_at_call 72; refine (hasAll_any m ⟨#[c]⟩ _ h1 hsz).mono ?_; rintro e w' ⟨rfl, rfl⟩; rw [hall, hn]))
      have hset' : ∀ w, Calls Try.prog 69 #[.string ⟨#[c]⟩] w fun e w' => e = .returned (.int .u16 (bitN c : Nat)) ∧ w = w' := fun w => by
        have := setOf_any ⟨#[c]⟩ w hsz
        rwa [hset] at this
      go_region_with (go_at_call 69; refine (hset' _).mono ?_; rintro e w' ⟨rfl, rfl⟩)
      all_goals
        have j1 : one1 (W.setCell ⟨B + 1, 0, none⟩ (.int .u16 (m ||| bitN c : Nat))).drew (B + 1) (.int .u16 (m ||| bitN c : Nat)) 75 := k1.set _
        have j2 : (W.setCell ⟨B + 1, 0, none⟩ (.int .u16 (m ||| bitN c : Nat))).drew.heap[B + 2]? = some (.chan 5 (strsOf l) false s r false) := (Below.heap_setCell W ⟨B + 1, 0, none⟩ _ (B + 2) (by show B + 2 ≠ B + 1; omega)).trans k2
        have j3 : one1 (W.setCell ⟨B + 1, 0, none⟩ (.int .u16 (m ||| bitN c : Nat))).drew (B + 3) (.chan (some (B + 2))) 124 := k3.other (by omega) _
        have j4 : Below (B + 1) w0 (W.setCell ⟨B + 1, 0, none⟩ (.int .u16 (m ||| bitN c : Nat))).drew := (hb.setCell (p := ⟨B + 1, 0, none⟩) (Nat.le_refl _) _).drew
        generalize (W.setCell ⟨B + 1, 0, none⟩ (.int .u16 (m ||| bitN c : Nat))).drew = W5 at *
        obtain ⟨d3, _⟩ := j3.cell
        clear c1 f1 c3 f3 k1 k2 k3 hb
        go_upto_region 2 with fail
        refine wp_region_three rfl (opStep_value (v := .chan (some (B + 2))) (w' := W5) rfl rfl (by go_simp)) (opStep_value (v := .string ⟨#[c]⟩) (w' := W5) rfl rfl (by go_simp)) (opStep_send (c := B + 2) (v := .string ⟨#[c]⟩) (z := .tuple #[]) (w' := W5) rfl rfl (by simp [execOp, scase, Act.eval, Act.put]) j2 (by rw [strsOf_size]; omega)) ?_
        go_end0
        refine ⟨⟨_, rfl⟩, ?_⟩
        unfold meetM meetL
        rw [hm, strsOf_push]
        exact ⟨o1, o2, o3, j1.chan (by omega), ⟨s + 1, r, heap_setChan _ _ _ _ _ _ _ _ (Array.getElem?_eq_some_iff.1 j2).1⟩, j3.chan (by omega), below_setChan j4 (by omega) _ _ _ _ _ _⟩
theorem cutB (s : ByteArray) (k : Nat) (h : k < s.size) : s.extract k (k + 1) = ⟨#[s[k]]⟩ := by
  apply bytesOf_ext
  rw [Lib.extract_data]
  have hl : k < s.data.toList.length := by simpa using h
  have h2 : s[k] = s.data.toList[k] := rfl
  rw [h2]
  simp only [Nat.add_sub_cancel_left]
  rw [List.drop_eq_getElem_cons hl]
  simp
def foldM : List UInt8 → Nat → Nat
  | [], m => m
  | c :: r, m => foldM r (meetM m c)
def foldL : List UInt8 → Nat → List UInt8 → List UInt8
  | [], _, l => l
  | c :: r, m, l => foldL r (meetM m c) (meetL m l c)
set_option maxHeartbeats 1000000 in
theorem eachSign_any (B m : Nat) (l : List UInt8) (s : ByteArray) (w0 W : World) (hs : s.size ≤ 1000) (H : MetW w0 W B m l) :
    Calls Try.prog 115 #[.string s, .func (.func 114) #[] #[.pointer (some ⟨B + 1, 0, none⟩), .pointer (some ⟨B + 3, 0, none⟩)]] W fun e W' => (∃ u, e = .returned u) ∧ MetW w0 W' B (foldM s.data.toList m) (foldL s.data.toList m l) := by
  have eg : ∀ args w, (callFunc 114 args).run Try.prog w = .ok (.enter 114 args) w := enters_of Try.func114 (by kernel_rfl) rfl
  go_enter Try.func115, Try.ntmps115
  go_wp2
  go_loopw [7] (fun i wr => ∃ (k m' : Nat) (l' : List UInt8), k ≤ s.size ∧ i = .int .i64 k ∧ MetW w0 wr B m' l' ∧ Hid (foldM (s.data.toList.drop k) m' = foldM s.data.toList m ∧ foldL (s.data.toList.drop k) m' l' = foldL s.data.toList m l)) (fun i _ => s.size - (intOf i).toNat)
  case atStart => exact ⟨0, m, l, Nat.zero_le _, rfl, H, rfl, rfl⟩
  case round =>
    obtain ⟨k, m', l', hk, rfl, hM, HF⟩ := hrel
    by_cases hlt : k < s.size
    · have hcut := cutB s k hlt
      have HD : Hid (s.data.toList.drop k = s[k] :: s.data.toList.drop (k + 1)) := by show _ = _; rw [List.drop_eq_getElem_cons (by simpa using hlt)]; rfl
      go_wp2_with fail
      refine (meet_any B m' l' s[k] w0 _ hM).mono ?_
      rintro e W2 ⟨⟨u, rfl⟩, hM2⟩
      go_wp2
      go_roundw
      case rel =>
        refine ⟨k + 1, _, _, by omega, by go_num, hM2, ?_⟩
        have h := HF.out
        rw [HD.out] at h
        exact h
      case measure => simp [intOf]; omega
    · go_wp2
      go_end0
      refine ⟨⟨_, rfl⟩, ?_⟩
      have h := HF.out
      rw [List.drop_eq_nil_of_le (by simp; omega)] at h
      rw [← h.1, ← h.2]
      exact hM
end Go.Proofs.Ytjpkohahabclgaa
