/- FOLLOW sets: what both programs compute; contracts of the program's addFollows and followSets. -/
import Derived.Test.YtjpkohahabclgaaFolA
import Derived.Test.YtjpkohahabclgaaFirI
import Derived.Test.YtjpkohahabclgaaDrawA
namespace Go.Proofs.Ytjpkohahabclgaa
open Go.ChangeShapes Go.WideShapes Go.ChangeAt Go.RowKit
set_option maxRecDepth 100000
theorem fold_sub {α : Type} {f : V5 → α → V5} (hf : ∀ K x, Sub5 K (f K x)) : ∀ (l : List α) (K : V5), Sub5 K (l.foldl f K)
  | [], K => Sub5.refl K
  | x :: l, K => (hf K x).trans (fold_sub hf l _)
theorem fold_fix {α : Type} {f : V5 → α → V5} (hf : ∀ K x, Sub5 K (f K x)) : ∀ (l : List α) (K : V5), l.foldl f K = K → ∀ x ∈ l, f K x = K
  | [], _, _ => fun x hx => by cases hx
  | y :: l, K, h => by
    have h1 : f K y = K := ((hf K y).antisymm (by have := fold_sub hf l (f K y); rw [List.foldl_cons] at h; rwa [h] at this)).symm
    intro x hx
    rcases List.mem_cons.1 hx with rfl | hx
    · exact h1
    · exact fold_fix hf l K (by rw [List.foldl_cons, h1] at h; exact h) x hx
theorem fold_ok {α : Type} {f : V5 → α → V5} (hf : ∀ K x, K.ok → (f K x).ok) : ∀ (l : List α) (K : V5), K.ok → (l.foldl f K).ok
  | [], _, h => h
  | x :: l, K, h => fold_ok hf l _ (hf K x h)
theorem fold_below {α : Type} {f : V5 → α → V5} {G : V5} : ∀ (l : List α) (K : V5), (∀ K x, x ∈ l → Sub5 K G → Sub5 (f K x) G) → Sub5 K G → Sub5 (l.foldl f K) G
  | [], _, _, h => h
  | x :: l, K, hf, h => fold_below l _ (fun K y hy => hf K y (List.mem_cons_of_mem _ hy)) (hf K x (List.mem_cons_self ..) h)
def signC (r : RuleT) (i : Nat) : UInt8 := r.2.data.toList.getD i 0
theorem signC_at (r : RuleT) {i : Nat} (h : i < r.2.size) : signC r i = r.2[i] := by
  unfold signC
  have hl : i < r.2.data.toList.length := by simpa using h
  rw [List.getD_eq_getElem?_getD, List.getElem?_eq_getElem hl]; rfl
def tailA (n : Nat) (F : V5) (r : RuleT) (i : Nat) : Nat × Bool := firstA n F 0 (r.2.data.toList.drop (i + 1))
/-- what a rule says, at a place, of what stands behind the sign there -/
def folAdd (n : Nat) (F K : V5) (r : RuleT) (i : Nat) : Nat := (tailA n F r i).1 ||| (if (tailA n F r i).2 = true then K.get (leftC r) else 0)
def folPos (n : Nat) (F : V5) (r : RuleT) (K : V5) (i : Nat) : V5 := if bigN ((signC r i).toNat : Int) = true then K.upd (signC r i) (K.get (signC r i) ||| folAdd n F K r i) else K
def folRule (n : Nat) (F K : V5) (r : RuleT) : V5 := (List.range r.2.size).foldl (folPos n F r) K
def folTo (rs : List RuleT) (n : Nat) (F K : V5) (k : Nat) : V5 := (rs.take k).foldl (folRule n F) K
def folClosed (rs : List RuleT) (n : Nat) (F G : V5) : Prop := ∀ r ∈ rs, ∀ i, i < r.2.size → bigN ((signC r i).toNat : Int) = true → Sub (folAdd n F G r i) (G.get (signC r i))
theorem folAdd_lt {n : Nat} {F K : V5} (hF : F.ok) (hK : K.ok) (r : RuleT) (i : Nat) : folAdd n F K r i < 1024 := by
  unfold folAdd
  refine or_lt (firstA_lt hF _ 0 (by omega)) ?_
  split
  · exact hK.get _
  · omega
theorem folAdd_mono {n : Nat} {F K G : V5} (h : Sub5 K G) (r : RuleT) (i : Nat) : Sub (folAdd n F K r i) (folAdd n F G r i) := by
  unfold folAdd
  refine (Sub.refl _).or_mono ?_
  split
  · exact h.get _
  · exact Sub.refl _
theorem folPos_ok {n : Nat} {F : V5} (hF : F.ok) (r : RuleT) (K : V5) (i : Nat) (h : K.ok) : (folPos n F r K i).ok := by
  unfold folPos
  split
  · exact h.upd _ (or_lt (h.get _) (folAdd_lt hF h r i))
  · exact h
theorem folPos_sub (n : Nat) (F : V5) (r : RuleT) (K : V5) (i : Nat) : Sub5 K (folPos n F r K i) := by
  unfold folPos
  split
  · exact sub5_upd K _ (sub_or_left _ _)
  · exact Sub5.refl _
theorem folRule_ok {n : Nat} {F : V5} (hF : F.ok) (K : V5) (r : RuleT) (h : K.ok) : (folRule n F K r).ok := fold_ok (folPos_ok hF r) _ K h
theorem folRule_sub (n : Nat) (F K : V5) (r : RuleT) : Sub5 K (folRule n F K r) := fold_sub (folPos_sub n F r) _ K
theorem folTo_ok (rs : List RuleT) (n : Nat) {F K : V5} (hF : F.ok) (h : K.ok) (k : Nat) : (folTo rs n F K k).ok := fold_ok (folRule_ok hF) _ K h
theorem folTo_sub (rs : List RuleT) (n : Nat) (F K : V5) (k : Nat) : Sub5 K (folTo rs n F K k) := fold_sub (folRule_sub n F) _ K
theorem folTo_succ (rs : List RuleT) (n : Nat) (F K : V5) (k : Nat) (h : k < rs.length) : folTo rs n F K (k + 1) = folRule n F (folTo rs n F K k) rs[k] := by
  unfold folTo; rw [List.take_succ_eq_append_getElem h, List.foldl_append]; rfl
theorem folPos_below {rs : List RuleT} {n : Nat} {F G : V5} (hc : folClosed rs n F G) {r : RuleT} (hr : r ∈ rs) (K : V5) (i : Nat) (hi : i ∈ List.range r.2.size) (h : Sub5 K G) : Sub5 (folPos n F r K i) G := by
  unfold folPos
  split
  · rename_i hb
    exact h.upd _ ((h.get _).or ((folAdd_mono h r i).trans (hc r hr i (List.mem_range.1 hi) hb)))
  · exact h
theorem folTo_below {rs : List RuleT} {n : Nat} {F G K : V5} {k : Nat} (hc : folClosed rs n F G) (h : Sub5 K G) : Sub5 (folTo rs n F K k) G :=
  fold_below _ K (fun K _ hr h => fold_below _ K (fun K i hi h => folPos_below hc (List.mem_of_mem_take hr) K i hi h) h) h
theorem folTo_fix {rs : List RuleT} {n : Nat} {F K : V5} (h : folTo rs n F K rs.length = K) : folClosed rs n F K := by
  unfold folTo at h
  rw [List.take_of_length_le (Nat.le_refl _)] at h
  intro r hr i hi hb
  have h1 := fold_fix (folRule_sub n F) rs K h r hr
  have h2 := fold_fix (folPos_sub n F r) _ K h1 i (List.mem_range.2 hi)
  unfold folPos at h2
  rw [if_pos hb] at h2
  have h3 := V5.upd_get K (signC r i) (K.get (signC r i) ||| folAdd n F K r i)
  rw [h2] at h3
  rw [h3]
  exact sub_or_right _ _
/-- the set of the start holds the end, and no other holds anything -/
def startK (c0 : UInt8) : V5 := zero5.upd c0 1
theorem startK_ok (c0 : UInt8) : (startK c0).ok := zero5_ok.upd _ (by omega)
/-- K is the least family of FOLLOW sets -/
def IsFollow (c0 : UInt8) (rs : List RuleT) (n : Nat) (F K : V5) : Prop := K.ok ∧ Sub5 (startK c0) K ∧ folClosed rs n F K ∧ ∀ G, Sub5 (startK c0) G → folClosed rs n F G → Sub5 K G
theorem IsFollow.unique {c0 : UInt8} {rs : List RuleT} {n : Nat} {F K L : V5} (h : IsFollow c0 rs n F K) (k : IsFollow c0 rs n F L) : K = L := (h.2.2.2 L k.2.1 k.2.2.1).antisymm (k.2.2.2 K h.2.1 h.2.2.1)
theorem SBox.upd {w : World} {b n : Nat} {F : V5} (h : SBox w b n F) {c : UInt8} (hc : bigN (c.toNat : Int) = true) (m : Nat) : SBox (w.setCell ⟨b, 0 + (c.toNat - 65), none⟩ (.int .u16 (m : Nat))).drew b n (F.upd c m) := by
  unfold SBox at *
  rcases bigN_cases hc with rfl | rfl | rfl | rfl | rfl <;> simp [World.setCell, Array.getElem?_modify, h, fiveC, V5.upd, World.drew]
theorem SBox.at5 {w : World} {b n : Nat} {F : V5} (h : SBox w b n F) : At5 w b 0 F := by
  obtain ⟨_, h1, h2, h3, h4, h5⟩ := h.cells
  intro i hi
  refine ⟨?_, h.frozen _⟩
  match i, hi with
  | 0, _ => exact h1
  | 1, _ => exact h2
  | 2, _ => exact h3
  | 3, _ => exact h4
  | 4, _ => exact h5
theorem Only.set {R : Nat} {w w' : World} (h : Only R w w') (i : Nat) (v : Value) : Only R w (w'.setCell ⟨R, i, none⟩ v) := h.trans ⟨rfl, rfl, rfl, by simp [World.setCell], fun j _ hj => Below.heap_setCell _ _ _ _ hj⟩
theorem Only.drew {R : Nat} {w w' : World} (h : Only R w w') : Only R w w'.drew := ⟨h.os, h.tape, h.output, h.size, h.block⟩
theorem cut_tail (s : ByteArray) (k : Nat) : (s.extract k s.size).data.toList = s.data.toList.drop k := by
  rw [Lib.extract_data, List.take_of_length_le (by simp)]
theorem sym_tail {s : ByteArray} (h : allSym s = true) (k : Nat) : allSym (s.extract k s.size) = true := by
  unfold allSym symsTo at *
  rw [List.take_of_length_le (by simp), List.all_eq_true] at *
  intro c hc
  rw [cut_tail] at hc
  exact h c (List.mem_of_mem_drop hc)
set_option maxHeartbeats 8000000 in
theorem addFollows_any (b n : Nat) (F K : V5) (c0 : UInt8) (r : ByteArray) (w : World) (hn : n < 1024) (hF : F.ok) (hK : K.ok) (hsz : r.size ≤ 4) (hsym : allSym r = true) (hb0 : bigN (c0.toNat : Int) = true) (hB : SBox w b 0 K) :
    Calls Try.prog 109 #[.pointer (some ⟨b, 0, none⟩), .agg (firstCells n F), .agg #[.string ⟨#[c0]⟩, .string r]] w fun e w' => (∃ u, e = .returned u) ∧ SBox w' b 0 (folRule n F K (⟨#[c0]⟩, r)) ∧ Only b w w' := by
  have HSY := Lib.hid hsym
  clear hsym
  have hblt := hB.lt
  have hF0 : FBox ((w.alloc (.cells (firstCells n F) 104)).alloc (.cells #[.string ⟨#[c0]⟩, .string r] 55)) w.heap.size n F := FBox.alloc (blk_new _ _ rfl) _
  have hr0 : ((w.alloc (.cells (firstCells n F) 104)).alloc (.cells #[.string ⟨#[c0]⟩, .string r] 55)).heap[w.heap.size + 1]? = some (.cells #[.string ⟨#[c0]⟩, .string r] 55) := blk_new _ _ (by simp)
  have hK0 : SBox ((w.alloc (.cells (firstCells n F) 104)).alloc (.cells #[.string ⟨#[c0]⟩, .string r] 55)) b 0 K := SBox.alloc (SBox.alloc hB _) _
  have ho0 : Only b w ((w.alloc (.cells (firstCells n F) 104)).alloc (.cells #[.string ⟨#[c0]⟩, .string r] 55)) := Only.of_below (((Below.refl w.heap.size w).alloc (Nat.le_refl _) _).alloc (by simp) _)
  unfold firstCells at hF0 hr0 hK0 ho0 ⊢
  have hx := byte0
  go_enter Try.func109, Try.ntmps109
  go_wp2
  go_loopw [13] (fun i wr => ∃ k : Nat, k ≤ r.size ∧ i = .int .i64 k ∧ SBox wr b 0 ((List.range k).foldl (folPos n F (⟨#[c0]⟩, r)) K) ∧ FBox wr w.heap.size n F ∧ wr.heap[w.heap.size + 1]? = some (.cells #[.string ⟨#[c0]⟩, .string r] 55) ∧ Only b w wr) (fun i _ => r.size - (intOf i).toNat)
  case atStart => exact ⟨0, Nat.zero_le _, rfl, hK0, hF0, hr0, ho0⟩
  case round =>
    obtain ⟨k, hk, rfl, hS, hFr, hrr, ho⟩ := hrel
    obtain ⟨m0, m1, m2, m3, m4, m5⟩ := hFr.cells
    have d0 : wr.cell? ⟨w.heap.size + 1, 0, none⟩ = some (.string ⟨#[c0]⟩) := by rw [cell_of_block hrr 0]; rfl
    have d1 : wr.cell? ⟨w.heap.size + 1, 1, none⟩ = some (.string r) := by rw [cell_of_block hrr 1]; rfl
    by_cases hlt : k < r.size
    · have hkl : (k : Int) < (r.size : Int) := by omega
      have hcut := cut_one r k hlt
      have HFOLD : Hid ((List.range (k + 1)).foldl (folPos n F (⟨#[c0]⟩, r)) K = folPos n F (⟨#[c0]⟩, r) ((List.range k).foldl (folPos n F (⟨#[c0]⟩, r)) K) k) := by show _ = _; rw [List.range_succ, List.foldl_append]; rfl
      have hKk : ((List.range k).foldl (folPos n F (⟨#[c0]⟩, r)) K).ok := fold_ok (folPos_ok hF _) _ K hK
      have HSC : Hid (signC (⟨#[c0]⟩, r) k = r[k]) := signC_at (⟨#[c0]⟩, r) hlt
      have hsyT := sym_tail HSY.out (k + 1)
      have hszT : (r.extract (k + 1) r.size).size ≤ 1000 := by simp; omega
      obtain ⟨T, hT⟩ : ∃ T, r.extract (k + 1) r.size = T := ⟨_, rfl⟩
      have HTL0 : Hid (tailA n F (⟨#[c0]⟩, r) k = firstA n F 0 T.data.toList) := by show _ = _; rw [← hT, cut_tail]; rfl
      rw [hT] at hsyT hszT
      obtain ⟨rm, rb, hres⟩ : ∃ rm rb, firstA n F 0 T.data.toList = (rm, rb) := ⟨_, _, rfl⟩
      have HTL : Hid (tailA n F (⟨#[c0]⟩, r) k = (rm, rb)) := by show _ = _; rw [HTL0.out, hres]
      have hfl : rm < 1024 := by have := firstA_lt (n := n) hF T.data.toList 0 (by omega); rwa [hres] at this
      have CF : ∀ x, Calls Try.prog 91 #[.agg (firstCells n F), .string T] (grow wr x) fun e w' => e = .returned (.tuple #[.int .u16 (rm : Nat), .bool rb]) ∧ ∃ y, w' = grow wr y := fun x => Calls.grow_of (by have := ofFirst_any n F T (grow wr x) hn hF hszT hsyT; rwa [hres] at this)
      clear hres HTL0 hsyT hszT
      generalize (List.range k).foldl (folPos n F (⟨#[c0]⟩, r)) K = Kk at *
      obtain ⟨c, hcc⟩ : ∃ c, r[k] = c := ⟨_, rfl⟩
      rw [hcc] at hcut HSC
      cases hbig : bigN (c.toNat : Int) with
      | false =>
        have HP : Hid (folPos n F (⟨#[c0]⟩, r) Kk k = Kk) := by show _ = _; unfold folPos; rw [HSC.out, hbig]; simp
        go_wp2_with fail
        refine (signBig_any ⟨#[c]⟩ _).mono ?_
        rintro e w2 ⟨rfl, rfl⟩
        rw [big_one, hbig]
        go_wp2
        go_roundw
        case rel => exact ⟨k + 1, by omega, by go_num, by rw [HFOLD.out, HP.out]; exact hS, hFr, hrr, ho⟩
        case measure => simp [intOf]; omega
      | true =>
        have HP : Hid (folPos n F (⟨#[c0]⟩, r) Kk k = Kk.upd c (Kk.get c ||| folAdd n F Kk (⟨#[c0]⟩, r) k)) := by show _ = _; unfold folPos; rw [HSC.out, hbig]; simp
        have HAD : Hid (folAdd n F Kk (⟨#[c0]⟩, r) k = rm ||| (if rb = true then Kk.get c0 else 0)) := by show _ = _; unfold folAdd; rw [HTL.out]; rfl
        go_wp2_with fail
        refine (signBig_any ⟨#[c]⟩ _).mono ?_
        rintro e w2 ⟨rfl, rfl⟩
        rw [big_one, hbig]
        have hltF := hFr.lt
        have hltr := (Array.getElem?_eq_some_iff.1 hrr).1
        have Q0 : ∀ x, (grow wr x).cell? ⟨w.heap.size, 0, none⟩ = some (.int .u16 (n : Nat)) := fun x => by rw [grow_cell _ _ _ _ hltF]; exact m0
        have Q1 : ∀ x, (grow wr x).cell? ⟨w.heap.size, 1, none⟩ = some (.int .u16 (F.a : Nat)) := fun x => by rw [grow_cell _ _ _ _ hltF]; exact m1
        have Q2 : ∀ x, (grow wr x).cell? ⟨w.heap.size, 2, none⟩ = some (.int .u16 (F.b : Nat)) := fun x => by rw [grow_cell _ _ _ _ hltF]; exact m2
        have Q3 : ∀ x, (grow wr x).cell? ⟨w.heap.size, 3, none⟩ = some (.int .u16 (F.c : Nat)) := fun x => by rw [grow_cell _ _ _ _ hltF]; exact m3
        have Q4 : ∀ x, (grow wr x).cell? ⟨w.heap.size, 4, none⟩ = some (.int .u16 (F.d : Nat)) := fun x => by rw [grow_cell _ _ _ _ hltF]; exact m4
        have Q5 : ∀ x, (grow wr x).cell? ⟨w.heap.size, 5, none⟩ = some (.int .u16 (F.e : Nat)) := fun x => by rw [grow_cell _ _ _ _ hltF]; exact m5
        have Qr : ∀ x, (grow wr x).cell? ⟨w.heap.size + 1, 1, none⟩ = some (.string r) := fun x => by rw [grow_cell _ _ _ _ hltr]; exact d1
        go_wp2_with fail
        refine wp_region_grow (by kernel_rfl) (by kernel_rfl) ?_
        repeat (go_big_quiet_step ((first | (go_at_call 91; exact CF _))))
        refine wpQuiet_nil ?_
        rintro _ ⟨x, rfl⟩
        have hb2 := below_grow wr x
        clear Q0 Q1 Q2 Q3 Q4 Q5 Qr CF
        generalize grow wr x = w2 at *
        have hS2 := hS.below hb2
        have hF2 := hFr.below hb2
        have hr2 : w2.heap[w.heap.size + 1]? = some (.cells #[.string ⟨#[c0]⟩, .string r] 55) := (hb2.block _ (Array.getElem?_eq_some_iff.1 hrr).1).trans hrr
        have ho2 := ho.trans (Only.of_below hb2)
        clear m0 m1 m2 m3 m4 m5 d0 d1 hS hFr hrr ho
        have d0 : w2.cell? ⟨w.heap.size + 1, 0, none⟩ = some (.string ⟨#[c0]⟩) := by rw [cell_of_block hr2 0]; rfl
        obtain ⟨_, s0, s1, s2, s3, s4⟩ := hS2.cells
        cases rb with
        | false =>
          have HA2 : Hid (folAdd n F Kk (⟨#[c0]⟩, r) k = rm) := by show _ = _; rw [HAD.out]; simp
          go_wp2_with fail
          refine (add5_any Kk c _ 0 rm _ hbig hKk hfl hS2.at5).mono ?_
          rintro e w3 ⟨⟨u, rfl⟩, rfl⟩
          have hS3 := hS2.upd hbig (Kk.get c ||| rm)
          have hF3 : FBox (w2.setCell ⟨b, 0 + (c.toNat - 65), none⟩ (.int .u16 (Kk.get c ||| rm : Nat))).drew w.heap.size n F := blk_set (p := ⟨b, 0 + (c.toNat - 65), none⟩) hF2 (by show w.heap.size ≠ b; omega) _
          have hr3 : (w2.setCell ⟨b, 0 + (c.toNat - 65), none⟩ (.int .u16 (Kk.get c ||| rm : Nat))).drew.heap[w.heap.size + 1]? = some (.cells #[.string ⟨#[c0]⟩, .string r] 55) := blk_set (p := ⟨b, 0 + (c.toNat - 65), none⟩) hr2 (by show w.heap.size + 1 ≠ b; omega) _
          have ho3 := (ho2.set (0 + (c.toNat - 65)) (.int .u16 (Kk.get c ||| rm : Nat))).drew
          generalize (w2.setCell ⟨b, 0 + (c.toNat - 65), none⟩ (.int .u16 (Kk.get c ||| rm : Nat))).drew = w5 at *
          go_wp2
          go_roundw
          case rel => exact ⟨k + 1, by omega, by go_num, by rw [HFOLD.out, HP.out, HA2.out]; exact hS3, hF3, hr3, ho3⟩
          case measure => simp [intOf]; omega
        | true =>
          have HA2 : Hid (folAdd n F Kk (⟨#[c0]⟩, r) k = rm ||| Kk.get c0) := by show _ = _; rw [HAD.out]; simp
          have hor := bits_or rm (Kk.get c0) hfl (hKk.get c0)
          have hml := or_lt hfl (hKk.get c0)
          have hltS := hS2.lt
          have hltr := (Array.getElem?_eq_some_iff.1 hr2).1
          have Q0 : ∀ x, (grow w2 x).cell? ⟨b, 0, none⟩ = some (.int .u16 (Kk.a : Nat)) := fun x => by rw [grow_cell _ _ _ _ hltS]; exact s0
          have Q1 : ∀ x, (grow w2 x).cell? ⟨b, 1, none⟩ = some (.int .u16 (Kk.b : Nat)) := fun x => by rw [grow_cell _ _ _ _ hltS]; exact s1
          have Q2 : ∀ x, (grow w2 x).cell? ⟨b, 2, none⟩ = some (.int .u16 (Kk.c : Nat)) := fun x => by rw [grow_cell _ _ _ _ hltS]; exact s2
          have Q3 : ∀ x, (grow w2 x).cell? ⟨b, 3, none⟩ = some (.int .u16 (Kk.d : Nat)) := fun x => by rw [grow_cell _ _ _ _ hltS]; exact s3
          have Q4 : ∀ x, (grow w2 x).cell? ⟨b, 4, none⟩ = some (.int .u16 (Kk.e : Nat)) := fun x => by rw [grow_cell _ _ _ _ hltS]; exact s4
          have Qr : ∀ x, (grow w2 x).cell? ⟨w.heap.size + 1, 0, none⟩ = some (.string ⟨#[c0]⟩) := fun x => by rw [grow_cell _ _ _ _ hltr]; exact d0
          have CF : ∀ x, Calls Try.prog 65 #[.agg Kk.cells.toArray, .string ⟨#[c0]⟩] (grow w2 x) fun e w' => e = .returned (.int .u16 (Kk.get c0 : Nat)) ∧ ∃ y, w' = grow w2 y := fun x => Calls.grow_of (of5_any Kk c0 _ hb0)
          go_wp2_with fail
          refine wp_region_grow (by kernel_rfl) (by kernel_rfl) ?_
          repeat (go_big_quiet_step ((first | (go_at_call 65; exact CF _))))
          refine wpQuiet_nil ?_
          rintro _ ⟨x, rfl⟩
          have hb4 := below_grow w2 x
          clear Q0 Q1 Q2 Q3 Q4 Qr CF
          generalize grow w2 x = w4 at *
          have hS4 := hS2.below hb4
          have hF4 := hF2.below hb4
          have hr4 : w4.heap[w.heap.size + 1]? = some (.cells #[.string ⟨#[c0]⟩, .string r] 55) := (hb4.block _ (Array.getElem?_eq_some_iff.1 hr2).1).trans hr2
          have ho4 := ho2.trans (Only.of_below hb4)
          clear d0 s0 s1 s2 s3 s4 hS2 hF2 hr2 ho2 hb4
          go_wp2_with fail
          refine (add5_any Kk c _ 0 (rm ||| Kk.get c0) _ hbig hKk hml hS4.at5).mono ?_
          rintro e w3 ⟨⟨u, rfl⟩, rfl⟩
          have hS3 := hS4.upd hbig (Kk.get c ||| (rm ||| Kk.get c0))
          have hF3 : FBox (w4.setCell ⟨b, 0 + (c.toNat - 65), none⟩ (.int .u16 (Kk.get c ||| (rm ||| Kk.get c0) : Nat))).drew w.heap.size n F := blk_set (p := ⟨b, 0 + (c.toNat - 65), none⟩) hF4 (by show w.heap.size ≠ b; omega) _
          have hr3 : (w4.setCell ⟨b, 0 + (c.toNat - 65), none⟩ (.int .u16 (Kk.get c ||| (rm ||| Kk.get c0) : Nat))).drew.heap[w.heap.size + 1]? = some (.cells #[.string ⟨#[c0]⟩, .string r] 55) := blk_set (p := ⟨b, 0 + (c.toNat - 65), none⟩) hr4 (by show w.heap.size + 1 ≠ b; omega) _
          have ho3 := (ho4.set (0 + (c.toNat - 65)) (.int .u16 (Kk.get c ||| (rm ||| Kk.get c0) : Nat))).drew
          generalize (w4.setCell ⟨b, 0 + (c.toNat - 65), none⟩ (.int .u16 (Kk.get c ||| (rm ||| Kk.get c0) : Nat))).drew = w5 at *
          go_wp2
          go_roundw
          case rel => exact ⟨k + 1, by omega, by go_num, by rw [HFOLD.out, HP.out, HA2.out]; exact hS3, hF3, hr3, ho3⟩
          case measure => simp [intOf]; omega
    · have hkl : ¬ (k : Int) < (r.size : Int) := by omega
      obtain rfl : k = r.size := by omega
      go_wp2
      go_end0
      exact ⟨⟨_, rfl⟩, hS, ho⟩
theorem big_str {s : ByteArray} (h : isBigS s = true) : ∃ c : UInt8, s = ⟨#[c]⟩ ∧ bigN (c.toNat : Int) = true := by
  simp only [isBigS, Bool.and_eq_true, decide_eq_true_eq, byteAt] at h
  obtain ⟨h6, h7⟩ := h
  have hl : s.data.toList.length = 1 := by simpa using h6
  obtain ⟨c, hc⟩ : ∃ c, s.data.toList = [c] := by
    match hd : s.data.toList, hl with
    | [c], _ => exact ⟨c, rfl⟩
  have e : s = ⟨#[c]⟩ := bytesOf_ext (by rw [hc])
  subst e
  exact ⟨c, rfl, by simpa using h7⟩
theorem ok_begin {st : ByteArray} {rs : List RuleT} (h : gramOkB st rs = true) : ∃ c : UInt8, st = ⟨#[c]⟩ ∧ bigN (c.toNat : Int) = true := by
  unfold gramOkB at h
  simp only [Bool.and_eq_true] at h
  exact big_str h.1
set_option maxHeartbeats 2000000 in
theorem follow1_any (st : ByteArray) (a : Option Addr) (cap : Nat) (rs : List RuleT) (b1 b2 n : Nat) (F K : V5) (w : World) (H : RulesAt w a rs) (hok : gramOkB st rs = true) (hn : n < 1024) (hF : F.ok) (hK : K.ok) (hG : GBox w b1 st a rs.length cap) (hFB : FBox w b2 n F) :
    Calls Try.prog 108 #[.agg (fiveC 0 K), .pointer (some ⟨b1, 0, none⟩), .pointer (some ⟨b2, 0, none⟩)] w fun e w' => e = .returned (.agg (fiveC 0 (folTo rs n F K rs.length))) ∧ Below w.heap.size w w' := by
  have hl := (gramOk_facts hok).2.1
  have HOK := Lib.hid hok
  clear hok
  have hK0 : SBox ((w.alloc (.cells (fiveC 0 K) 77)).alloc (.cells (fiveC 0 zero5) 77)) w.heap.size 0 K := SBox.alloc (blk_new _ _ rfl) _
  have hR0 : SBox ((w.alloc (.cells (fiveC 0 K) 77)).alloc (.cells (fiveC 0 zero5) 77)) (w.heap.size + 1) 0 zero5 := blk_new _ _ (by simp)
  have hb0 := ((Below.refl w.heap.size w).alloc (Nat.le_refl _) (.cells (fiveC 0 K) 77)).alloc (by simp) (.cells (fiveC 0 zero5) 77)
  obtain ⟨g0, g1⟩ := (hG.below hb0).cells
  unfold fiveC at g0 g1 hK0 hR0 hb0 ⊢
  have hb1 := hG.lt
  have hb2 := hFB.lt
  obtain ⟨m0, m1⟩ := hG.cells
  have hn1 : ¬ b1 = w.heap.size := by omega
  have hn2 : ¬ b1 = w.heap.size + 1 := by omega
  go_enter Try.func108, Try.ntmps108
  go_wp2
  clear g0 g1 m0 m1
  go_loopw [10] (fun i wr => ∃ k : Nat, k ≤ rs.length ∧ i = .int .i64 k ∧ SBox wr w.heap.size 0 (folTo rs n F K k) ∧ SBox wr (w.heap.size + 1) 0 zero5 ∧ Below w.heap.size w wr) (fun i _ => rs.length - (intOf i).toNat)
  case atStart => exact ⟨0, Nat.zero_le _, rfl, hK0, hR0, hb0⟩
  case round =>
    obtain ⟨k, hk, rfl, hKr, hR, hb⟩ := hrel
    by_cases hlt : k < rs.length
    · obtain ⟨z1, z2, b, off, e, hbb, d1', d2'⟩ := H.2 k hlt
      obtain ⟨c, hc, hbig⟩ := ok_left HOK.out hlt
      obtain ⟨hsym, hsz⟩ := ok_right HOK.out hlt
      subst e
      have HRK : Hid (rs[k] = (⟨#[c]⟩, rs[k].2)) := Prod.ext hc rfl
      have HS := Lib.hid (folTo_succ rs n F K k hlt)
      have hKk := folTo_ok rs n hF hK k
      have d1 : wr.cell? ⟨b, off + k * 2, none⟩ = some (.string ⟨#[c]⟩) := by rw [hb.cell (p := ⟨b, _, none⟩) hbb, d1', hc]
      have d2 : wr.cell? ⟨b, off + k * 2 + 1, none⟩ = some (.string rs[k].2) := by rw [hb.cell (p := ⟨b, _, none⟩) hbb, d2']
      have hkl : (k : Int) < (rs.length : Int) := by omega
      have hFr : FBox wr b2 n F := (hb.block b2 hb2).trans hFB
      obtain ⟨f0, f1, f2, f3, f4, f5⟩ := (hFr.alloc (.cells #[.string ⟨#[c]⟩, .string rs[k].2] 55)).cells
      obtain ⟨e0, e1, e2, e3, e4, e5⟩ := hFr.cells
      have hK2 := hKr.alloc (.cells #[.string ⟨#[c]⟩, .string rs[k].2] 55)
      have hR2 := hR.alloc (.cells #[.string ⟨#[c]⟩, .string rs[k].2] 55)
      have hb3 := hb.alloc hb.size (.cells #[.string ⟨#[c]⟩, .string rs[k].2] 55)
      have hlt1 := hKr.lt
      have hn3 : ¬ b2 = wr.heap.size := by have := hFr.lt; omega
      clear d1' d2' hc hK0 hR0 hb0
      generalize folTo rs n F K k = Kk at *
      go_wp2_with fail
      refine (addFollows_any w.heap.size n F Kk c rs[k].2 _ hn hF hKk hsz hsym hbig hK2).mono ?_
      rintro e w2 ⟨⟨u, rfl⟩, hS3, ho3⟩
      have hR3 : SBox w2 (w.heap.size + 1) 0 zero5 := (ho3.block _ hR2.lt (by omega)).trans hR2
      have hb4 : Below w.heap.size w w2 := hb3.trans (ho3.below w.heap.size (Nat.le_refl _) (by have := hb3.size; exact this))
      rw [← HRK.out, ← HS.out] at hS3
      clear f0 f1 f2 f3 f4 f5 e0 e1 e2 e3 e4 e5 d1 d2 hKr hR hb hK2 hR2 hb3 ho3 hFr
      go_wp2
      go_roundw
      case rel => exact ⟨k + 1, by omega, by go_num, hS3, hR3, hb4⟩
      case measure => simp [intOf]; omega
    · have hkl : ¬ (k : Int) < (rs.length : Int) := by omega
      obtain rfl : k = rs.length := by omega
      obtain ⟨_, r1, r2, r3, r4, r5⟩ := hR.cells
      obtain ⟨_, c1, c2, c3, c4, c5⟩ := hKr.cells
      have f0 := hR.frozen 0
      have f1 := hR.frozen 1
      have f2 := hR.frozen 2
      have f3 := hR.frozen 3
      have f4 := hR.frozen 4
      generalize hRR : folTo rs n F K rs.length = R at *
      have HRR := Lib.hid hRR
      clear hRR
      have p0 := store5_same (n := 0) (F := R) hR
      obtain ⟨_, q1, q2, q3, q4, q5⟩ := p0.cells
      have p1 := store5_below hb (b := w.heap.size + 1) (by omega) 0 R
      unfold store5 at q1 q2 q3 q4 q5 p1
      have P1 := Lib.hid p1
      clear hKr hR hb p0 p1 hK0 hR0 hb0
      go_wp2
      exact bodyPost_ret (v := .agg #[.int .u16 (R.a : Nat), .int .u16 (R.b : Nat), .int .u16 (R.c : Nat), .int .u16 (R.d : Nat), .int .u16 (R.e : Nat)]) (by simp [results, Try.results108, go_sem, q1, q2, q3, q4, q5]) rfl ⟨by rw [HRR.out], P1.out⟩
def headB (s : ByteArray) : UInt8 := s.data.toList.headD 0
set_option maxHeartbeats 2000000 in
theorem followSets_any (st : ByteArray) (a : Option Addr) (cap : Nat) (rs : List RuleT) (w : World) (H : RulesAt w a rs) (hok : gramOkB st rs = true) :
    Calls Try.prog 64 #[.agg #[.string st, .slice a rs.length cap]] w fun e w' => ∃ F K, e = .returned (.agg (fiveC 0 K)) ∧ IsFirst rs (leftsLeast rs 0) F ∧ IsFollow (headB st) rs (leftsLeast rs 0) F K ∧ Below w.heap.size w w' := by
  have hmf := makeFunc_run
  have hlm := leftsLeast_lt rs 0
  obtain ⟨c0, rfl, hbig0⟩ := ok_begin hok
  have hG : GBox ((w.alloc (.cells #[.string ⟨#[c0]⟩, .slice a rs.length cap] 24)).alloc (.cells (fiveC 0 zero5) 77)) w.heap.size ⟨#[c0]⟩ a rs.length cap := (blk_old _ _ (by simp)).trans (blk_new _ _ rfl)
  have hR : SBox ((w.alloc (.cells #[.string ⟨#[c0]⟩, .slice a rs.length cap] 24)).alloc (.cells (fiveC 0 zero5) 77)) (w.heap.size + 1) 0 zero5 := blk_new _ _ (by simp)
  have hb0 := ((Below.refl w.heap.size w).alloc (Nat.le_refl _) (.cells #[.string ⟨#[c0]⟩, .slice a rs.length cap] 24)).alloc (by simp) (.cells (fiveC 0 zero5) 77)
  go_enter Try.func64, Try.ntmps64
  go_wp2_with fail
  refine (firstSetsOf_any ⟨#[c0]⟩ a cap rs _ (H.below hb0 (Nat.le_refl _)) hok).mono ?_
  rintro e w2 ⟨F, rfl, hF, hb2⟩
  have hG2 := hG.below hb2
  have hR2 := hR.below hb2
  have hB2 : Below w.heap.size w w2 := hb0.trans (hb2.mono (by simp; omega))
  have hb3 := ((Below.refl w2.heap.size w2).alloc (Nat.le_refl _) (.cells (firstCells (leftsLeast rs 0) F) 104)).alloc (by simp) (.cells (fiveC 0 zero5) 77)
  have hF3 : FBox ((w2.alloc (.cells (firstCells (leftsLeast rs 0) F) 104)).alloc (.cells (fiveC 0 zero5) 77)) w2.heap.size (leftsLeast rs 0) F := FBox.alloc (blk_new _ _ rfl) _
  have hL3 : SBox ((w2.alloc (.cells (firstCells (leftsLeast rs 0) F) 104)).alloc (.cells (fiveC 0 zero5) 77)) (w2.heap.size + 1) 0 zero5 := blk_new _ _ (by simp)
  have hG3 := hG2.below hb3
  have hR3 := hR2.below hb3
  have hB3 : Below w.heap.size w ((w2.alloc (.cells (firstCells (leftsLeast rs 0) F) 104)).alloc (.cells (fiveC 0 zero5) 77)) := hB2.trans (hb3.mono hB2.size)
  have lG := hG2.lt
  have lR := hR2.lt
  generalize hnn : leftsLeast rs 0 = n at *
  unfold firstCells
  go_wp2_with fail
  generalize hWW : ((w2.alloc (Obj.cells _ 104)).alloc (Obj.cells _ 77)) = W3
  have hF4 : FBox W3 w2.heap.size n F := by rw [← hWW]; exact hF3
  have hL4 : SBox W3 (w2.heap.size + 1) 0 zero5 := by rw [← hWW]; exact hL3
  have hG4 : GBox W3 w.heap.size ⟨#[c0]⟩ a rs.length cap := by rw [← hWW]; exact hG3
  have hR4 : SBox W3 (w.heap.size + 1) 0 zero5 := by rw [← hWW]; exact hR3
  have hB4 : Below w.heap.size w W3 := by rw [← hWW]; exact hB3
  clear hWW hb3 hb0 hG hR hb2 hG2 hR2 hB2 hF3 hL3 hG3 hR3 hB3
  have h36 : setN (⟨#[36]⟩ : ByteArray).data.toList = 1 := by decide
  have hL3d : SBox W3.drew (w2.heap.size + 1) 0 zero5 := hL4
  obtain ⟨g0, g1⟩ := hG4.cells
  go_region_with (first
    | (go_at_call 106; refine (add5_any zero5 c0 _ 0 1 _ hbig0 zero5_ok (by omega) hL3d.at5).mono ?_; rintro e w4 ⟨⟨u, rfl⟩, rfl⟩)
    | (go_at_call 69; refine (setOf_any ⟨#[36]⟩ _ (by simp [ByteArray.size, maxLen])).mono ?_; rintro e w5 ⟨rfl, rfl⟩; rw [h36])
    | fail)
  all_goals
    have hz : zero5.get c0 ||| 1 = 1 := by simp [V5.get, zero5]
    have hL5 : SBox (W3.setCell ⟨w2.heap.size + 1, c0.toNat - 65, none⟩ (.int .u16 (zero5.get c0 ||| 1 : Nat))).drew.drew (w2.heap.size + 1) 0 (startK c0) := by
      have h := hL4.upd hbig0 (zero5.get c0 ||| 1)
      rw [hz, Nat.zero_add] at h
      rw [hz]
      exact h
    have hF5 : FBox (W3.setCell ⟨w2.heap.size + 1, c0.toNat - 65, none⟩ (.int .u16 (zero5.get c0 ||| 1 : Nat))).drew.drew w2.heap.size n F := blk_set (p := ⟨w2.heap.size + 1, c0.toNat - 65, none⟩) hF4 (by show w2.heap.size ≠ w2.heap.size + 1; omega) _
    have hG5 : GBox (W3.setCell ⟨w2.heap.size + 1, c0.toNat - 65, none⟩ (.int .u16 (zero5.get c0 ||| 1 : Nat))).drew.drew w.heap.size ⟨#[c0]⟩ a rs.length cap := blk_set (p := ⟨w2.heap.size + 1, c0.toNat - 65, none⟩) hG4 (by show w.heap.size ≠ w2.heap.size + 1; omega) _
    have hR5 : SBox (W3.setCell ⟨w2.heap.size + 1, c0.toNat - 65, none⟩ (.int .u16 (zero5.get c0 ||| 1 : Nat))).drew.drew (w.heap.size + 1) 0 zero5 := blk_set (p := ⟨w2.heap.size + 1, c0.toNat - 65, none⟩) hR4 (by show w.heap.size + 1 ≠ w2.heap.size + 1; omega) _
    have hB5 : Below w.heap.size w (W3.setCell ⟨w2.heap.size + 1, c0.toNat - 65, none⟩ (.int .u16 (zero5.get c0 ||| 1 : Nat))).drew.drew := (hB4.setCell (p := ⟨w2.heap.size + 1, c0.toNat - 65, none⟩) (by show w.heap.size ≤ w2.heap.size + 1; omega) _).drew.drew
    clear hz hL3d hL4 hF4 hG4 hR4 hB4 g0 g1
    generalize (W3.setCell ⟨w2.heap.size + 1, c0.toNat - 65, none⟩ (.int .u16 (zero5.get c0 ||| 1 : Nat))).drew.drew = W5 at *
    obtain ⟨_, l0, l1, l2, l3, l4⟩ := hL5.cells
    have H5 := H.below hB5 (Nat.le_refl _)
    go_wp2_with fail
    refine (lfpS_any 0 #[.pointer (some ⟨w.heap.size, 0, none⟩), .pointer (some ⟨w2.heap.size, 0, none⟩)] (fun K => folTo rs n F K rs.length) (fun K => K.ok ∧ Sub5 (startK c0) K ∧ ∀ G, Sub5 (startK c0) G → folClosed rs n F G → Sub5 K G) ?_ _ ?_ (startK c0) ⟨startK_ok c0, Sub5.refl _, fun G h _ => h⟩).mono ?_
    · rintro x ⟨h1, h2, h3⟩
      exact ⟨⟨folTo_ok rs n hF.1 h1 _, h2.trans (folTo_sub rs n F x _), fun G hs hc => folTo_below hc (h3 G hs hc)⟩, folTo_sub rs n F x _, folTo_ok rs n hF.1 h1 _⟩
    · rintro x W ⟨h1, _, _⟩ hb
      exact follow1_any ⟨#[c0]⟩ a cap rs _ _ n F x W (H5.below hb (Nat.le_refl _)) hok hlm hF.1 h1 (hG5.below hb) (hF5.below hb)
    · rintro e w4 ⟨R, rfl, ⟨h1, h2, h3⟩, hfix, hb4⟩
      have hK : IsFollow c0 rs n F R := ⟨h1, h2, folTo_fix hfix, h3⟩
      have hR6 := hR5.below hb4
      have hB6 : Below w.heap.size w w4 := hB5.trans (hb4.mono hB5.size)
      obtain ⟨_, r1, r2, r3, r4, r5⟩ := hR6.cells
      have f0 := hR6.frozen 0
      have f1 := hR6.frozen 1
      have f2 := hR6.frozen 2
      have f3 := hR6.frozen 3
      have f4 := hR6.frozen 4
      have p0 := store5_same (n := 0) (F := R) hR6
      obtain ⟨_, q1, q2, q3, q4, q5⟩ := p0.cells
      have p1 := store5_below hB6 (b := w.heap.size + 1) (by omega) 0 R
      unfold store5 at q1 q2 q3 q4 q5 p1
      have P1 := Lib.hid p1
      have HF := Lib.hid hF
      have HK := Lib.hid hK
      clear hR6 hB6 p0 p1 hG5 hF5 hR5 hL5 hb4 hF hK h2 h3 hfix l0 l1 l2 l3 l4
      unfold fiveC
      go_wp2
      exact bodyPost_ret (v := .agg #[.int .u16 (R.a : Nat), .int .u16 (R.b : Nat), .int .u16 (R.c : Nat), .int .u16 (R.d : Nat), .int .u16 (R.e : Nat)]) (by simp [results, Try.results64, go_sem, q1, q2, q3, q4, q5]) rfl ⟨F, R, rfl, by rw [hnn]; exact HF.out, by rw [hnn]; exact HK.out, P1.out⟩
end Go.Proofs.Ytjpkohahabclgaa
