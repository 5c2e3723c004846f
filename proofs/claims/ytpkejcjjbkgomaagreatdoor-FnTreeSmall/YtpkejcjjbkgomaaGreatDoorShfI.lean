/- The small signs of a tree. -/
import Derived.Test.YtpkejcjjbkgomaaGreatDoorPtA
import Derived.Lib.ItoaMem
import Derived.Test.YtpkejcjjbkgomaaGreatDoorBox
import Derived.Maps.AppendAt
import Derived.WideKeyEntry
import Derived.DeepKeys4
import Derived.Test.YtpkejcjjbkgomaaGreatDoorWalkA
import Derived.Test.YtpkejcjjbkgomaaGreatDoorTreF
import Derived.Shelf.Strconv.AppendIntPublic10
import Derived.Shelf.Slices.Clone
import Derived.Test.YtpkejcjjbkgomaaGreatDoorRows
import Derived.Test.YtpkejcjjbkgomaaGreatDoorProg
namespace Go.Proofs.YtpkejcjjbkgomaaGreatDoor
set_option maxRecDepth 100000
/-- the small signs of a tree -/
def yieldL : Tr → List UInt8
  | .node s _ ks => if isSmallS s = true then s.data.toList else ks.flatMap yieldL
theorem yield_len (m : Nat) : ∀ (T : Tr), T.sz ≤ m → (yieldL T).length ≤ T.sz := by
  induction m with
  | zero =>
    intro T hT
    cases T with
    | node s r ks => rw [Tr.sz] at hT; omega
  | succ m ih =>
    intro T hT
    cases T with
    | node s r ks =>
      have hk : ∀ k ∈ ks, (yieldL k).length ≤ k.sz := fun k hk => ih k (by have := Tr.sz_kid (s := s) (r := r) hk; omega)
      rw [yieldL, Tr.sz]
      split
      · rename_i hs
        have : s.size = 1 := by unfold isSmallS at hs; simp at hs; exact hs.1
        show s.data.toList.length ≤ _
        rw [Array.length_toList, show s.data.size = s.size from rfl, this]; omega
      · have : ∀ l : List Tr, (∀ k ∈ l, (yieldL k).length ≤ k.sz) → (l.flatMap yieldL).length ≤ (l.map Tr.sz).sum := by
          intro l
          induction l with
          | nil => intro _; simp
          | cons x xs ih2 =>
            intro h
            have h1 := h x (List.mem_cons_self ..)
            have h2 := ih2 (fun k hk => h k (List.mem_cons_of_mem _ hk))
            simp only [List.flatMap_cons, List.length_append, List.map_cons, List.sum_cons]
            omega
        have := this ks hk
        omega
end Go.Proofs.YtpkejcjjbkgomaaGreatDoor
namespace Go.Proofs.YtpkejcjjbkgomaaGreatDoor
open Go.Lib
set_option maxRecDepth 100000
/-- the number that digits write -/
def valD (l : List UInt8) : Nat := l.foldl (fun a d => a * 10 + (d.toNat - 48)) 0
theorem valD_dec (u : Nat) : valD (decDigits u) = u := by
  induction u using Nat.strongRecOn with
  | _ u ih =>
    by_cases h : u < 10
    · rw [decDigits_one h]
      unfold valD
      simp only [List.foldl_cons, List.foldl_nil, UInt8.toNat_ofNat']
      omega
    · rw [decDigits, dif_neg h]
      have := ih (u / 10) (by omega)
      unfold valD at this ⊢
      rw [List.foldl_append, this]
      simp only [List.foldl_cons, List.foldl_nil, UInt8.toNat_ofNat']
      omega
theorem dec_inj {a b : Nat} (h : decDigits a = decDigits b) : a = b := by
  rw [← valD_dec a, ← valD_dec b, h]
theorem dec_plain (u : Nat) : ∀ d ∈ decDigits u, d ≠ 44 := by
  have base : ∀ x : Nat, x < 10 → UInt8.ofNat (48 + x) ≠ 44 := by
    intro x hx e
    have := congrArg UInt8.toNat e
    simp only [UInt8.toNat_ofNat'] at this
    have h2 : (44 : UInt8).toNat = 44 := rfl
    omega
  induction u using Nat.strongRecOn with
  | _ u ih =>
    intro d hd
    by_cases h : u < 10
    · rw [decDigits_one h, List.mem_singleton] at hd
      subst hd
      exact base u h
    · rw [decDigits, dif_neg h, List.mem_append, List.mem_singleton] at hd
      rcases hd with hd | rfl
      · exact ih _ (by omega) d hd
      · exact base _ (by omega)
theorem cut_sep {c : UInt8} : ∀ {l l' r r' : List UInt8}, (∀ x ∈ l, x ≠ c) → (∀ x ∈ l', x ≠ c) → l ++ c :: r = l' ++ c :: r' → l = l' ∧ r = r'
  | [], [], _, _, _, _, h => by simpa using h
  | [], x :: l', _, _, _, h2, h => by
    simp only [List.nil_append, List.cons_append, List.cons.injEq] at h
    exact absurd h.1.symm (h2 x (by simp))
  | x :: l, [], _, _, h1, _, h => by
    simp only [List.nil_append, List.cons_append, List.cons.injEq] at h
    exact absurd h.1 (h1 x (by simp))
  | x :: l, y :: l', _, _, h1, h2, h => by
    simp only [List.cons_append, List.cons.injEq] at h
    obtain ⟨e1, e2⟩ := cut_sep (fun z hz => h1 z (List.mem_cons_of_mem _ hz)) (fun z hz => h2 z (List.mem_cons_of_mem _ hz)) h.2
    exact ⟨by rw [h.1, e1], e2⟩
/-- indices as the program writes them -/
def encN (n : Nat) : List UInt8 := decDigits n ++ [44]
def encK (l : List Nat) : List UInt8 := l.flatMap encN
theorem encK_inj : ∀ {a b : List Nat}, encK a = encK b → a = b
  | [], [], _ => rfl
  | [], y :: b, h => by simp [encK, encN] at h
  | x :: a, [], h => by simp [encK, encN] at h
  | x :: a, y :: b, h => by
    simp only [encK, encN, List.flatMap_cons, List.append_assoc, List.cons_append, List.nil_append] at h
    obtain ⟨e1, e2⟩ := cut_sep (dec_plain x) (dec_plain y) h
    rw [dec_inj e1, encK_inj (a := a) (b := b) e2]
/-- js say where the trees ds stand in L -/
def IxAt (L : List Tr) (js : List Nat) (ds : List Tr) : Prop := js.map (fun j => L[j]?) = ds.map some
theorem IxAt.nil (L : List Tr) : IxAt L [] [] := rfl
theorem IxAt.len {L : List Tr} {js : List Nat} {ds : List Tr} (h : IxAt L js ds) : js.length = ds.length := by
  have := congrArg List.length h
  simpa using this
theorem IxAt.cons {L : List Tr} {j : Nat} {d : Tr} {js : List Nat} {ds : List Tr} : IxAt L (j :: js) (d :: ds) ↔ L[j]? = some d ∧ IxAt L js ds := by
  unfold IxAt
  simp
theorem IxAt.mono {L : List Tr} (X : List Tr) : ∀ {js : List Nat} {ds : List Tr}, IxAt L js ds → IxAt (L ++ X) js ds
  | [], [], _ => rfl
  | [], _ :: _, h => by simp [IxAt] at h
  | _ :: _, [], h => by simp [IxAt] at h
  | j :: js, d :: ds, h => by
    rw [IxAt.cons] at h ⊢
    have hlt := (List.getElem?_eq_some_iff.1 h.1).1
    exact ⟨by rw [List.getElem?_append_left hlt]; exact h.1, h.2.mono X⟩
theorem IxAt.inj {L : List Tr} (hn : L.Nodup) : ∀ {a b : List Nat} {ds : List Tr}, IxAt L a ds → IxAt L b ds → a = b
  | [], [], _, _, _ => rfl
  | [], _ :: _, ds, h, k => by have := h.len.trans k.len.symm; simp at this
  | _ :: _, [], ds, h, k => by have := h.len.trans k.len.symm; simp at this
  | x :: a, y :: b, [], h, _ => by simp [IxAt] at h
  | x :: a, y :: b, d :: ds, h, k => by
    rw [IxAt.cons] at h k
    obtain ⟨h1, h2⟩ := List.getElem?_eq_some_iff.1 h.1
    obtain ⟨k1, k2⟩ := List.getElem?_eq_some_iff.1 k.1
    rw [(List.getElem_inj hn).1 (h2.trans k2.symm), IxAt.inj hn h.2 k.2]
theorem some_map_inj : ∀ {a b : List Tr}, a.map some = b.map some → a = b
  | [], [], _ => rfl
  | [], _ :: _, h => by simp at h
  | _ :: _, [], h => by simp at h
  | x :: a, y :: b, h => by
    simp only [List.map_cons, List.cons.injEq, Option.some.injEq] at h
    rw [h.1, some_map_inj h.2]
theorem IxAt.det {L : List Tr} {js : List Nat} {ds es : List Tr} (h : IxAt L js ds) (k : IxAt L js es) : ds = es := some_map_inj (h.symm.trans k)
theorem IxAt.lt {L : List Tr} : ∀ {js : List Nat} {ds : List Tr}, IxAt L js ds → ∀ j ∈ js, j < L.length
  | [], _, _, _, h => by cases h
  | _ :: _, [], h, _, _ => by simp [IxAt] at h
  | x :: js, d :: ds, h, j, hj => by
    rw [IxAt.cons] at h
    rcases List.mem_cons.1 hj with rfl | hj
    · exact (List.getElem?_eq_some_iff.1 h.1).1
    · exact h.2.lt j hj
theorem IxAt.at {L : List Tr} : ∀ {js : List Nat} {ds : List Tr}, IxAt L js ds → ∀ i (h1 : i < js.length) (h2 : i < ds.length), L[js[i]]? = some ds[i]
  | [], _, _, _, h1, _ => absurd h1 (by simp)
  | _ :: _, [], h, _, _, _ => by simp [IxAt] at h
  | x :: js, d :: ds, h, 0, _, _ => (IxAt.cons.1 h).1
  | x :: js, d :: ds, h, i + 1, h1, h2 => (IxAt.cons.1 h).2.at i (by simpa using h1) (by simpa using h2)
theorem IxAt.two {L : List Tr} : ∀ {a : List Tr} {js : List Nat} {b : List Tr}, IxAt L js (a ++ b) → IxAt L (js.take a.length) a ∧ IxAt L (js.drop a.length) b
  | [], js, b, h => by simp at h ⊢; exact ⟨.nil L, h⟩
  | x :: a, [], b, h => by simp [IxAt] at h
  | x :: a, j :: js, b, h => by
    rw [List.cons_append, IxAt.cons] at h
    obtain ⟨h1, h2⟩ := IxAt.two h.2
    simp only [List.length_cons, List.take_succ_cons, List.drop_succ_cons]
    exact ⟨IxAt.cons.2 ⟨h.1, h1⟩, h2⟩
theorem IxAt.snoc {L : List Tr} : ∀ {js : List Nat} {ds : List Tr} {j : Nat} {d : Tr}, IxAt L js ds → L[j]? = some d → IxAt L (js ++ [j]) (ds ++ [d])
  | [], [], _, _, _, h => IxAt.cons.2 ⟨h, .nil L⟩
  | [], _ :: _, _, _, h, _ => by simp [IxAt] at h
  | _ :: _, [], _, _, h, _ => by simp [IxAt] at h
  | x :: js, e :: ds, j, d, h, k => by
    rw [IxAt.cons] at h
    exact IxAt.cons.2 ⟨h.1, h.2.snoc k⟩
/-- where a tree stands among others without twins -/
theorem place_one {L : List Tr} (hn : L.Nodup) {i j : Nat} {t : Tr} (hi : L[i]? = some t) (hj : L[j]? = some t) : i = j := by
  obtain ⟨h1, h2⟩ := List.getElem?_eq_some_iff.1 hi
  obtain ⟨k1, k2⟩ := List.getElem?_eq_some_iff.1 hj
  exact (List.getElem_inj hn).1 (h2.trans k2.symm)
theorem place_more {L : List Tr} (X : List Tr) {i : Nat} {t : Tr} (hi : L[i]? = some t) : (L ++ X)[i]? = some t := by
  rw [List.getElem?_append_left (List.getElem?_eq_some_iff.1 hi).1]; exact hi
open Classical in
noncomputable def addL (L : List Tr) (t : Tr) : List Tr := if t ∈ L then L else L ++ [t]
theorem addL_in {L : List Tr} {t : Tr} (h : t ∈ L) : addL L t = L := if_pos h
theorem addL_out {L : List Tr} {t : Tr} (h : t ∉ L) : addL L t = L ++ [t] := if_neg h
theorem addL_nodup {L : List Tr} (hn : L.Nodup) (t : Tr) : (addL L t).Nodup := by
  by_cases h : t ∈ L
  · rw [addL_in h]; exact hn
  · rw [addL_out h]
    exact List.nodup_append.2 ⟨hn, by simp, by
      intro a ha b hb
      rw [List.mem_singleton] at hb
      rintro rfl
      rw [hb] at ha
      exact h ha⟩
theorem addL_more (L : List Tr) (t : Tr) : ∃ X, addL L t = L ++ X := by
  by_cases h : t ∈ L
  · exact ⟨[], by rw [addL_in h]; simp⟩
  · exact ⟨[t], addL_out h⟩
theorem addL_len (L : List Tr) (t : Tr) : (addL L t).length ≤ L.length + 1 := by
  by_cases h : t ∈ L
  · rw [addL_in h]; omega
  · rw [addL_out h]; simp
theorem addL_mem (L : List Tr) (t : Tr) : t ∈ addL L t := by
  by_cases h : t ∈ L
  · rw [addL_in h]; exact h
  · rw [addL_out h]; simp
/-- what is held: the trees so far, and of what is whole and no kid yet, the trees; N bounds the trees -/
def Runs (N : Nat) : List (PT × Bool) → List Tr × List Tr → List Tr × List Tr → Prop
  | [], s, f => s = f
  | (_, true) :: es, s, f => Runs N es s f
  | (t, false) :: es, s, f => (s.1.length < N ∧ s.2.length ≤ N) ∧ t.sz ≤ 2000000 ∧ s.1.Nodup ∧ ∃ ds, s.2 = ds ++ t.ks.map PT.tr ∧ Runs N es (addL s.1 t.tr, ds ++ [t.tr]) f
theorem Runs.app {N : Nat} : ∀ {a b : List (PT × Bool)} {s m f : List Tr × List Tr}, Runs N a s m → Runs N b m f → Runs N (a ++ b) s f
  | [], b, s, m, f, h, k => by rw [Runs] at h; rw [h]; exact k
  | (t, true) :: a, b, s, m, f, h, k => by rw [Runs] at h; rw [List.cons_append, Runs]; exact Runs.app h k
  | (t, false) :: a, b, s, m, f, h, k => by
    rw [Runs] at h
    rw [List.cons_append, Runs]
    obtain ⟨h1, h2, h3, ds, h4, h5⟩ := h
    exact ⟨h1, h2, h3, ds, h4, Runs.app h5 k⟩
theorem kids_evs : ∀ l : List PT, l.length ≤ (l.flatMap PT.evs).length
  | [] => by simp
  | t :: l => by
    have := kids_evs l
    rw [List.flatMap_cons, List.length_append, t.evs_eq]
    simp only [List.length_cons]
    omega
def RunOk (N : Nat) (t : PT) : Prop := ∀ (L ds : List Tr), L.Nodup → L.length + t.evs.length ≤ N → ds.length + t.evs.length ≤ N → t.sz ≤ 2000000 → ∃ X, Runs N t.evs (L, ds) (L ++ X, ds ++ [t.tr]) ∧ (L ++ X).Nodup ∧ X.length ≤ t.evs.length ∧ t.tr ∈ L ++ X
theorem run_kids {N : Nat} : ∀ (l : List PT), (∀ k ∈ l, RunOk N k) → ∀ (L ds : List Tr), L.Nodup → L.length + (l.flatMap PT.evs).length ≤ N → ds.length + (l.flatMap PT.evs).length ≤ N → (∀ k ∈ l, k.sz ≤ 2000000) → ∃ X, Runs N (l.flatMap PT.evs) (L, ds) (L ++ X, ds ++ l.map PT.tr) ∧ (L ++ X).Nodup ∧ X.length ≤ (l.flatMap PT.evs).length
  | [], _, L, ds, hn, _, _, _ => ⟨[], by simp [Runs], by simpa using hn, by simp⟩
  | k :: l, hk, L, ds, hn, hl, hd, hz => by
    rw [List.flatMap_cons, List.length_append] at hl hd
    have hk1 : 1 ≤ k.evs.length := by rw [k.evs_eq]; simp
    obtain ⟨X, r1, n1, l1, _⟩ := hk k (by simp) L ds hn (by omega) (by omega) (hz k (by simp))
    obtain ⟨Y, r2, n2, l2⟩ := run_kids l (fun x hx => hk x (List.mem_cons_of_mem _ hx)) (L ++ X) (ds ++ [k.tr]) n1 (by rw [List.length_append]; omega) (by rw [List.length_append, List.length_singleton]; omega) (fun x hx => hz x (List.mem_cons_of_mem _ hx))
    rw [List.append_assoc] at r2 n2
    refine ⟨X ++ Y, ?_, n2, ?_⟩
    · rw [List.flatMap_cons]
      have := Runs.app r1 r2
      simpa using this
    · rw [List.flatMap_cons, List.length_append, List.length_append]; omega
theorem runOk_any {N : Nat} (m : Nat) : ∀ t : PT, t.sz ≤ m → RunOk N t := by
  induction m with
  | zero => intro t ht; have := t.sz_pos; omega
  | succ m ih =>
    intro t ht L ds hn hl hd hz
    have hk : ∀ k ∈ t.ks, RunOk N k := fun k hk => ih k (by have := PT.sz_kid hk; omega)
    have hke := kids_evs t.ks
    rw [t.evs_eq, List.length_cons, List.length_append, List.length_cons, List.length_nil] at hl hd
    obtain ⟨X, r1, n1, l1⟩ := run_kids t.ks hk L ds hn (by omega) (by omega) (fun k hk => by have := PT.sz_kid hk; omega)
    obtain ⟨Y, hY⟩ := addL_more (L ++ X) t.tr
    have hlen := addL_len (L ++ X) t.tr
    have hmem := addL_mem (L ++ X) t.tr
    have hnd := addL_nodup n1 t.tr
    rw [hY, List.append_assoc] at hmem hnd
    rw [hY] at hlen
    simp only [List.length_append] at hlen
    refine ⟨X ++ Y, ?_, hnd, ?_, hmem⟩
    · rw [t.evs_eq, Runs]
      refine Runs.app r1 ?_
      rw [Runs]
      refine ⟨⟨by simp only [List.length_append]; omega, by simp only [List.length_append, List.length_map]; omega⟩, hz, n1, ds, rfl, ?_⟩
      rw [Runs, hY, List.append_assoc]
    · rw [t.evs_eq, List.length_cons, List.length_append, List.length_append, List.length_cons, List.length_nil]; omega
end Go.Proofs.YtpkejcjjbkgomaaGreatDoor
namespace Go.Proofs.YtpkejcjjbkgomaaGreatDoor
open Go.ChangeShapes Go.WideShapes Go.ChangeAt Go.RowKit
set_option maxRecDepth 100000
/-- what a step leaves: only block R of the older ones may have changed -/
structure OnlyG (R : Nat) (w w' : World) : Prop where
  os : w'.os = w.os
  tape : w'.tape = w.tape
  output : w'.output = w.output
  size : w.heap.size ≤ w'.heap.size
  block : ∀ k, k < w.heap.size → k ≠ R → w'.heap[k]? = w.heap[k]?
theorem OnlyG.refl (R : Nat) (w : World) : OnlyG R w w := ⟨rfl, rfl, rfl, Nat.le_refl _, fun _ _ _ => rfl⟩
theorem OnlyG.trans {R : Nat} {a b c : World} (h : OnlyG R a b) (k : OnlyG R b c) : OnlyG R a c :=
  ⟨k.os.trans h.os, k.tape.trans h.tape, k.output.trans h.output, Nat.le_trans h.size k.size, fun j hj hR => (k.block j (Nat.lt_of_lt_of_le hj h.size) hR).trans (h.block j hj hR)⟩
theorem OnlyG.of_below {R : Nat} {w w' : World} (h : Below w.heap.size w w') : OnlyG R w w' := ⟨h.os, h.tape, h.output, h.size, fun k hk _ => h.block k hk⟩
theorem OnlyG.below {R : Nat} {w w' : World} (h : OnlyG R w w') (B : Nat) (hB : B ≤ R) (hs : B ≤ w.heap.size) : Below B w w' := ⟨h.os, h.tape, h.output, h.size, fun k hk => h.block k (by omega) (by omega)⟩
theorem OnlyG.cell {R : Nat} {w w' : World} (h : OnlyG R w w') {p : Addr} (hp : p.block < w.heap.size) (hR : p.block ≠ R) : w'.cell? p = w.cell? p := World.cell?_of_block (w := w) (h.block p.block hp hR)
/-- n cells from address a on -/
def RowV (w : World) (a : Option Addr) (n : Nat) (f : Nat → Value) : Prop := ∀ j, j < n → ∃ b off, a = some ⟨b, off, none⟩ ∧ b < w.heap.size ∧ w.cell? ⟨b, off + j, none⟩ = some (f j)
theorem RowV.keep {w w' : World} {a : Option Addr} {n : Nat} {f : Nat → Value} (h : RowV w a n f) (hs : w.heap.size ≤ w'.heap.size) (hk : ∀ b off, a = some ⟨b, off, none⟩ → b < w.heap.size → w'.heap[b]? = w.heap[b]?) : RowV w' a n f := fun j hj => by
  obtain ⟨b, off, e, hl, hc⟩ := h j hj
  exact ⟨b, off, e, Nat.lt_of_lt_of_le hl hs, (World.cell?_of_block (w := w) (hk b off e hl)).trans hc⟩
theorem RowV.below {w w' : World} {a : Option Addr} {n : Nat} {f : Nat → Value} (h : RowV w a n f) (hb : Below w.heap.size w w') : RowV w' a n f := h.keep hb.size fun b _ _ hl => hb.block b hl
theorem RowV.drew {w : World} {a : Option Addr} {n : Nat} {f : Nat → Value} (h : RowV w a n f) : RowV w.drew a n f := h
theorem RowV.congr {w : World} {a : Option Addr} {n : Nat} {f g : Nat → Value} (h : RowV w a n f) (hg : ∀ j, j < n → f j = g j) : RowV w a n g := fun j hj => by
  obtain ⟨b, off, e, hl, hc⟩ := h j hj
  exact ⟨b, off, e, hl, by rw [hc, hg j hj]⟩
theorem RowV.nil (w : World) (a : Option Addr) (f : Nat → Value) : RowV w a 0 f := fun _ hj => absurd hj (Nat.not_lt_zero _)
theorem RowV.of_row {w : World} {b n : Nat} {T : TypeId} {f : Nat → Value} (h : w.rowIs b T n f) : RowV w (some ⟨b, 0, none⟩) n f := fun j hj => ⟨b, 0, rfl, h.lt, by rw [Nat.zero_add, h.cell hj]⟩
/-- a row of n cells that may be marked: none, or the beginning of a block from B on and below U -/
def OwnG (T : TypeId) (w : World) (B U : Nat) (a : Option Addr) (n : Nat) : Prop := n = 0 ∨ ∃ b, B ≤ b ∧ b < U ∧ a = some ⟨b, 0, none⟩ ∧ ∃ cur : Array Value, w.heap[b]? = some (.cells cur T) ∧ n ≤ cur.size
theorem OwnG.keep {T : TypeId} {w w' : World} {B U : Nat} {a : Option Addr} {n : Nat} (h : OwnG T w B U a n) (hk : ∀ b, B ≤ b → b < U → b < w.heap.size → w'.heap[b]? = w.heap[b]?) : OwnG T w' B U a n := by
  rcases h with h | ⟨b, h1, h2, h3, cur, h4, h5⟩
  · exact .inl h
  · exact .inr ⟨b, h1, h2, h3, cur, (hk b h1 h2 (Array.getElem?_eq_some_iff.1 h4).1).trans h4, h5⟩
theorem OwnG.below {T : TypeId} {w w' : World} {B U : Nat} {a : Option Addr} {n : Nat} (h : OwnG T w B U a n) (hb : Below w.heap.size w w') : OwnG T w' B U a n := h.keep fun b _ _ hl => hb.block b hl
theorem OwnG.only {T : TypeId} {R : Nat} {w w' : World} {B U : Nat} {a : Option Addr} {n : Nat} (h : OwnG T w B U a n) (hb : OnlyG R w w') (hR : R < B ∨ U ≤ R) : OwnG T w' B U a n := h.keep fun b h1 h2 hl => hb.block b hl (by omega)
theorem OwnG.of_row {T : TypeId} {w : World} {b n B : Nat} {f : Nat → Value} (h : w.rowIs b T n f) (hB : B ≤ b) : OwnG T w B w.heap.size (some ⟨b, 0, none⟩) n := by
  obtain ⟨c, h1, h2, _⟩ := h
  exact .inr ⟨b, hB, (Array.getElem?_eq_some_iff.1 h1).1, rfl, c, h1, by omega⟩
/-- a slice of the call's own, as it lies -/
theorem owns_at {w : World} {B : Nat} {T : TypeId} {m : Nat} {v : Value} {n : Nat} {xs : List Value} (h : w.ownsRow B T m v n xs) : ∃ a cap, v = .slice a n cap ∧ n ≤ cap ∧ RowV w a (n * m) (fun j => xs.getD j undef) ∧ OwnG T w B w.heap.size a (n * m) := by
  rcases h.2 with ⟨rfl, h0⟩ | ⟨g, cap, cur, rfl, hg, hh, hlc, hm, hs, ht⟩
  · subst h0
    exact ⟨none, 0, rfl, Nat.le_refl _, by rw [Nat.zero_mul]; exact RowV.nil _ _ _, .inl (Nat.zero_mul _)⟩
  · have hlt := (Array.getElem?_eq_some_iff.1 hh).1
    have hle : n * m ≤ cur.size := by rw [hs]; exact Nat.mul_le_mul_right _ hlc
    refine ⟨_, cap, rfl, hlc, fun j hj => ⟨g, 0, rfl, hlt, ?_⟩, .inr ⟨g, hg, hlt, rfl, cur, hh, hle⟩⟩
    rw [cell_of_block hh (0 + j), Nat.zero_add]
    have e := congrArg (fun l => l[j]?) ht
    simp only [List.getElem?_take] at e
    rw [if_pos hj] at e
    have hx : j < xs.length := by rw [h.1]; exact hj
    rw [List.getElem?_eq_getElem hx] at e
    show cur[j]? = some (xs.getD j undef)
    rw [List.getD_eq_getElem?_getD, List.getElem?_eq_getElem hx]
    simpa using e
theorem owns_below {w w' : World} {B : Nat} {T : TypeId} {m : Nat} {v : Value} {n : Nat} {xs : List Value} (h : w.ownsRow B T m v n xs) (hb : Below w.heap.size w w') : w'.ownsRow B T m v n xs := by
  refine ⟨h.1, ?_⟩
  rcases h.2 with h0 | ⟨g, cap, cur, hv, hg, hh, hl, hm, hs, ht⟩
  · exact .inl h0
  · exact .inr ⟨g, cap, cur, hv, hg, by rw [hb.block g (Array.getElem?_eq_some_iff.1 hh).1]; exact hh, hl, hm, hs, ht⟩
/-- the digits of a number, none for 0 -/
def decG (k : Nat) : List UInt8 := if _h : k = 0 then [] else decG (k / 10) ++ [UInt8.ofNat (48 + k % 10)]
termination_by k
decreasing_by omega
theorem decG_len (k : Nat) : (decG k).length ≤ k := by
  induction k using Nat.strongRecOn with
  | ind k ih =>
    rw [decG]
    split
    · simp
    · have := ih (k / 10) (by omega)
      simp; omega
theorem decG_zero : decG 0 = [] := by rw [decG]; simp
theorem decG_pos {j : Nat} (h : 0 < j) : decG j = decG (j / 10) ++ [UInt8.ofNat (48 + j % 10)] := by
  rw [decG, dif_neg (by omega)]
def bsG (l : List UInt8) : ByteArray := ⟨l.toArray⟩
theorem bsG_size (l : List UInt8) : (bsG l).size = l.length := by simp [bsG, ByteArray.size]
def mB (k : Nat) : ByteArray := bsG (109 :: decG k)
theorem mB_size (k : Nat) : (mB k).size ≤ k + 1 := by unfold mB; rw [bsG_size]; have := decG_len k; simp; omega
theorem convG (c : UInt8) (w : World) : (convert 22 9 (.slice (some ⟨w.heap.size, 0, none⟩) 1 1)).run Tryz.prog (w.alloc (.cells #[.int .u8 (c.toNat : Int)] 5)) = .ok (.string ⟨#[c]⟩) (w.alloc (.cells #[.int .u8 (c.toNat : Int)] 5)) :=
  run_convert_bytes_back _ _ _ 5 ⟨w.heap.size, 0, none⟩ 1 [c] Tryz.underlying22 Tryz.underlying5 Tryz.underlying9 (fun j hj => by
    match j, hj with
    | 0, _ => simp [Addr.add])
theorem run_front {P : Program} (c : UInt8) (l : List UInt8) (h : l.length ≤ 5000000) (w : World) : (Op.stringOp .add ⟨#[c]⟩ (bsG l)).run P w = .ok (.string (bsG (c :: l))) w := by
  have e : (⟨#[c]⟩ : ByteArray) ++ bsG l = bsG (c :: l) := by
    apply ByteArray.ext
    rw [ByteArray.data_append]
    simp [bsG]
  have h63 : ¬ ((((⟨#[c]⟩ : ByteArray).size + (bsG l).size : Nat) : Int) > IntKind.i64.max) := by rw [bsG_size, show IntKind.i64.max = 9223372036854775807 from rfl]; simp [ByteArray.size]; omega
  simp only [Op.stringOp]
  rw [if_neg h63, e]
  rfl
/-- cell j of a row of structs whose fields are strings (true) or numbers (false), marked from k on -/
def mkC (ks : List Bool) (k j : Nat) : Value := if ks.getD (j % ks.length) false then .string (mB (k + j)) else .int .i64 ((k + j : Nat) : Int)
/-- the first q cells of block b hold the marks from k on, and no other block of w has changed -/
def MarkW (T : TypeId) (w w' : World) (b C q : Nat) (mk : Nat → Value) : Prop :=
  OnlyG b w w' ∧ ∃ cur : Array Value, w'.heap[b]? = some (.cells cur T) ∧ cur.size = C ∧ ∀ j, j < q → cur[j]? = some (mk j)
theorem MarkW.put {T : TypeId} {w w' : World} {b C q : Nat} {mk : Nat → Value} (h : MarkW T w w' b C q mk) (hq : q < C) {v : Value} (hv : mk q = v) : MarkW T w (w'.setCell ⟨b, q, none⟩ v) b C (q + 1) mk := by
  obtain ⟨h1, cur, h2, h3, h4⟩ := h
  refine ⟨h1.trans ⟨rfl, rfl, rfl, by simp [World.setCell], fun j _ hj => Below.heap_setCell _ _ _ _ hj⟩, cur.setIfInBounds q v, by simp [World.setCell, Array.getElem?_modify, h2], by simpa using h3, fun j hj => ?_⟩
  by_cases e : j = q
  · subst e
    rw [Array.getElem?_setIfInBounds_self, if_pos (by omega), hv]
  · rw [Array.getElem?_setIfInBounds_ne (fun h => e h.symm)]
    exact h4 j (by omega)
theorem MarkW.below {T : TypeId} {w w' u : World} {b C q : Nat} {mk : Nat → Value} (h : MarkW T w w' b C q mk) (hb : Below w'.heap.size w' u) : MarkW T w u b C q mk := by
  obtain ⟨h1, cur, h2, h3⟩ := h
  exact ⟨h1.trans (OnlyG.of_below hb), cur, by rw [hb.block b (Array.getElem?_eq_some_iff.1 h2).1]; exact h2, h3⟩
theorem MarkW.cell {T : TypeId} {w w' : World} {b C q : Nat} {mk : Nat → Value} (h : MarkW T w w' b C q mk) {j : Nat} (hj : j < C) : (∃ v, w'.cell? ⟨b, j, none⟩ = some v) ∧ w'.frozen? ⟨b, j, none⟩ = false := by
  obtain ⟨h1, cur, h2, h3, _⟩ := h
  refine ⟨⟨cur[j]'(by omega), ?_⟩, frozen_of_block h2 j⟩
  rw [cell_of_block h2 j]
  simp [h3 ▸ hj]
end Go.Proofs.YtpkejcjjbkgomaaGreatDoor
namespace Go.Proofs.YtpkejcjjbkgomaaGreatDoor
open Go.ChangeShapes Go.WideShapes Go.ChangeAt Go.RowKit
open Go.WideMaps (KeyLaw)
open Go.ChangeMaps (modify_eq_set)
open Classical
set_option maxRecDepth 100000
section
variable {P : Program} {k t e : TypeId} {w : World} {b : Nat} {F : Value → Option Value}
/-- block b is a map, and it holds just what F says -/
def MapF (P : Program) (k : TypeId) (w : World) (b : Nat) (F : Value → Option Value) : Prop :=
  ∃ es ck, w.heap[b]? = some (.map es ck) ∧ MapKept.Stamped es ck ∧ (∀ x ∈ es.toList, ∃ l, keyOf P k x.key = some l) ∧ ∀ x v, F x = some v ↔ ∃ y ∈ es.toList, y.key = x ∧ y.val = v
noncomputable def putF (F : Value → Option Value) (x v : Value) : Value → Option Value := fun y => if y = x then some v else F y
theorem putF_same (F : Value → Option Value) (x v : Value) : putF F x v x = some v := if_pos rfl
theorem putF_other (F : Value → Option Value) {x y : Value} (v : Value) (h : y ≠ x) : putF F x v y = F y := if_neg h
theorem MapF.lt (h : MapF P k w b F) : b < w.heap.size := by
  obtain ⟨es, ck, hb, _⟩ := h
  exact (Array.getElem?_eq_some_iff.1 hb).1
theorem MapF.keep {w' : World} (h : MapF P k w b F) (hk : w'.heap[b]? = w.heap[b]?) : MapF P k w' b F := by
  obtain ⟨es, ck, hb, h⟩ := h
  exact ⟨es, ck, hk.trans hb, h⟩
theorem MapF.below {w' : World} (h : MapF P k w b F) (hb : Below w.heap.size w w') : MapF P k w' b F := h.keep (hb.block b h.lt)
theorem MapF.made (w : World) : MapF P k (w.alloc (.map #[] 0)) w.heap.size (fun _ => none) :=
  ⟨#[], 0, (MapKept.heap_alloc w _).1, MapKept.stamped_empty 0, by simp, by simp⟩
theorem stamped_key {es : Array MapEntry} {ck : Nat} (h : MapKept.Stamped es ck) {x y : MapEntry} (hx : x ∈ es.toList) (hy : y ∈ es.toList) (he : x.key = y.key) : x = y := by
  have hp := ((MapKept.stamped_iff es ck).1 h).2.2
  obtain ⟨i, hi, rfl⟩ := List.getElem_of_mem hx
  obtain ⟨j, hj, rfl⟩ := List.getElem_of_mem hy
  rw [List.pairwise_iff_getElem] at hp
  rcases Nat.lt_trichotomy i j with h1 | h1 | h1
  · exact absurd he (hp i j hi hj h1)
  · subst h1; rfl
  · exact absurd he.symm (hp j i hj hi h1)
theorem MapF.find (h : MapF P k w b F) (K : KeyLaw P k) {x : Value} {l : Lit} (hx : keyOf P k x = some l) :
    ∃ es ck, w.heap[b]? = some (.map es ck) ∧ MapKept.Stamped es ck ∧ (∀ x ∈ es.toList, ∃ l, keyOf P k x.key = some l) ∧ (∀ x v, F x = some v ↔ ∃ y ∈ es.toList, y.key = x ∧ y.val = v) ∧
      ((F x = none ∧ (Instr.findKey k x es.toList).run P w = .ok none w ∧ ∀ y ∈ es.toList, y.key ≠ x) ∨ ∃ j y, F x = some y.val ∧ (Instr.findKey k x es.toList).run P w = .ok (some (j, y.val)) w ∧ es.toList[j]? = some y ∧ y.key = x) := by
  obtain ⟨es, ck, hb, hs, hk, hF⟩ := h
  refine ⟨es, ck, hb, hs, hk, hF, ?_⟩
  rcases K.find w hx es.toList hk with ⟨h1, h2⟩ | ⟨j, y, h1, h2, h3⟩
  · refine .inl ⟨?_, h1, h2⟩
    cases hf : F x with
    | none => rfl
    | some v =>
      obtain ⟨y, hy, e1, _⟩ := (hF x v).1 hf
      exact absurd e1 (h2 y hy)
  · exact .inr ⟨j, y, (hF x y.val).2 ⟨y, List.mem_of_getElem? h2, h3, rfl⟩, h1, h2, h3⟩
theorem MapF.lookup (h : MapF P k w b F) (K : KeyLaw P k) (ht : P.underlying t = some (.map k e)) {z : Value} (hz : (zeroValue e).run P w = .ok z w) {x : Value} {l : Lit} (hx : keyOf P k x = some l) :
    (Instr.lookup t (.map (some b)) x false).run P w = .ok ((F x).getD z) w := by
  obtain ⟨es, ck, hb, _, _, _, h | ⟨j, y, h0, h1, _⟩⟩ := h.find K hx
  · simp [Instr.lookup, run_underlying ht, MapKept.run_getObj_map hb, K.check w _ hx, h.1, h.2.1, hz]
  · simp [Instr.lookup, run_underlying ht, MapKept.run_getObj_map hb, K.check w _ hx, h0, h1]
theorem MapF.lookup2 (h : MapF P k w b F) (K : KeyLaw P k) (ht : P.underlying t = some (.map k e)) {z : Value} (hz : (zeroValue e).run P w = .ok z w) {x : Value} {l : Lit} (hx : keyOf P k x = some l) :
    (Instr.lookup t (.map (some b)) x true).run P w = .ok (.tuple #[(F x).getD z, .bool (F x).isSome]) w := by
  obtain ⟨es, ck, hb, _, _, _, h | ⟨j, y, h0, h1, _⟩⟩ := h.find K hx
  · simp [Instr.lookup, run_underlying ht, MapKept.run_getObj_map hb, K.check w _ hx, h.1, h.2.1, hz]
  · simp [Instr.lookup, run_underlying ht, MapKept.run_getObj_map hb, K.check w _ hx, h0, h1]
/-- the world with another map at block b -/
def setM (w : World) (b : Nat) (es : Array MapEntry) (ck : Nat) : World := { w with heap := w.heap.setIfInBounds b (.map es ck) }
theorem setM_only {es0 : Array MapEntry} {ck0 : Nat} (_ : w.heap[b]? = some (.map es0 ck0)) (es : Array MapEntry) (ck : Nat) : OnlyG b w (setM w b es ck) :=
  ⟨rfl, rfl, rfl, by simp [setM], fun j _ hR => by simp only [setM]; rw [Array.getElem?_setIfInBounds_ne (fun e => hR e.symm)]⟩
theorem setM_at {es0 : Array MapEntry} {ck0 : Nat} (hb : w.heap[b]? = some (.map es0 ck0)) (es : Array MapEntry) (ck : Nat) : (setM w b es ck).heap[b]? = some (.map es ck) := by
  have := (Array.getElem?_eq_some_iff.1 hb).1
  simp only [setM]
  rw [Array.getElem?_setIfInBounds_self, if_pos this]
theorem push_F {es : Array MapEntry} {ck : Nat} (hs : MapKept.Stamped es ck) (hk : ∀ x ∈ es.toList, ∃ l, keyOf P k x.key = some l) (hF : ∀ x v, F x = some v ↔ ∃ y ∈ es.toList, y.key = x ∧ y.val = v) {x v : Value} {l : Lit} (hx : keyOf P k x = some l) (hn : ∀ y ∈ es.toList, y.key ≠ x) :
    MapKept.Stamped (es.push ⟨x, v, ck⟩) (ck + 1) ∧ (∀ x' ∈ (es.push ⟨x, v, ck⟩).toList, ∃ l, keyOf P k x'.key = some l) ∧ ∀ x' v', putF F x v x' = some v' ↔ ∃ y ∈ (es.push ⟨x, v, ck⟩).toList, y.key = x' ∧ y.val = v' := by
  refine ⟨MapKept.stamped_push hs hn, fun y hy => ?_, fun x' v' => ?_⟩
  · rw [Array.toList_push, List.mem_append, List.mem_singleton] at hy
    rcases hy with hy | rfl
    · exact hk y hy
    · exact ⟨l, hx⟩
  · rw [Array.toList_push]
    simp only [List.mem_append, List.mem_singleton]
    by_cases e : x' = x
    · subst e
      rw [putF_same]
      constructor
      · intro h; cases h; exact ⟨_, .inr rfl, rfl, rfl⟩
      · rintro ⟨y, hy | rfl, e1, e2⟩
        · exact absurd e1 (hn y hy)
        · subst e2; rfl
    · rw [putF_other F v e, hF]
      constructor
      · rintro ⟨y, hy, h⟩; exact ⟨y, .inl hy, h⟩
      · rintro ⟨y, hy | rfl, e1, e2⟩
        · exact ⟨y, hy, e1, e2⟩
        · exact absurd e1.symm e
theorem modify_F {es : Array MapEntry} {ck : Nat} (hs : MapKept.Stamped es ck) (hk : ∀ x ∈ es.toList, ∃ l, keyOf P k x.key = some l) (hF : ∀ x v, F x = some v ↔ ∃ y ∈ es.toList, y.key = x ∧ y.val = v) {x v : Value} {j : Nat} {y : MapEntry} (hj : es.toList[j]? = some y) (hy : y.key = x) (f : MapEntry → MapEntry) (hf : f y = ⟨x, v, y.born⟩) (hf2 : ∀ z, (f z).born = z.born) :
    MapKept.Stamped (es.modify j f) ck ∧ (∀ x' ∈ (es.modify j f).toList, ∃ l, keyOf P k x'.key = some l) ∧ ∀ x' v', putF F x v x' = some v' ↔ ∃ z ∈ (es.modify j f).toList, z.key = x' ∧ z.val = v' := by
  have hl : (es.modify j f).toList = es.toList.set j ⟨x, v, y.born⟩ := by rw [Array.toList_modify, modify_eq_set _ _ _ _ hj, hf]
  have hjl : j < es.toList.length := (List.getElem?_eq_some_iff.1 hj).1
  have hyj : es.toList[j] = y := (List.getElem?_eq_some_iff.1 hj).2
  have hmem : ∀ z, z ∈ (es.modify j f).toList ↔ z = ⟨x, v, y.born⟩ ∨ (z ∈ es.toList ∧ z.key ≠ x) := by
    intro z
    rw [hl, List.mem_iff_getElem]
    constructor
    · rintro ⟨i, hi, rfl⟩
      rw [List.length_set] at hi
      by_cases e : j = i
      · subst e; left; simp
      · right
        rw [List.getElem_set_ne e]
        refine ⟨List.getElem_mem hi, fun e1 => e ?_⟩
        have hp := ((MapKept.stamped_iff es ck).1 hs).2.2
        rw [List.pairwise_iff_getElem] at hp
        rcases Nat.lt_trichotomy i j with h1 | h1 | h1
        · exact absurd (by rw [hyj]; rw [e1, hy]) (hp i j hi hjl h1)
        · exact h1.symm
        · exact absurd (by rw [hyj]; rw [e1, hy]) (hp j i hjl hi h1)
    · rintro (rfl | ⟨h1, h2⟩)
      · exact ⟨j, by simpa using hjl, by simp⟩
      · obtain ⟨i, hi, rfl⟩ := List.getElem_of_mem h1
        have e : j ≠ i := by
          rintro rfl
          exact h2 (by rw [hyj, hy])
        exact ⟨i, by simpa using hi, by rw [List.getElem_set_ne e]⟩
  refine ⟨MapKept.stamped_modify hs j f (fun z _ => hf2 z) (fun z _ hz => ?_), fun z hz => ?_, fun x' v' => ?_⟩
  · rw [← Array.getElem?_toList, hj] at hz
    cases hz
    rw [hf, hy]
  · rcases (hmem z).1 hz with rfl | h
    · obtain ⟨l, hl⟩ := hk y (List.mem_of_getElem? hj)
      exact ⟨l, by rw [← hl, hy]⟩
    · exact hk z h.1
  · by_cases e : x' = x
    · subst e
      rw [putF_same]
      constructor
      · intro h; cases h; exact ⟨_, (hmem _).2 (.inl rfl), rfl, rfl⟩
      · rintro ⟨z, hz, e1, e2⟩
        rcases (hmem z).1 hz with rfl | h
        · subst e2; rfl
        · exact absurd e1 h.2
    · rw [putF_other F v e, hF]
      constructor
      · rintro ⟨z, hz, e1, e2⟩; exact ⟨z, (hmem z).2 (.inr ⟨hz, by rw [e1]; exact e⟩), e1, e2⟩
      · rintro ⟨z, hz, e1, e2⟩
        rcases (hmem z).1 hz with rfl | h
        · exact absurd e1.symm e
        · exact ⟨z, h.1, e1, e2⟩
theorem MapF.update (h : MapF P k w b F) (K : KeyLaw P k) (ht : P.underlying t = some (.map k e)) {x : Value} {l : Lit} (hx : keyOf P k x = some l) (v : Value) :
    ∃ w', (Instr.mapUpdate t (.map (some b)) x v).run P w = .ok () w' ∧ MapF P k w' b (putF F x v) ∧ OnlyG b w w' ∧ w'.heap.size = w.heap.size := by
  obtain ⟨es, ck, hb, hs, hk, hF, ⟨_, h1, h2⟩ | ⟨j, y, _, h1, h2, h3⟩⟩ := h.find K hx
  · refine ⟨setM w b (es.push ⟨x, v, ck⟩) (ck + 1), ?_, ⟨_, _, setM_at hb _ _, push_F hs hk hF hx h2⟩, setM_only hb _ _, by simp [setM]⟩
    simp [Instr.mapUpdate, run_underlying ht, MapKept.run_getObj_map hb, K.check w false hx, h1, MapKept.run_setObj_map _ hb, setM]
  · have hj : es[j]? = some y := by simpa using h2
    refine ⟨setM w b (es.modify j fun z => { z with key := x, val := v }) ck, ?_, ⟨_, _, setM_at hb _ _, modify_F hs hk hF h2 h3 _ (by cases y; rfl) (fun _ => rfl)⟩, setM_only hb _ _, by simp [setM]⟩
    simp [Instr.mapUpdate, run_underlying ht, MapKept.run_getObj_map hb, K.check w false hx, h1, hj, h3, K.stays w hx, MapKept.run_setObj_map _ hb, setM]
theorem MapF.entry (h : MapF P k w b F) (K : KeyLaw P k) (ht : P.underlying t = some (.map k e)) {z : Value} (hz : ∀ u : World, (zeroValue e).run P u = .ok z u) {x : Value} {l : Lit} (hx : keyOf P k x = some l) :
    ∃ (st : Nat) (w1 : World), (Instr.mapEntry t (.map (some b)) x).run P w = .ok (.tuple #[(F x).getD z, .int .i64 st]) w1 ∧ MapF P k w1 b (putF F x ((F x).getD z)) ∧ OnlyG b w w1 ∧ w1.heap.size = w.heap.size ∧
      ∀ (w2 : World) (v : Value), w2.heap[b]? = w1.heap[b]? → ∃ w3, (Instr.entryStore t (.map (some b)) (.int .i64 st) v).run P w2 = .ok () w3 ∧ MapF P k w3 b (putF F x v) ∧ OnlyG b w2 w3 ∧ w3.heap.size = w2.heap.size := by
  obtain ⟨es, ck, hb, hs, hk, hF, ⟨h0, h1, h2⟩ | ⟨j, y, h0, h1, h2, h3⟩⟩ := h.find K hx
  · obtain ⟨s1, s2, _⟩ := (MapKept.stamped_iff es ck).1 hs
    refine ⟨ck, setM w b (es.push ⟨x, z, ck⟩) (ck + 1), ?_, ⟨_, _, setM_at hb _ _, by rw [h0]; exact push_F hs hk hF hx h2⟩, setM_only hb _ _, by simp [setM], fun w2 v hw2 => ?_⟩
    · simp [Instr.mapEntry, run_underlying ht, MapKept.run_getObj_map hb, K.check w false hx, h1, hz, h0, MapKept.run_setObj_map _ hb, setM, goInt]
    · rw [setM_at hb] at hw2
      have hidx : (es.push ⟨x, z, ck⟩).findIdx? (fun e => ((e.born : Nat) : Int) == ((ck : Nat) : Int)) = some es.size := by
        rw [WideElems.findIdx_arr]
        have := WideElems.findIdx_born (l := (es.push ⟨x, z, ck⟩).toList) (j := es.size) (e0 := ⟨x, z, ck⟩) (by
          simp only [Array.toList_push, List.map_append, List.map_cons, List.map_nil]
          refine List.nodup_append.2 ⟨s2, by simp, fun a ha c hc e1 => ?_⟩
          simp only [List.mem_singleton] at hc
          obtain ⟨x, hx, rfl⟩ := List.mem_map.1 ha
          have := s1 x hx
          omega) (by simp)
        exact this
      have hmod : (es.push ⟨x, z, ck⟩).modify es.size (fun e => { e with val := v }) = es.push ⟨x, v, ck⟩ := by
        apply Array.ext'
        rw [Array.toList_modify, Array.toList_push, Array.toList_push, ← Array.length_toList, WideElems.modify_last]
      refine ⟨setM w2 b (es.push ⟨x, v, ck⟩) (ck + 1), ?_, ⟨_, _, setM_at hw2 _ _, push_F hs hk hF hx h2⟩, setM_only hw2 _ _, by simp [setM]⟩
      simp [Instr.entryStore, MapKept.run_getObj_map hw2, asInt, asIntOf, hidx, hmod, MapKept.run_setObj_map _ hw2, setM]
  · obtain ⟨s1, s2, _⟩ := (MapKept.stamped_iff es ck).1 hs
    have hj : es[j]? = some y := by simpa using h2
    have hsame : es.modify j (fun e => { e with key := x }) = es := by
      apply Array.ext'
      rw [Array.toList_modify, modify_eq_set _ _ _ _ h2]
      have : ({ y with key := x } : MapEntry) = y := by rw [← h3]
      rw [this]
      exact WideElems.set_self _ _ _ h2
    have hput : ∀ x' v', putF F x y.val x' = some v' ↔ F x' = some v' := by
      intro x' v'
      by_cases e : x' = x
      · subst e; rw [putF_same, h0]
      · rw [putF_other F _ e]
    refine ⟨y.born, setM w b es ck, ?_, ⟨es, ck, setM_at hb _ _, hs, hk, fun x' v' => by rw [h0]; exact (hput x' v').trans (hF x' v')⟩, setM_only hb _ _, by simp [setM], fun w2 v hw2 => ?_⟩
    · simp [Instr.mapEntry, run_underlying ht, MapKept.run_getObj_map hb, K.check w false hx, h1, hj, h0, h3, K.stays w hx, hsame, MapKept.run_setObj_map _ hb, setM, goInt]
    · rw [setM_at hb] at hw2
      have hidx : es.findIdx? (fun e => ((e.born : Nat) : Int) == ((y.born : Nat) : Int)) = some j := by
        rw [WideElems.findIdx_arr]
        exact WideElems.findIdx_born s2 h2
      refine ⟨setM w2 b (es.modify j fun e => { e with val := v }) ck, ?_, ⟨_, _, setM_at hw2 _ _, modify_F hs hk hF h2 h3 _ (by rw [← h3]) (fun _ => rfl)⟩, setM_only hw2 _ _, by simp [setM]⟩
      simp [Instr.entryStore, MapKept.run_getObj_map hw2, asInt, asIntOf, hidx, MapKept.run_setObj_map _ hw2, setM]
end
end Go.Proofs.YtpkejcjjbkgomaaGreatDoor
namespace Go.Proofs.YtpkejcjjbkgomaaGreatDoor
open Go.ChangeShapes Go.WideShapes Go.ChangeAt Go.RowKit Go.Deep
open Go.WideMaps (KeyLaw)
set_option maxRecDepth 100000
/-- a node of the table: the tree, where its kids' numbers lie, and these -/
structure NE where
  t : Tr
  v : Value
  js : List Nat
def ylen (t : Tr) : Nat := (yieldL t).length
def Tr.ks : Tr → List Tr | .node _ _ ks => ks
def cellNE : NE → List Value | ⟨.node s r ks, v, _⟩ => [.string s, .int .i64 r, v, .int .i64 (ylen (.node s r ks) : Int)]
def keyT : Tr → List Nat → Value | .node s r _, js => .agg #[.string s, .int .i64 r, .string ⟨(encK js).toArray⟩]
def WfTr : Tr → Prop | .node s r ks => s.size ≤ maxLen ∧ (Lit.int .i64 r).wf = true ∧ ks.length ≤ 2000000
theorem cellNE_len (e : NE) : (cellNE e).length = 4 := by
  obtain ⟨t, v, js⟩ := e
  cases t; rfl
def flatN (E : List NE) : List Value := E.flatMap cellNE
theorem flatN_len (E : List NE) : (flatN E).length = E.length * 4 := by
  unfold flatN
  induction E with
  | nil => rfl
  | cons e E ih => rw [List.flatMap_cons, List.length_append, ih, cellNE_len, List.length_cons]; omega
theorem flatN_at : ∀ (E : List NE) (i : Nat) (h : i < E.length) (q : Nat), q < 4 → (flatN E)[i * 4 + q]? = (cellNE E[i])[q]?
  | e :: E, 0, _, q, hq => by
    show (cellNE e ++ flatN E)[0 * 4 + q]? = _
    rw [List.getElem?_append_left (by rw [cellNE_len]; omega)]
    simp
  | e :: E, i + 1, h, q, hq => by
    show (cellNE e ++ flatN E)[(i + 1) * 4 + q]? = _
    rw [List.getElem?_append_right (by rw [cellNE_len]; omega), cellNE_len, show (i + 1) * 4 + q - 4 = i * 4 + q from by omega]
    exact flatN_at E i (by simpa using h) q hq
/-- numbers that can be read, in a block of numbers -/
def KidR (w : World) (a : Option Addr) (js : List Nat) : Prop := RowV w a js.length (fun j => .int .i64 ((js.getD j 0 : Nat) : Int)) ∧ ∀ b off fr, a = some ⟨b, off, fr⟩ → ∃ c z, w.heap[b]? = some (.cells c 3 z)
def KidV (w : World) (S : List Nat) (v : Value) (js : List Nat) : Prop := ∃ a cap, v = .slice a js.length cap ∧ js.length ≤ cap ∧ KidR w a js ∧ ∀ b off fr, a = some ⟨b, off, fr⟩ → b ∈ S
theorem KidR.keep {w w' : World} {a : Option Addr} {js : List Nat} (h : KidR w a js) (hs : w.heap.size ≤ w'.heap.size) (hk : ∀ b off fr, a = some ⟨b, off, fr⟩ → b < w.heap.size → w'.heap[b]? = w.heap[b]?) : KidR w' a js := by
  refine ⟨h.1.keep hs (fun b off e hl => hk b off none e hl), fun b off fr e => ?_⟩
  obtain ⟨c, z, hc⟩ := h.2 b off fr e
  exact ⟨c, z, (hk b off fr e (Array.getElem?_eq_some_iff.1 hc).1).trans hc⟩
theorem KidR.lt {w : World} {a : Option Addr} {js : List Nat} (h : KidR w a js) {b off : Nat} {fr : Option Nat} (e : a = some ⟨b, off, fr⟩) : b < w.heap.size := by
  obtain ⟨c, z, hc⟩ := h.2 b off fr e
  exact (Array.getElem?_eq_some_iff.1 hc).1
theorem KidV.keep {w w' : World} {S S' : List Nat} {v : Value} {js : List Nat} (h : KidV w S v js) (hs : w.heap.size ≤ w'.heap.size) (hS : ∀ k, k ∈ S → k ∈ S') (hk : ∀ b, b ∈ S → (∃ c z, w.heap[b]? = some (.cells c 3 z)) → w'.heap[b]? = w.heap[b]?) : KidV w' S' v js := by
  obtain ⟨a, cap, e, hc, hr, hm⟩ := h
  exact ⟨a, cap, e, hc, hr.keep hs (fun b off fr ea _ => hk b (hm b off fr ea) (hr.2 b off fr ea)), fun b off fr ea => hS b (hm b off fr ea)⟩
/-- what the map says of the nodes -/
def tabF (E : List NE) (F : Value → Option Value) : Prop := ∀ x v, F x = some v ↔ ∃ i, ∃ h : i < E.length, x = keyT E[i].t E[i].js ∧ v = .int .i64 ((i : Nat) : Int)
/-- the table at tp, in blocks of S, holds the trees L -/
structure TabE (w : World) (S : List Nat) (tp mb : Nat) (nv : Value) (E : List NE) (F : Value → Option Value) : Prop where
  head : w.heap[tp]? = some (.cells #[nv, .map (some mb)] 130)
  hin : tp ∈ S
  min : mb ∈ S
  mp : MapF Tryz.prog 165 w mb F
  tf : tabF E F
  row : w.ownsRow 0 170 4 nv E.length (flatN E)
  rin : ∀ g, nv.ownBlock = some g → g ∈ S
  kids : ∀ e ∈ E, IxAt (E.map NE.t) e.js e.t.ks ∧ KidV w S e.v e.js ∧ WfTr e.t
  lt : ∀ k ∈ S, k < w.heap.size
def TabM (w : World) (S : List Nat) (tp : Nat) (L : List Tr) : Prop := ∃ mb nv E F, E.map NE.t = L ∧ TabE w S tp mb nv E F
theorem TabE.keep {w w' : World} {S : List Nat} {tp mb : Nat} {nv : Value} {E : List NE} {F : Value → Option Value} (h : TabE w S tp mb nv E F) (hs : w.heap.size ≤ w'.heap.size) (hk : ∀ k ∈ S, w'.heap[k]? = w.heap[k]?) : TabE w' S tp mb nv E F := by
  refine ⟨(hk _ h.hin).trans h.head, h.hin, h.min, h.mp.keep (hk _ h.min), h.tf, ?_, h.rin, fun e he => ⟨(h.kids e he).1, (h.kids e he).2.1.keep hs (fun _ hk => hk) (fun b hb _ => hk b hb), (h.kids e he).2.2⟩, fun k hk' => Nat.lt_of_lt_of_le (h.lt k hk') hs⟩
  refine ⟨h.row.1, ?_⟩
  rcases h.row.2 with h0 | ⟨g, cap, cur, hv, hg, hh, hr⟩
  · exact .inl h0
  · exact .inr ⟨g, cap, cur, hv, hg, (hk g (h.rin g (by rw [hv]; rfl))).trans hh, hr⟩
theorem TabM.keep {w w' : World} {S : List Nat} {tp : Nat} {L : List Tr} (h : TabM w S tp L) (hs : w.heap.size ≤ w'.heap.size) (hk : ∀ k ∈ S, w'.heap[k]? = w.heap[k]?) : TabM w' S tp L := by
  obtain ⟨mb, nv, E, F, e, h⟩ := h
  exact ⟨mb, nv, E, F, e, h.keep hs hk⟩
theorem TabM.lt {w : World} {S : List Nat} {tp : Nat} {L : List Tr} (h : TabM w S tp L) : ∀ k ∈ S, k < w.heap.size := by
  obtain ⟨mb, nv, E, F, e, h⟩ := h
  exact h.lt
theorem TabM.hin {w : World} {S : List Nat} {tp : Nat} {L : List Tr} (h : TabM w S tp L) : tp ∈ S := by
  obtain ⟨mb, nv, E, F, e, h⟩ := h
  exact h.hin
/-- a node's cells -/
theorem TabE.at {w : World} {S : List Nat} {tp mb : Nat} {nv : Value} {E : List NE} {F : Value → Option Value} (h : TabE w S tp mb nv E F) (hpos : 0 < E.length) : ∃ g cap, nv = .slice (some ⟨g, 0, none⟩) E.length cap ∧ E.length ≤ cap ∧ g ∈ S ∧ ∀ i (hi : i < E.length) q, q < 4 → w.cell? ⟨g, i * 4 + q, none⟩ = (cellNE E[i])[q]? := by
  rcases h.row.2 with ⟨_, h0⟩ | ⟨g, cap, cur, hv, hg, hh, hn, hm, hs, ht⟩
  · omega
  · refine ⟨g, cap, hv, hn, h.rin g (by rw [hv]; rfl), fun i hi q hq => ?_⟩
    rw [cell_of_block hh, ← flatN_at E i hi q hq, ← ht]
    show cur[i * 4 + q]? = (cur.toList.take (E.length * 4))[i * 4 + q]?
    rw [List.getElem?_take, if_pos (by omega), Array.getElem?_toList]
theorem node_law : KeyLaw Tryz.prog 165 := deep_law_laid (show laidOutB Tryz.prog = true by kernel_rfl) (m := 2) (by omega) (of_decide_eq_true (by kernel_rfl)) (by kernel_rfl) (by kernel_rfl)
theorem node_key (t : Tr) (js : List Nat) (h : WfTr t) (hj : (encK js).length ≤ maxLen) : ∃ l, keyOf Tryz.prog 165 (keyT t js) = some l := by
  obtain ⟨s, r, ks⟩ := t
  have hu := Tryz.underlying165
  have hk : Tryz.prog.keyType 165 = true := by kernel_rfl
  have hc : Tryz.prog.cellsOf 165 = 3 := by kernel_rfl
  have c3 : Tryz.prog.cellsOf 3 = 1 := by kernel_rfl
  have c9 : Tryz.prog.cellsOf 9 = 1 := by kernel_rfl
  have hf : (keyT (.node s r ks) js).formed Tryz.prog 165 = true := by simp [keyT, Value.formed, hu, hc]
  have hpos : 0 < Tryz.prog.types.size := of_decide_eq_true (by kernel_rfl)
  obtain ⟨m, hm⟩ : ∃ m, Tryz.prog.types.size = m + 1 := ⟨_, (Nat.succ_pred_eq_of_pos hpos).symm⟩
  unfold keyOf
  rw [hu, hk, hf, hm]
  have h1 := h.1
  have h2 := h.2.1
  have h3 : ByteArray.size ⟨(encK js).toArray⟩ ≤ maxLen := hj
  simp [keyT, Value.cells, Program.keyLits, hu, hc, c3, c9, Tryz.underlying3, Tryz.underlying9, h1, h2, h3]
theorem keyT_inj {a b : Tr} {js ks : List Nat} {L : List Tr} (h : keyT a js = keyT b ks) (ha : IxAt L js a.ks) (hb : IxAt L ks b.ks) : a = b := by
  obtain ⟨s, r, us⟩ := a; obtain ⟨s', r', vs⟩ := b
  simp [keyT] at h
  obtain ⟨rfl, rfl, h⟩ := h
  obtain rfl := encK_inj h
  rw [show us = vs from IxAt.det ha hb]
theorem keyT_same {t : Tr} {js ks : List Nat} {L : List Tr} (hn : L.Nodup) (ha : IxAt L js t.ks) (hb : IxAt L ks t.ks) : keyT t js = keyT t ks := by rw [IxAt.inj hn ha hb]
theorem encN_len (n : Nat) : (encN n).length ≤ n + 2 := by
  unfold encN
  have : ∀ u : Nat, (Go.Lib.decDigits u).length ≤ u + 1 := by
    intro u
    induction u using Nat.strongRecOn with
    | _ u ih =>
      by_cases h : u < 10
      · rw [Go.Lib.decDigits_one h]; simp
      · rw [Go.Lib.decDigits, dif_neg h, List.length_append]
        have := ih (u / 10) (by omega)
        simp
        omega
  rw [List.length_append]
  have := this n
  simp
  omega
end Go.Proofs.YtpkejcjjbkgomaaGreatDoor
namespace Go.Proofs.YtpkejcjjbkgomaaGreatDoor
open Go.ChangeShapes Go.WideShapes Go.ChangeAt Go.RowKit Go.Deep
set_option maxRecDepth 100000
def szTo (ks : List Tr) (i : Nat) : Nat := ((ks.take i).map Tr.sz).sum
theorem szTo_succ {ks : List Tr} {i : Nat} (h : i < ks.length) : szTo ks (i + 1) = szTo ks i + ks[i].sz := by
  unfold szTo
  rw [List.take_succ_eq_append_getElem h, List.map_append, List.sum_append]
  simp
theorem sum_take_le (l : List Nat) : ∀ i, (l.take i).sum ≤ l.sum := fun i => by
  have : l.sum = (l.take i).sum + (l.drop i).sum := by rw [← List.sum_append, List.take_append_drop]
  omega
theorem szTo_le {ks : List Tr} (i : Nat) : szTo ks i ≤ (ks.map Tr.sz).sum := by
  unfold szTo
  rw [List.map_take]
  exact sum_take_le _ i
end Go.Proofs.YtpkejcjjbkgomaaGreatDoor
namespace Go.Proofs.YtpkejcjjbkgomaaGreatDoor
open Go.ChangeShapes Go.WideShapes Go.ChangeAt Go.RowKit Go.Deep
set_option maxRecDepth 100000
theorem ylen_le (t : Tr) : ylen t ≤ t.sz := yield_len _ t (Nat.le_refl _)
def yTo (ks : List Tr) (i : Nat) : Nat := ((ks.take i).map ylen).sum
theorem yTo_succ {ks : List Tr} {i : Nat} (h : i < ks.length) : yTo ks (i + 1) = yTo ks i + ylen ks[i] := by
  unfold yTo
  rw [List.take_succ_eq_append_getElem h, List.map_append, List.sum_append]
  simp
theorem yTo_le {ks : List Tr} (i : Nat) : yTo ks i ≤ (ks.map Tr.sz).sum := by
  have h1 : yTo ks i ≤ (ks.map ylen).sum := by
    unfold yTo
    rw [List.map_take]
    exact sum_take_le _ i
  have h2 : ∀ l : List Tr, (l.map ylen).sum ≤ (l.map Tr.sz).sum := by
    intro l
    induction l with
    | nil => simp
    | cons x xs ih =>
      have := ylen_le x
      simp only [List.map_cons, List.sum_cons]
      omega
  have := h2 ks
  omega
theorem len_le_sum : ∀ ks : List Tr, ks.length ≤ (ks.map Tr.sz).sum
  | [] => by simp
  | x :: xs => by
    have h1 : 1 ≤ x.sz := by cases x; rw [Tr.sz]; omega
    have h2 := len_le_sum xs
    simp only [List.map_cons, List.sum_cons, List.length_cons]
    omega
theorem ylen_small {s : ByteArray} {r : Int} {ks : List Tr} (h : isSmallS s = true) : ylen (.node s r ks) = s.size := by
  unfold ylen
  rw [yieldL, if_pos h]
  exact Array.length_toList
theorem ylen_else {s : ByteArray} {r : Int} {ks : List Tr} (h : isSmallS s = false) : ylen (.node s r ks) = yTo ks ks.length := by
  unfold ylen yTo
  rw [yieldL, if_neg (by rw [h]; simp), List.take_length, List.length_flatMap]
  rfl
theorem IxAt.entry {E : List NE} {js : List Nat} {ks : List Tr} (h : IxAt (E.map NE.t) js ks) (i : Nat) (hi : i < ks.length) : ∃ h2 : js.getD i 0 < E.length, (E[js.getD i 0]).t = ks[i] := by
  have hl := h.len
  have h1 := h.at i (by omega) hi
  have e : js.getD i 0 = js[i]'(by omega) := by rw [List.getD_eq_getElem?_getD, List.getElem?_eq_getElem (by omega)]; rfl
  rw [e]
  rw [List.getElem?_map] at h1
  cases hx : E[js[i]'(by omega)]? with
  | none => rw [hx] at h1; simp at h1
  | some x =>
    rw [hx] at h1
    obtain ⟨h2, h3⟩ := List.getElem?_eq_some_iff.1 hx
    refine ⟨h2, ?_⟩
    rw [h3]
    simpa using h1
theorem cellNE_long {e : NE} : (cellNE e)[3]? = some (.int .i64 (ylen e.t : Int)) := by
  obtain ⟨⟨s, r, ks⟩, v, js⟩ := e
  rfl
/-- what longOf reads of the table -/
def LongR (w : World) (tp : Nat) (E : List NE) : Prop := 0 < E.length → ∃ g cp, w.cell? ⟨tp, 0, none⟩ = some (.slice (some ⟨g, 0, none⟩) E.length cp) ∧ ∀ i (hi : i < E.length), w.cell? ⟨g, i * 4 + 3, none⟩ = some (.int .i64 (ylen E[i].t : Int))
theorem TabE.long {w w' : World} {S : List Nat} {tp mb : Nat} {nv : Value} {E : List NE} {F : Value → Option Value} (h : TabE w S tp mb nv E F) (hk : ∀ k ∈ S, k ≠ mb → w'.heap[k]? = w.heap[k]?) : LongR w' tp E := fun hpos => by
  have hm : ∀ {k c t z}, w.heap[k]? = some (.cells c t z) → k ≠ mb := fun {k c t z} hc e => by
    obtain ⟨es, ck, hb, _⟩ := h.mp
    rw [e, hb] at hc
    cases hc
  have htp := h.head
  rcases h.row.2 with ⟨_, h0⟩ | ⟨g, cap, cur, rfl, hg, hh, hr⟩
  · omega
  · obtain ⟨g', cap', e, _, hgS, hc⟩ := h.at hpos
    simp only [Value.slice.injEq, Option.some.injEq, Addr.mk.injEq, true_and, and_true] at e
    obtain ⟨rfl, rfl⟩ := e
    refine ⟨g, cap, ?_, fun i hi => ?_⟩
    · rw [World.cell?_of_block (w := w) (a := ⟨tp, 0, none⟩) (hk tp h.hin (hm htp)), cell_of_block htp]; rfl
    · rw [World.cell?_of_block (w := w) (a := ⟨g, i * 4 + 3, none⟩) (hk g hgS (hm hh)), hc i hi 3 (by omega), cellNE_long]
theorem LongR.below {w w' : World} {tp : Nat} {E : List NE} (h : LongR w tp E) (hb : Below w.heap.size w w') : LongR w' tp E := fun hpos => by
  obtain ⟨g, cp, h1, h2⟩ := h hpos
  exact ⟨g, cp, by rw [hb.cell (p := ⟨tp, 0, none⟩) (World.block_lt_of_cell? _ _ h1)]; exact h1, fun i hi => by rw [hb.cell (p := ⟨g, i * 4 + 3, none⟩) (World.block_lt_of_cell? _ _ (h2 i hi))]; exact h2 i hi⟩
set_option maxHeartbeats 2000000 in
theorem longOf_any (s : ByteArray) (r : Int) (ks : List Tr) (w : World) (tp : Nat) (E : List NE) (H : LongR w tp E) (a : Option Addr) (cap : Nat) (js : List Nat) (HK : KidR w a js)
    (hix : IxAt (E.map NE.t) js ks) (hz : (Tr.node s r ks).sz ≤ 5000000) :
    Calls Tryz.prog 99 #[.pointer (some ⟨tp, 0, none⟩), .string s, .slice a js.length cap] w fun e w' => e = .returned (.int .i64 (ylen (.node s r ks) : Int)) ∧ w' = w := by
  have hlen := hix.len
  rw [Tr.sz] at hz
  cases hsm : isSmallS s with
  | true =>
    have HY := Lib.hid (ylen_small (r := r) (ks := ks) hsm)
    go_enter Tryz.func99, Tryz.ntmps99
    go_wp2_with (go_at_call 25; refine (signSmall_any _ _).mono ?_; rintro e w' ⟨rfl, rfl⟩; rw [hsm])
    go_ret
    exact ⟨by rw [HY.out]; rfl, rfl⟩
  | false =>
    have HY := Lib.hid (ylen_else (r := r) (ks := ks) hsm)
    have hkl : ks.length ≤ 5000000 := by have := len_le_sum ks; omega
    have HIX := Lib.hid hix
    have HH := Lib.hid H
    have HL := Lib.hid hlen
    have hjl : js.length ≤ 5000000 := by omega
    clear hix H hlen
    go_enter Tryz.func99, Tryz.ntmps99
    go_wp2_with (go_at_call 25; refine (signSmall_any _ _).mono ?_; rintro e w' ⟨rfl, rfl⟩; rw [hsm])
    go_loopg [7, 16] (js.length + 1) (fun gk nv iv wr => ∃ i : Nat, gk = js.length + 1 - i ∧ i ≤ js.length ∧ iv = .int .i64 (i : Int) ∧ nv = .int .i64 ((yTo ks i : Nat) : Int) ∧ w = wr)
    case atStart => exact ⟨0, rfl, Nat.zero_le _, rfl, by simp [yTo], rfl⟩
    case round =>
      obtain ⟨i, hgk, hi, rfl, rfl, rfl⟩ := hrel
      have HG := Lib.hid hgk
      clear hgk
      by_cases hlt : i < js.length
      · have hil : (i : Int) < (js.length : Int) := by omega
        have hik : i < ks.length := by have := HL.out; omega
        obtain ⟨b, off, rfl, _, hc⟩ := HK.1 i hlt
        obtain ⟨h2, h3⟩ := HIX.out.entry i hik
        obtain ⟨g, cp, k0, hcell⟩ := HH.out (by omega)
        have k3 := hcell (js.getD i 0) h2
        rw [h3] at k3
        have hms := yTo_succ hik
        have hm2 := yTo_le (ks := ks) (i + 1)
        have hkm : yTo ks i + ylen ks[i] ≤ 5000000 := by omega
        have HMS := Lib.hid hms
        have hjE : ((js.getD i 0 : Nat) : Int) < (E.length : Int) := by omega
        have hj0 : (0 : Int) ≤ ((js.getD i 0 : Nat) : Int) := by omega
        clear hms hm2 hcell h3 hz
        have ej : js.getD i 0 = js[i] := by rw [List.getD_eq_getElem?_getD, List.getElem?_eq_getElem hlt]; rfl
        have hc' : w.cell? ⟨b, off + i, none⟩ = some (.int .i64 ((js[i] : Nat) : Int)) := by rw [← ej]; exact hc
        rw [ej] at k3 hjE hj0 h2
        clear hc ej
        generalize js[i] = j at *
        go_wp2_with fail
        go_roundg (js.length + 1 - (i + 1))
        case measure => have := HG.out; omega
        case rel => exact ⟨i + 1, rfl, by omega, by go_num, by rw [HMS.out]; go_num, rfl⟩
      · have hil : ¬ (i : Int) < (js.length : Int) := by omega
        have HI : Hid (i = ks.length) := by show _ = _; have := HL.out; omega
        go_wp2_with fail
        go_ret
        exact ⟨by rw [HY.out, ← HI.out]; rfl, rfl⟩
theorem makeN (W : World) : (Instr.makeMap 127 none).run Tryz.prog W = .ok (.map (some W.heap.size)) (W.alloc (.map #[] 0)) := by simp [Instr.makeMap]
theorem newNodeTable_any (w : World) :
    Calls Tryz.prog 38 #[] w fun e w' => e = .returned (.pointer (some ⟨w.heap.size + 1, 0, none⟩)) ∧ TabM w' [w.heap.size, w.heap.size + 1] (w.heap.size + 1) [] ∧ Below w.heap.size w w' := by
  have hmk := makeN
  have hb2 := ((Below.refl w.heap.size w).alloc (Nat.le_refl _) (.map #[] 0)).alloc (by simp) (.cells #[.slice none 0 0, .map (some w.heap.size)] 130)
  have h1 : ((w.alloc (.map #[] 0)).alloc (.cells #[.slice none 0 0, .map (some w.heap.size)] 130)).heap[w.heap.size + 1]? = some (.cells #[.slice none 0 0, .map (some w.heap.size)] 130) := blk_new _ _ (by simp)
  have h2 : MapF Tryz.prog 165 ((w.alloc (.map #[] 0)).alloc (.cells #[.slice none 0 0, .map (some w.heap.size)] 130)) w.heap.size (fun _ => none) := (MapF.made w).keep (blk_old _ _ (by simp))
  have HT : Hid (TabM ((w.alloc (.map #[] 0)).alloc (.cells #[.slice none 0 0, .map (some w.heap.size)] 130)) [w.heap.size, w.heap.size + 1] (w.heap.size + 1) []) :=
    ⟨w.heap.size, .slice none 0 0, [], fun _ => none, rfl, h1, by simp, by simp, h2, (by
      intro x v
      constructor
      · intro h; cases h
      · rintro ⟨i, h, _⟩
        exact absurd h (by simp)), ⟨rfl, .inl ⟨rfl, rfl⟩⟩, by simp [Value.ownBlock], by simp, fun k hk => by simp at hk; simp; omega⟩
  clear h1 h2
  go_enter Tryz.func38, Tryz.ntmps38
  go_wp2_with fail
  go_ret
  exact ⟨by simp, HT.out, hb2⟩
end Go.Proofs.YtpkejcjjbkgomaaGreatDoor
namespace Go.Proofs.YtpkejcjjbkgomaaGreatDoor
open Go.Shelf Go.RowKit
def laysM176_ren : Go.Shelf.Ren := ⟨fun | 176 => 97 | 249 => 125 | 288 => 152 | 283 => 148 | 284 => 149 | 285 => 150 | 286 => 151 | 129 => 172 | 317 => 171 | 318 => 173 | 319 => 174 | 320 => 175 | 337 => 185 | 338 => 162 | n => n, fun | 37 => 22 | 2 => 2 | 3 => 3 | 53 => 179 | 4 => 4 | 9 => 9 | 171 => 266 | 0 => 0 | 173 => 269 | 212 => 291 | 51 => 292 | 5 => 5 | 20 => 20 | 213 => 293 | 46 => 261 | 232 => 312 | 233 => 304 | n => n, fun | 17 => 4 | 18 => 7 | 19 => 6 | n => n⟩
theorem laysM176 : Go.Proofs.LaysM.n176 Tryz.prog laysM176_ren := {
  mixed := by kernel_rfl
  f129 := Tryz.func172.trans (congrArg some (by kernel_rfl))
  f176 := Tryz.func97.trans (congrArg some (by kernel_rfl))
  f249 := Tryz.func125.trans (congrArg some (by kernel_rfl))
  f283 := Tryz.func148.trans (congrArg some (by kernel_rfl))
  f284 := Tryz.func149.trans (congrArg some (by kernel_rfl))
  f285 := Tryz.func150.trans (congrArg some (by kernel_rfl))
  f286 := Tryz.func151.trans (congrArg some (by kernel_rfl))
  f288 := Tryz.func152.trans (congrArg some (by kernel_rfl))
  f317 := Tryz.func171.trans (congrArg some (by kernel_rfl))
  f318 := Tryz.func173.trans (congrArg some (by kernel_rfl))
  f319 := Tryz.func174.trans (congrArg some (by kernel_rfl))
  f320 := Tryz.func175.trans (congrArg some (by kernel_rfl))
  f337 := Tryz.func185.trans (congrArg some (by kernel_rfl))
  f338 := Tryz.func162.trans (congrArg some (by kernel_rfl))
  t0 := Tryz.underlying0
  a0 := Tryz.isAgg0
  z0 := Tryz.sizeOf0
  v0 := Tryz.zeroValue0
  t2 := Tryz.underlying2
  a2 := Tryz.isAgg2
  z2 := Tryz.sizeOf2
  v2 := Tryz.zeroValue2
  t3 := Tryz.underlying3
  a3 := Tryz.isAgg3
  z3 := Tryz.sizeOf3
  v3 := Tryz.zeroValue3
  t4 := Tryz.underlying4
  a4 := Tryz.isAgg4
  z4 := Tryz.sizeOf4
  v4 := Tryz.zeroValue4
  t5 := Tryz.underlying5
  a5 := Tryz.isAgg5
  z5 := Tryz.sizeOf5
  v5 := Tryz.zeroValue5
  t9 := Tryz.underlying9
  a9 := Tryz.isAgg9
  z9 := Tryz.sizeOf9
  v9 := Tryz.zeroValue9
  t20 := Tryz.underlying20
  a20 := Tryz.isAgg20
  z20 := Tryz.sizeOf20
  v20 := Tryz.zeroValue20
  t37 := Tryz.underlying22
  a37 := Tryz.isAgg22
  z37 := Tryz.sizeOf22
  v37 := Tryz.zeroValue22
  t46 := Tryz.underlying261
  a46 := Tryz.isAgg261
  z46 := Tryz.sizeOf261
  v46 := Tryz.zeroValue261
  t51 := Tryz.underlying292
  a51 := Tryz.isAgg292
  z51 := Tryz.sizeOf292
  v51 := Tryz.zeroValue292
  t53 := Tryz.underlying179
  a53 := Tryz.isAgg179
  z53 := Tryz.sizeOf179
  v53 := Tryz.zeroValue179
  t171 := Tryz.underlying266
  a171 := Tryz.isAgg266
  z171 := Tryz.sizeOf266
  v171 := Tryz.zeroValue266
  t173 := Tryz.underlying269
  a173 := Tryz.isAgg269
  z173 := Tryz.sizeOf269
  v173 := Tryz.zeroValue269
  t212 := Tryz.underlying291
  a212 := Tryz.isAgg291
  z212 := Tryz.sizeOf291
  v212 := Tryz.zeroValue291
  t213 := Tryz.underlying293
  a213 := Tryz.isAgg293
  z213 := Tryz.sizeOf293
  t232 := Tryz.underlying312
  a232 := Tryz.isAgg312
  z232 := Tryz.sizeOf312
  v232 := Tryz.zeroValue312
  t233 := Tryz.underlying304
  a233 := Tryz.isAgg304
  z233 := Tryz.sizeOf304
  v233 := Tryz.zeroValue304
  g17 := by kernel_rfl
  g18 := by kernel_rfl
  g19 := by kernel_rfl
  i0 := by kernel_rfl
  i2 := by kernel_rfl
  i3 := by kernel_rfl
  i4 := by kernel_rfl
  i5 := by kernel_rfl
  i9 := by kernel_rfl
  i20 := by kernel_rfl
  i37 := by kernel_rfl
  i46 := by kernel_rfl
  i51 := by kernel_rfl
  i53 := by kernel_rfl
  i171 := by kernel_rfl
  i173 := by kernel_rfl
  i212 := by kernel_rfl
  i232 := by kernel_rfl
  i233 := by kernel_rfl
  m17 := by kernel_rfl
  m18 := by kernel_rfl
  m19 := by kernel_rfl }
def laysNm215_ren : Go.Shelf.Ren := ⟨fun | 15 => 98 | n => n, fun | 22 => 54 | 3 => 3 | 4 => 4 | n => n, fun n => n⟩
theorem laysNm215 : Go.Proofs.Lays2.n15 Tryz.prog laysNm215_ren := {
  mixed := by kernel_rfl
  f15 := Tryz.func98.trans (congrArg some (by kernel_rfl))
  t3 := Tryz.underlying3
  a3 := Tryz.isAgg3
  z3 := Tryz.sizeOf3
  v3 := Tryz.zeroValue3
  t4 := Tryz.underlying4
  a4 := Tryz.isAgg4
  z4 := Tryz.sizeOf4
  v4 := Tryz.zeroValue4
  t22 := Tryz.underlying54
  a22 := Tryz.isAgg54
  z22 := Tryz.sizeOf54
  v22 := Tryz.zeroValue54
  i3 := by kernel_rfl }
/-- the table of powers of ten lies below block B and stands as it is -/
def PowB (B : Nat) (w : World) : Prop := ∀ name, Tryz.prog.globalNamed name = some 4 → Lib.TabBelow Tryz.prog B w name .u64 Lib.pow10Tab
theorem PowB.on {B : Nat} {w w' : World} (h : PowB B w) (hb : Below B w w') : PowB B w' := fun name e => (h name e).on hb
theorem PowB.up {B B' : Nat} {w : World} (h : PowB B w) (hB : B ≤ B') : PowB B' w := fun name e w' hb => h name e w' (hb.mono hB)
theorem appendInt_any (B n : Nat) (i : Int) (h0 : -9223372036854775808 ≤ i) (h1 : i ≤ 9223372036854775807) (sv : Value) (xs : List Value) (w : World) (hown : w.ownsRow B 5 1 sv n xs) (hBw : B ≤ w.heap.size) (hlim : n + 21 ≤ 140737488355328) (hp : PowB B w) :
    Calls Tryz.prog 97 #[sv, .int .i64 i, .int .i64 10] w fun e w' => ∃ v', e = .returned v' ∧ w'.ownsRow B 5 1 v' (n + (Lib.itoa i).length) (xs ++ Lib.byteCells (Lib.itoa i)) ∧ Below B w w' :=
  (Any.strconv_AppendInt_10 laysM176 B n i h0 h1 sv xs w hown hBw hlim (hp _ laysM176.m17)).mono fun _ _ ⟨v, h1, h2, h3, _⟩ => ⟨v, h1, h2, h3⟩
theorem clone_any (b off n c : Nat) (zs : List Int) (w : World) (hz : n ≤ zs.length) (hbig : n * 8 ≤ 140737488355328) (hc : ∀ j, j < zs.length → w.cell? ⟨b, off + j, none⟩ = some (.int .i64 (zs.getD j 0))) :
    Calls Tryz.prog 98 #[.slice (some ⟨b, off, none⟩) n c] w fun e w' => ∃ v', e = .returned v' ∧ w'.ownsRow w.heap.size 3 1 v' n ((zs.take n).map (Value.int .i64)) ∧ v' ≠ .slice none 0 0 ∧ Below w.heap.size w w' := Any.slices_Clone_int laysNm215 b off n c zs w hz hbig hc
theorem clone_nil (n c : Nat) (w : World) :
    Calls Tryz.prog 98 #[.slice none n c] w fun e w' => e = .returned (.slice none 0 0) ∧ w' = w := Any.slices_Clone_int_nil laysNm215 n c w
end Go.Proofs.YtpkejcjjbkgomaaGreatDoor
