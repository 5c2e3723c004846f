/- The small signs of a tree. -/
import Derived.Test.YtpkejcjjbkgomaaGreatDoorPtA
import Derived.Lib.ItoaMem
import Derived.Test.YtpkejcjjbkgomaaGreatDoorBox
import Derived.Maps.AppendAt
namespace Go.Proofs.YtpkejcjjbkgomaaGreatDoor
set_option maxRecDepth 100000
/-- the small signs of a tree -/
def yieldL : Tr → List UInt8
  | .node s _ ks => if isSmallS s = true then s.data.toList else ks.flatMap yieldL
theorem yield_len (m : Nat) : ∀ (T : Tr), T.sz ≤ m → (yieldL T).length ≤ T.sz := by
  induction m with
  | zero =>
    intro T hT
    cases T with
    | node s r ks => rw [Tr.sz] at hT; omega
  | succ m ih =>
    intro T hT
    cases T with
    | node s r ks =>
      have hk : ∀ k ∈ ks, (yieldL k).length ≤ k.sz := fun k hk => ih k (by have := Tr.sz_kid (s := s) (r := r) hk; omega)
      rw [yieldL, Tr.sz]
      split
      · rename_i hs
        have : s.size = 1 := by unfold isSmallS at hs; simp at hs; exact hs.1
        show s.data.toList.length ≤ _
        rw [Array.length_toList, show s.data.size = s.size from rfl, this]; omega
      · have : ∀ l : List Tr, (∀ k ∈ l, (yieldL k).length ≤ k.sz) → (l.flatMap yieldL).length ≤ (l.map Tr.sz).sum := by
          intro l
          induction l with
          | nil => intro _; simp
          | cons x xs ih2 =>
            intro h
            have h1 := h x (List.mem_cons_self ..)
            have h2 := ih2 (fun k hk => h k (List.mem_cons_of_mem _ hk))
            simp only [List.flatMap_cons, List.length_append, List.map_cons, List.sum_cons]
            omega
        have := this ks hk
        omega
end Go.Proofs.YtpkejcjjbkgomaaGreatDoor
namespace Go.Proofs.YtpkejcjjbkgomaaGreatDoor
open Go.Lib
set_option maxRecDepth 100000
/-- the number that digits write -/
def valD (l : List UInt8) : Nat := l.foldl (fun a d => a * 10 + (d.toNat - 48)) 0
theorem valD_dec (u : Nat) : valD (decDigits u) = u := by
  induction u using Nat.strongRecOn with
  | _ u ih =>
    by_cases h : u < 10
    · rw [decDigits_one h]
      unfold valD
      simp only [List.foldl_cons, List.foldl_nil, UInt8.toNat_ofNat']
      omega
    · rw [decDigits, dif_neg h]
      have := ih (u / 10) (by omega)
      unfold valD at this ⊢
      rw [List.foldl_append, this]
      simp only [List.foldl_cons, List.foldl_nil, UInt8.toNat_ofNat']
      omega
theorem dec_inj {a b : Nat} (h : decDigits a = decDigits b) : a = b := by
  rw [← valD_dec a, ← valD_dec b, h]
theorem dec_plain (u : Nat) : ∀ d ∈ decDigits u, d ≠ 44 := by
  have base : ∀ x : Nat, x < 10 → UInt8.ofNat (48 + x) ≠ 44 := by
    intro x hx e
    have := congrArg UInt8.toNat e
    simp only [UInt8.toNat_ofNat'] at this
    have h2 : (44 : UInt8).toNat = 44 := rfl
    omega
  induction u using Nat.strongRecOn with
  | _ u ih =>
    intro d hd
    by_cases h : u < 10
    · rw [decDigits_one h, List.mem_singleton] at hd
      subst hd
      exact base u h
    · rw [decDigits, dif_neg h, List.mem_append, List.mem_singleton] at hd
      rcases hd with hd | rfl
      · exact ih _ (by omega) d hd
      · exact base _ (by omega)
theorem cut_sep {c : UInt8} : ∀ {l l' r r' : List UInt8}, (∀ x ∈ l, x ≠ c) → (∀ x ∈ l', x ≠ c) → l ++ c :: r = l' ++ c :: r' → l = l' ∧ r = r'
  | [], [], _, _, _, _, h => by simpa using h
  | [], x :: l', _, _, _, h2, h => by
    simp only [List.nil_append, List.cons_append, List.cons.injEq] at h
    exact absurd h.1.symm (h2 x (by simp))
  | x :: l, [], _, _, h1, _, h => by
    simp only [List.nil_append, List.cons_append, List.cons.injEq] at h
    exact absurd h.1 (h1 x (by simp))
  | x :: l, y :: l', _, _, h1, h2, h => by
    simp only [List.cons_append, List.cons.injEq] at h
    obtain ⟨e1, e2⟩ := cut_sep (fun z hz => h1 z (List.mem_cons_of_mem _ hz)) (fun z hz => h2 z (List.mem_cons_of_mem _ hz)) h.2
    exact ⟨by rw [h.1, e1], e2⟩
/-- indices as the program writes them -/
def encN (n : Nat) : List UInt8 := decDigits n ++ [44]
def encK (l : List Nat) : List UInt8 := l.flatMap encN
theorem encK_inj : ∀ {a b : List Nat}, encK a = encK b → a = b
  | [], [], _ => rfl
  | [], y :: b, h => by simp [encK, encN] at h
  | x :: a, [], h => by simp [encK, encN] at h
  | x :: a, y :: b, h => by
    simp only [encK, encN, List.flatMap_cons, List.append_assoc, List.cons_append, List.nil_append] at h
    obtain ⟨e1, e2⟩ := cut_sep (dec_plain x) (dec_plain y) h
    rw [dec_inj e1, encK_inj (a := a) (b := b) e2]
/-- js say where the trees ds stand in L -/
def IxAt (L : List Tr) (js : List Nat) (ds : List Tr) : Prop := js.map (fun j => L[j]?) = ds.map some
theorem IxAt.nil (L : List Tr) : IxAt L [] [] := rfl
theorem IxAt.len {L : List Tr} {js : List Nat} {ds : List Tr} (h : IxAt L js ds) : js.length = ds.length := by
  have := congrArg List.length h
  simpa using this
theorem IxAt.cons {L : List Tr} {j : Nat} {d : Tr} {js : List Nat} {ds : List Tr} : IxAt L (j :: js) (d :: ds) ↔ L[j]? = some d ∧ IxAt L js ds := by
  unfold IxAt
  simp
theorem IxAt.mono {L : List Tr} (X : List Tr) : ∀ {js : List Nat} {ds : List Tr}, IxAt L js ds → IxAt (L ++ X) js ds
  | [], [], _ => rfl
  | [], _ :: _, h => by simp [IxAt] at h
  | _ :: _, [], h => by simp [IxAt] at h
  | j :: js, d :: ds, h => by
    rw [IxAt.cons] at h ⊢
    have hlt := (List.getElem?_eq_some_iff.1 h.1).1
    exact ⟨by rw [List.getElem?_append_left hlt]; exact h.1, h.2.mono X⟩
theorem IxAt.inj {L : List Tr} (hn : L.Nodup) : ∀ {a b : List Nat} {ds : List Tr}, IxAt L a ds → IxAt L b ds → a = b
  | [], [], _, _, _ => rfl
  | [], _ :: _, ds, h, k => by have := h.len.trans k.len.symm; simp at this
  | _ :: _, [], ds, h, k => by have := h.len.trans k.len.symm; simp at this
  | x :: a, y :: b, [], h, _ => by simp [IxAt] at h
  | x :: a, y :: b, d :: ds, h, k => by
    rw [IxAt.cons] at h k
    obtain ⟨h1, h2⟩ := List.getElem?_eq_some_iff.1 h.1
    obtain ⟨k1, k2⟩ := List.getElem?_eq_some_iff.1 k.1
    rw [(List.getElem_inj hn).1 (h2.trans k2.symm), IxAt.inj hn h.2 k.2]
theorem some_map_inj : ∀ {a b : List Tr}, a.map some = b.map some → a = b
  | [], [], _ => rfl
  | [], _ :: _, h => by simp at h
  | _ :: _, [], h => by simp at h
  | x :: a, y :: b, h => by
    simp only [List.map_cons, List.cons.injEq, Option.some.injEq] at h
    rw [h.1, some_map_inj h.2]
theorem IxAt.det {L : List Tr} {js : List Nat} {ds es : List Tr} (h : IxAt L js ds) (k : IxAt L js es) : ds = es := some_map_inj (h.symm.trans k)
theorem IxAt.lt {L : List Tr} : ∀ {js : List Nat} {ds : List Tr}, IxAt L js ds → ∀ j ∈ js, j < L.length
  | [], _, _, _, h => by cases h
  | _ :: _, [], h, _, _ => by simp [IxAt] at h
  | x :: js, d :: ds, h, j, hj => by
    rw [IxAt.cons] at h
    rcases List.mem_cons.1 hj with rfl | hj
    · exact (List.getElem?_eq_some_iff.1 h.1).1
    · exact h.2.lt j hj
theorem IxAt.at {L : List Tr} : ∀ {js : List Nat} {ds : List Tr}, IxAt L js ds → ∀ i (h1 : i < js.length) (h2 : i < ds.length), L[js[i]]? = some ds[i]
  | [], _, _, _, h1, _ => absurd h1 (by simp)
  | _ :: _, [], h, _, _, _ => by simp [IxAt] at h
  | x :: js, d :: ds, h, 0, _, _ => (IxAt.cons.1 h).1
  | x :: js, d :: ds, h, i + 1, h1, h2 => (IxAt.cons.1 h).2.at i (by simpa using h1) (by simpa using h2)
theorem IxAt.two {L : List Tr} : ∀ {a : List Tr} {js : List Nat} {b : List Tr}, IxAt L js (a ++ b) → IxAt L (js.take a.length) a ∧ IxAt L (js.drop a.length) b
  | [], js, b, h => by simp at h ⊢; exact ⟨.nil L, h⟩
  | x :: a, [], b, h => by simp [IxAt] at h
  | x :: a, j :: js, b, h => by
    rw [List.cons_append, IxAt.cons] at h
    obtain ⟨h1, h2⟩ := IxAt.two h.2
    simp only [List.length_cons, List.take_succ_cons, List.drop_succ_cons]
    exact ⟨IxAt.cons.2 ⟨h.1, h1⟩, h2⟩
theorem IxAt.snoc {L : List Tr} : ∀ {js : List Nat} {ds : List Tr} {j : Nat} {d : Tr}, IxAt L js ds → L[j]? = some d → IxAt L (js ++ [j]) (ds ++ [d])
  | [], [], _, _, _, h => IxAt.cons.2 ⟨h, .nil L⟩
  | [], _ :: _, _, _, h, _ => by simp [IxAt] at h
  | _ :: _, [], _, _, h, _ => by simp [IxAt] at h
  | x :: js, e :: ds, j, d, h, k => by
    rw [IxAt.cons] at h
    exact IxAt.cons.2 ⟨h.1, h.2.snoc k⟩
/-- where a tree stands among others without twins -/
theorem place_one {L : List Tr} (hn : L.Nodup) {i j : Nat} {t : Tr} (hi : L[i]? = some t) (hj : L[j]? = some t) : i = j := by
  obtain ⟨h1, h2⟩ := List.getElem?_eq_some_iff.1 hi
  obtain ⟨k1, k2⟩ := List.getElem?_eq_some_iff.1 hj
  exact (List.getElem_inj hn).1 (h2.trans k2.symm)
theorem place_more {L : List Tr} (X : List Tr) {i : Nat} {t : Tr} (hi : L[i]? = some t) : (L ++ X)[i]? = some t := by
  rw [List.getElem?_append_left (List.getElem?_eq_some_iff.1 hi).1]; exact hi
open Classical in
noncomputable def addL (L : List Tr) (t : Tr) : List Tr := if t ∈ L then L else L ++ [t]
theorem addL_in {L : List Tr} {t : Tr} (h : t ∈ L) : addL L t = L := if_pos h
theorem addL_out {L : List Tr} {t : Tr} (h : t ∉ L) : addL L t = L ++ [t] := if_neg h
theorem addL_nodup {L : List Tr} (hn : L.Nodup) (t : Tr) : (addL L t).Nodup := by
  by_cases h : t ∈ L
  · rw [addL_in h]; exact hn
  · rw [addL_out h]
    exact List.nodup_append.2 ⟨hn, by simp, by
      intro a ha b hb
      rw [List.mem_singleton] at hb
      rintro rfl
      rw [hb] at ha
      exact h ha⟩
theorem addL_more (L : List Tr) (t : Tr) : ∃ X, addL L t = L ++ X := by
  by_cases h : t ∈ L
  · exact ⟨[], by rw [addL_in h]; simp⟩
  · exact ⟨[t], addL_out h⟩
theorem addL_len (L : List Tr) (t : Tr) : (addL L t).length ≤ L.length + 1 := by
  by_cases h : t ∈ L
  · rw [addL_in h]; omega
  · rw [addL_out h]; simp
theorem addL_mem (L : List Tr) (t : Tr) : t ∈ addL L t := by
  by_cases h : t ∈ L
  · rw [addL_in h]; exact h
  · rw [addL_out h]; simp
/-- what is held: the trees so far, and of what is whole and no kid yet, the trees; N bounds the trees -/
def Runs (N : Nat) : List (PT × Bool) → List Tr × List Tr → List Tr × List Tr → Prop
  | [], s, f => s = f
  | (_, true) :: es, s, f => Runs N es s f
  | (t, false) :: es, s, f => (s.1.length < N ∧ s.2.length ≤ N) ∧ t.sz ≤ 2000000 ∧ s.1.Nodup ∧ ∃ ds, s.2 = ds ++ t.ks.map PT.tr ∧ Runs N es (addL s.1 t.tr, ds ++ [t.tr]) f
theorem Runs.app {N : Nat} : ∀ {a b : List (PT × Bool)} {s m f : List Tr × List Tr}, Runs N a s m → Runs N b m f → Runs N (a ++ b) s f
  | [], b, s, m, f, h, k => by rw [Runs] at h; rw [h]; exact k
  | (t, true) :: a, b, s, m, f, h, k => by rw [Runs] at h; rw [List.cons_append, Runs]; exact Runs.app h k
  | (t, false) :: a, b, s, m, f, h, k => by
    rw [Runs] at h
    rw [List.cons_append, Runs]
    obtain ⟨h1, h2, h3, ds, h4, h5⟩ := h
    exact ⟨h1, h2, h3, ds, h4, Runs.app h5 k⟩
theorem kids_evs : ∀ l : List PT, l.length ≤ (l.flatMap PT.evs).length
  | [] => by simp
  | t :: l => by
    have := kids_evs l
    rw [List.flatMap_cons, List.length_append, t.evs_eq]
    simp only [List.length_cons]
    omega
def RunOk (N : Nat) (t : PT) : Prop := ∀ (L ds : List Tr), L.Nodup → L.length + t.evs.length ≤ N → ds.length + t.evs.length ≤ N → t.sz ≤ 2000000 → ∃ X, Runs N t.evs (L, ds) (L ++ X, ds ++ [t.tr]) ∧ (L ++ X).Nodup ∧ X.length ≤ t.evs.length ∧ t.tr ∈ L ++ X
theorem run_kids {N : Nat} : ∀ (l : List PT), (∀ k ∈ l, RunOk N k) → ∀ (L ds : List Tr), L.Nodup → L.length + (l.flatMap PT.evs).length ≤ N → ds.length + (l.flatMap PT.evs).length ≤ N → (∀ k ∈ l, k.sz ≤ 2000000) → ∃ X, Runs N (l.flatMap PT.evs) (L, ds) (L ++ X, ds ++ l.map PT.tr) ∧ (L ++ X).Nodup ∧ X.length ≤ (l.flatMap PT.evs).length
  | [], _, L, ds, hn, _, _, _ => ⟨[], by simp [Runs], by simpa using hn, by simp⟩
  | k :: l, hk, L, ds, hn, hl, hd, hz => by
    rw [List.flatMap_cons, List.length_append] at hl hd
    have hk1 : 1 ≤ k.evs.length := by rw [k.evs_eq]; simp
    obtain ⟨X, r1, n1, l1, _⟩ := hk k (by simp) L ds hn (by omega) (by omega) (hz k (by simp))
    obtain ⟨Y, r2, n2, l2⟩ := run_kids l (fun x hx => hk x (List.mem_cons_of_mem _ hx)) (L ++ X) (ds ++ [k.tr]) n1 (by rw [List.length_append]; omega) (by rw [List.length_append, List.length_singleton]; omega) (fun x hx => hz x (List.mem_cons_of_mem _ hx))
    rw [List.append_assoc] at r2 n2
    refine ⟨X ++ Y, ?_, n2, ?_⟩
    · rw [List.flatMap_cons]
      have := Runs.app r1 r2
      simpa using this
    · rw [List.flatMap_cons, List.length_append, List.length_append]; omega
theorem runOk_any {N : Nat} (m : Nat) : ∀ t : PT, t.sz ≤ m → RunOk N t := by
  induction m with
  | zero => intro t ht; have := t.sz_pos; omega
  | succ m ih =>
    intro t ht L ds hn hl hd hz
    have hk : ∀ k ∈ t.ks, RunOk N k := fun k hk => ih k (by have := PT.sz_kid hk; omega)
    have hke := kids_evs t.ks
    rw [t.evs_eq, List.length_cons, List.length_append, List.length_cons, List.length_nil] at hl hd
    obtain ⟨X, r1, n1, l1⟩ := run_kids t.ks hk L ds hn (by omega) (by omega) (fun k hk => by have := PT.sz_kid hk; omega)
    obtain ⟨Y, hY⟩ := addL_more (L ++ X) t.tr
    have hlen := addL_len (L ++ X) t.tr
    have hmem := addL_mem (L ++ X) t.tr
    have hnd := addL_nodup n1 t.tr
    rw [hY, List.append_assoc] at hmem hnd
    rw [hY] at hlen
    simp only [List.length_append] at hlen
    refine ⟨X ++ Y, ?_, hnd, ?_, hmem⟩
    · rw [t.evs_eq, Runs]
      refine Runs.app r1 ?_
      rw [Runs]
      refine ⟨⟨by simp only [List.length_append]; omega, by simp only [List.length_append, List.length_map]; omega⟩, hz, n1, ds, rfl, ?_⟩
      rw [Runs, hY, List.append_assoc]
    · rw [t.evs_eq, List.length_cons, List.length_append, List.length_append, List.length_cons, List.length_nil]; omega
end Go.Proofs.YtpkejcjjbkgomaaGreatDoor
namespace Go.Proofs.YtpkejcjjbkgomaaGreatDoor
open Go.ChangeShapes Go.WideShapes Go.ChangeAt Go.RowKit
set_option maxRecDepth 100000
/-- what a step leaves: only block R of the older ones may have changed -/
structure OnlyG (R : Nat) (w w' : World) : Prop where
  os : w'.os = w.os
  tape : w'.tape = w.tape
  output : w'.output = w.output
  size : w.heap.size ≤ w'.heap.size
  block : ∀ k, k < w.heap.size → k ≠ R → w'.heap[k]? = w.heap[k]?
theorem OnlyG.refl (R : Nat) (w : World) : OnlyG R w w := ⟨rfl, rfl, rfl, Nat.le_refl _, fun _ _ _ => rfl⟩
theorem OnlyG.trans {R : Nat} {a b c : World} (h : OnlyG R a b) (k : OnlyG R b c) : OnlyG R a c :=
  ⟨k.os.trans h.os, k.tape.trans h.tape, k.output.trans h.output, Nat.le_trans h.size k.size, fun j hj hR => (k.block j (Nat.lt_of_lt_of_le hj h.size) hR).trans (h.block j hj hR)⟩
theorem OnlyG.of_below {R : Nat} {w w' : World} (h : Below w.heap.size w w') : OnlyG R w w' := ⟨h.os, h.tape, h.output, h.size, fun k hk _ => h.block k hk⟩
theorem OnlyG.below {R : Nat} {w w' : World} (h : OnlyG R w w') (B : Nat) (hB : B ≤ R) (hs : B ≤ w.heap.size) : Below B w w' := ⟨h.os, h.tape, h.output, h.size, fun k hk => h.block k (by omega) (by omega)⟩
theorem OnlyG.cell {R : Nat} {w w' : World} (h : OnlyG R w w') {p : Addr} (hp : p.block < w.heap.size) (hR : p.block ≠ R) : w'.cell? p = w.cell? p := World.cell?_of_block (w := w) (h.block p.block hp hR)
/-- n cells from address a on -/
def RowV (w : World) (a : Option Addr) (n : Nat) (f : Nat → Value) : Prop := ∀ j, j < n → ∃ b off, a = some ⟨b, off, none⟩ ∧ b < w.heap.size ∧ w.cell? ⟨b, off + j, none⟩ = some (f j)
theorem RowV.keep {w w' : World} {a : Option Addr} {n : Nat} {f : Nat → Value} (h : RowV w a n f) (hs : w.heap.size ≤ w'.heap.size) (hk : ∀ b off, a = some ⟨b, off, none⟩ → b < w.heap.size → w'.heap[b]? = w.heap[b]?) : RowV w' a n f := fun j hj => by
  obtain ⟨b, off, e, hl, hc⟩ := h j hj
  exact ⟨b, off, e, Nat.lt_of_lt_of_le hl hs, (World.cell?_of_block (w := w) (hk b off e hl)).trans hc⟩
theorem RowV.below {w w' : World} {a : Option Addr} {n : Nat} {f : Nat → Value} (h : RowV w a n f) (hb : Below w.heap.size w w') : RowV w' a n f := h.keep hb.size fun b _ _ hl => hb.block b hl
theorem RowV.drew {w : World} {a : Option Addr} {n : Nat} {f : Nat → Value} (h : RowV w a n f) : RowV w.drew a n f := h
theorem RowV.congr {w : World} {a : Option Addr} {n : Nat} {f g : Nat → Value} (h : RowV w a n f) (hg : ∀ j, j < n → f j = g j) : RowV w a n g := fun j hj => by
  obtain ⟨b, off, e, hl, hc⟩ := h j hj
  exact ⟨b, off, e, hl, by rw [hc, hg j hj]⟩
theorem RowV.nil (w : World) (a : Option Addr) (f : Nat → Value) : RowV w a 0 f := fun _ hj => absurd hj (Nat.not_lt_zero _)
theorem RowV.of_row {w : World} {b n : Nat} {T : TypeId} {f : Nat → Value} (h : w.rowIs b T n f) : RowV w (some ⟨b, 0, none⟩) n f := fun j hj => ⟨b, 0, rfl, h.lt, by rw [Nat.zero_add, h.cell hj]⟩
/-- a row of n cells that may be marked: none, or the beginning of a block from B on and below U -/
def OwnG (T : TypeId) (w : World) (B U : Nat) (a : Option Addr) (n : Nat) : Prop := n = 0 ∨ ∃ b, B ≤ b ∧ b < U ∧ a = some ⟨b, 0, none⟩ ∧ ∃ cur : Array Value, w.heap[b]? = some (.cells cur T) ∧ n ≤ cur.size
theorem OwnG.keep {T : TypeId} {w w' : World} {B U : Nat} {a : Option Addr} {n : Nat} (h : OwnG T w B U a n) (hk : ∀ b, B ≤ b → b < U → b < w.heap.size → w'.heap[b]? = w.heap[b]?) : OwnG T w' B U a n := by
  rcases h with h | ⟨b, h1, h2, h3, cur, h4, h5⟩
  · exact .inl h
  · exact .inr ⟨b, h1, h2, h3, cur, (hk b h1 h2 (Array.getElem?_eq_some_iff.1 h4).1).trans h4, h5⟩
theorem OwnG.below {T : TypeId} {w w' : World} {B U : Nat} {a : Option Addr} {n : Nat} (h : OwnG T w B U a n) (hb : Below w.heap.size w w') : OwnG T w' B U a n := h.keep fun b _ _ hl => hb.block b hl
theorem OwnG.only {T : TypeId} {R : Nat} {w w' : World} {B U : Nat} {a : Option Addr} {n : Nat} (h : OwnG T w B U a n) (hb : OnlyG R w w') (hR : R < B ∨ U ≤ R) : OwnG T w' B U a n := h.keep fun b h1 h2 hl => hb.block b hl (by omega)
theorem OwnG.of_row {T : TypeId} {w : World} {b n B : Nat} {f : Nat → Value} (h : w.rowIs b T n f) (hB : B ≤ b) : OwnG T w B w.heap.size (some ⟨b, 0, none⟩) n := by
  obtain ⟨c, h1, h2, _⟩ := h
  exact .inr ⟨b, hB, (Array.getElem?_eq_some_iff.1 h1).1, rfl, c, h1, by omega⟩
/-- a slice of the call's own, as it lies -/
theorem owns_at {w : World} {B : Nat} {T : TypeId} {m : Nat} {v : Value} {n : Nat} {xs : List Value} (h : w.ownsRow B T m v n xs) : ∃ a cap, v = .slice a n cap ∧ n ≤ cap ∧ RowV w a (n * m) (fun j => xs.getD j undef) ∧ OwnG T w B w.heap.size a (n * m) := by
  rcases h.2 with ⟨rfl, h0⟩ | ⟨g, cap, cur, rfl, hg, hh, hlc, hm, hs, ht⟩
  · subst h0
    exact ⟨none, 0, rfl, Nat.le_refl _, by rw [Nat.zero_mul]; exact RowV.nil _ _ _, .inl (Nat.zero_mul _)⟩
  · have hlt := (Array.getElem?_eq_some_iff.1 hh).1
    have hle : n * m ≤ cur.size := by rw [hs]; exact Nat.mul_le_mul_right _ hlc
    refine ⟨_, cap, rfl, hlc, fun j hj => ⟨g, 0, rfl, hlt, ?_⟩, .inr ⟨g, hg, hlt, rfl, cur, hh, hle⟩⟩
    rw [cell_of_block hh (0 + j), Nat.zero_add]
    have e := congrArg (fun l => l[j]?) ht
    simp only [List.getElem?_take] at e
    rw [if_pos hj] at e
    have hx : j < xs.length := by rw [h.1]; exact hj
    rw [List.getElem?_eq_getElem hx] at e
    show cur[j]? = some (xs.getD j undef)
    rw [List.getD_eq_getElem?_getD, List.getElem?_eq_getElem hx]
    simpa using e
theorem owns_below {w w' : World} {B : Nat} {T : TypeId} {m : Nat} {v : Value} {n : Nat} {xs : List Value} (h : w.ownsRow B T m v n xs) (hb : Below w.heap.size w w') : w'.ownsRow B T m v n xs := by
  refine ⟨h.1, ?_⟩
  rcases h.2 with h0 | ⟨g, cap, cur, hv, hg, hh, hl, hm, hs, ht⟩
  · exact .inl h0
  · exact .inr ⟨g, cap, cur, hv, hg, by rw [hb.block g (Array.getElem?_eq_some_iff.1 hh).1]; exact hh, hl, hm, hs, ht⟩
/-- the digits of a number, none for 0 -/
def decG (k : Nat) : List UInt8 := if _h : k = 0 then [] else decG (k / 10) ++ [UInt8.ofNat (48 + k % 10)]
termination_by k
decreasing_by omega
theorem decG_len (k : Nat) : (decG k).length ≤ k := by
  induction k using Nat.strongRecOn with
  | ind k ih =>
    rw [decG]
    split
    · simp
    · have := ih (k / 10) (by omega)
      simp; omega
theorem decG_zero : decG 0 = [] := by rw [decG]; simp
theorem decG_pos {j : Nat} (h : 0 < j) : decG j = decG (j / 10) ++ [UInt8.ofNat (48 + j % 10)] := by
  rw [decG, dif_neg (by omega)]
def bsG (l : List UInt8) : ByteArray := ⟨l.toArray⟩
theorem bsG_size (l : List UInt8) : (bsG l).size = l.length := by simp [bsG, ByteArray.size]
def mB (k : Nat) : ByteArray := bsG (109 :: decG k)
theorem mB_size (k : Nat) : (mB k).size ≤ k + 1 := by unfold mB; rw [bsG_size]; have := decG_len k; simp; omega
theorem convG (c : UInt8) (w : World) : (convert 22 9 (.slice (some ⟨w.heap.size, 0, none⟩) 1 1)).run Tryz.prog (w.alloc (.cells #[.int .u8 (c.toNat : Int)] 5)) = .ok (.string ⟨#[c]⟩) (w.alloc (.cells #[.int .u8 (c.toNat : Int)] 5)) :=
  run_convert_bytes_back _ _ _ 5 ⟨w.heap.size, 0, none⟩ 1 [c] Tryz.underlying22 Tryz.underlying5 Tryz.underlying9 (fun j hj => by
    match j, hj with
    | 0, _ => simp [Addr.add])
theorem run_front {P : Program} (c : UInt8) (l : List UInt8) (h : l.length ≤ 5000000) (w : World) : (Op.stringOp .add ⟨#[c]⟩ (bsG l)).run P w = .ok (.string (bsG (c :: l))) w := by
  have e : (⟨#[c]⟩ : ByteArray) ++ bsG l = bsG (c :: l) := by
    apply ByteArray.ext
    rw [ByteArray.data_append]
    simp [bsG]
  have h63 : ¬ ((((⟨#[c]⟩ : ByteArray).size + (bsG l).size : Nat) : Int) > IntKind.i64.max) := by rw [bsG_size, show IntKind.i64.max = 9223372036854775807 from rfl]; simp [ByteArray.size]; omega
  simp only [Op.stringOp]
  rw [if_neg h63, e]
  rfl
/-- cell j of a row of structs whose fields are strings (true) or numbers (false), marked from k on -/
def mkC (ks : List Bool) (k j : Nat) : Value := if ks.getD (j % ks.length) false then .string (mB (k + j)) else .int .i64 ((k + j : Nat) : Int)
/-- the first q cells of block b hold the marks from k on, and no other block of w has changed -/
def MarkW (T : TypeId) (w w' : World) (b C q : Nat) (mk : Nat → Value) : Prop :=
  OnlyG b w w' ∧ ∃ cur : Array Value, w'.heap[b]? = some (.cells cur T) ∧ cur.size = C ∧ ∀ j, j < q → cur[j]? = some (mk j)
theorem MarkW.put {T : TypeId} {w w' : World} {b C q : Nat} {mk : Nat → Value} (h : MarkW T w w' b C q mk) (hq : q < C) {v : Value} (hv : mk q = v) : MarkW T w (w'.setCell ⟨b, q, none⟩ v) b C (q + 1) mk := by
  obtain ⟨h1, cur, h2, h3, h4⟩ := h
  refine ⟨h1.trans ⟨rfl, rfl, rfl, by simp [World.setCell], fun j _ hj => Below.heap_setCell _ _ _ _ hj⟩, cur.setIfInBounds q v, by simp [World.setCell, Array.getElem?_modify, h2], by simpa using h3, fun j hj => ?_⟩
  by_cases e : j = q
  · subst e
    rw [Array.getElem?_setIfInBounds_self, if_pos (by omega), hv]
  · rw [Array.getElem?_setIfInBounds_ne (fun h => e h.symm)]
    exact h4 j (by omega)
theorem MarkW.below {T : TypeId} {w w' u : World} {b C q : Nat} {mk : Nat → Value} (h : MarkW T w w' b C q mk) (hb : Below w'.heap.size w' u) : MarkW T w u b C q mk := by
  obtain ⟨h1, cur, h2, h3⟩ := h
  exact ⟨h1.trans (OnlyG.of_below hb), cur, by rw [hb.block b (Array.getElem?_eq_some_iff.1 h2).1]; exact h2, h3⟩
theorem MarkW.cell {T : TypeId} {w w' : World} {b C q : Nat} {mk : Nat → Value} (h : MarkW T w w' b C q mk) {j : Nat} (hj : j < C) : (∃ v, w'.cell? ⟨b, j, none⟩ = some v) ∧ w'.frozen? ⟨b, j, none⟩ = false := by
  obtain ⟨h1, cur, h2, h3, _⟩ := h
  refine ⟨⟨cur[j]'(by omega), ?_⟩, frozen_of_block h2 j⟩
  rw [cell_of_block h2 j]
  simp [h3 ▸ hj]
end Go.Proofs.YtpkejcjjbkgomaaGreatDoor
