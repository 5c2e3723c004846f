/- Trees whose rows are the call's own, each in a block of its own: what lies there, marked and looked at again. -/
import Derived.Test.YtcningdeocmbgaaTreC
import Derived.Test.YtcningdeocmbgaaRowG
import Derived.Test.YtcningdeocmbgaaSzT
namespace Go.Proofs.Ytcningdeocmbgaa
open Go.ChangeShapes Go.WideShapes Go.ChangeAt Go.RowKit Go.Deep
set_option maxRecDepth 100000
/-- a tree; g is the block in which the row of its kids lies, if there are any -/
inductive OT where
  | node (g : Nat) (s : ByteArray) (r : Int) (ks : List OT) : OT
def OT.g : OT → Nat | .node g _ _ _ => g
def OT.s : OT → ByteArray | .node _ s _ _ => s
def OT.r : OT → Int | .node _ _ r _ => r
def OT.ks : OT → List OT | .node _ _ _ ks => ks
def OT.tr : OT → Tr
  | .node _ s r ks => .node s r (ks.map OT.tr)
/-- the blocks of a tree's rows -/
def OT.bs : OT → List Nat
  | .node g _ _ ks => (if ks.length = 0 then [] else [g]) ++ ks.flatMap OT.bs
def OT.sz : OT → Nat
  | .node _ _ _ ks => 1 + (ks.map OT.sz).sum
theorem OT.eta (t : OT) : t = .node t.g t.s t.r t.ks := by cases t; rfl
theorem OT.tr_eq (t : OT) : t.tr = .node t.s t.r (t.ks.map OT.tr) := by cases t; rw [OT.tr]; rfl
theorem OT.sz_eq (t : OT) : t.sz = 1 + (t.ks.map OT.sz).sum := by cases t; rw [OT.sz]; rfl
def bsK (g : Nat) (ks : List OT) : List Nat := (if ks.length = 0 then [] else [g]) ++ ks.flatMap OT.bs
theorem OT.bs_eq (t : OT) : t.bs = bsK t.g t.ks := by cases t; rw [OT.bs]; rfl
theorem bsK_nil (g : Nat) : bsK g [] = [] := rfl
theorem bsK_kid {g : Nat} {ks : List OT} {i : Nat} (h : i < ks.length) {b : Nat} (hb : b ∈ bsK ks[i].g ks[i].ks) : b ∈ bsK g ks := by
  unfold bsK
  rw [← OT.bs_eq] at hb
  exact List.mem_append.2 (.inr (List.mem_flatMap.2 ⟨_, List.getElem_mem h, hb⟩))
theorem bsK_own {g : Nat} {ks : List OT} (h : ks ≠ []) : g ∈ bsK g ks := by
  unfold bsK
  have : ks.length ≠ 0 := fun e => h (List.eq_nil_of_length_eq_zero e)
  rw [if_neg this]
  simp
theorem nodup_at {α : Type} {f : α → List Nat} : ∀ {l : List α}, (l.flatMap f).Nodup → (∀ i (h : i < l.length), (f l[i]).Nodup) ∧ ∀ i j (hi : i < l.length) (hj : j < l.length), i ≠ j → ∀ b ∈ f l[i], b ∉ f l[j]
  | [], _ => ⟨fun i h => absurd h (Nat.not_lt_zero _), fun i j h => absurd h (Nat.not_lt_zero _)⟩
  | x :: l, h => by
    rw [List.flatMap_cons, List.nodup_append] at h
    obtain ⟨h1, h2, h3⟩ := h
    obtain ⟨ih1, ih2⟩ := nodup_at h2
    refine ⟨fun i hi => ?_, fun i j hi hj hij b hb hb' => ?_⟩
    · cases i with
      | zero => exact h1
      | succ i => exact ih1 i (by simpa using hi)
    · cases i with
      | zero =>
        cases j with
        | zero => exact hij rfl
        | succ j => exact h3 b hb b (List.mem_flatMap.2 ⟨_, List.getElem_mem (by simpa using hj), hb'⟩) rfl
      | succ i =>
        cases j with
        | zero => exact h3 b hb' b (List.mem_flatMap.2 ⟨_, List.getElem_mem (by simpa using hi), hb⟩) rfl
        | succ j => exact ih2 i j (by simpa using hi) (by simpa using hj) (by omega) b hb hb'
theorem bsK_nodup {g : Nat} {ks : List OT} (h : (bsK g ks).Nodup) (h0 : ks ≠ []) : (∀ i (h : i < ks.length), (bsK ks[i].g ks[i].ks).Nodup ∧ g ∉ bsK ks[i].g ks[i].ks) ∧ ∀ i j (hi : i < ks.length) (hj : j < ks.length), i ≠ j → ∀ b ∈ bsK ks[i].g ks[i].ks, b ∉ bsK ks[j].g ks[j].ks := by
  have hl : ks.length ≠ 0 := fun e => h0 (List.eq_nil_of_length_eq_zero e)
  unfold bsK at h
  rw [if_neg hl, List.nodup_append] at h
  obtain ⟨_, h2, h3⟩ := h
  obtain ⟨a1, a2⟩ := nodup_at h2
  refine ⟨fun i hi => ⟨by rw [← OT.bs_eq]; exact a1 i hi, fun hm => ?_⟩, fun i j hi hj hij b hb hb' => ?_⟩
  · rw [← OT.bs_eq] at hm
    exact h3 g (by simp) g (List.mem_flatMap.2 ⟨_, List.getElem_mem hi, hm⟩) rfl
  · rw [← OT.bs_eq] at hb hb'
    exact a2 i j hi hj hij b hb hb'
/-- a row of kids, in the block g of the call's own -/
inductive OwnK (w : World) : Nat → Option Addr → List OT → Prop
  | none (g : Nat) (a : Option Addr) : OwnK w g a []
  | row (g : Nat) (ks : List OT) (cur : Array Value) (xa : Nat → Option Addr) (cp : Nat → Nat) (h0 : ks ≠ [])
      (hh : w.heap[g]? = some (.cells cur 30)) (hl : ks.length * 3 ≤ cur.size)
      (hc : ∀ i (h : i < ks.length), cur[i * 3]? = some (.string ks[i].s) ∧ cur[i * 3 + 1]? = some (.int .i64 ks[i].r) ∧ cur[i * 3 + 2]? = some (.slice (xa i) ks[i].ks.length (cp i)) ∧
        ks[i].ks.length ≤ cp i ∧ ks[i].s.size ≤ maxLen ∧ (Lit.int .i64 ks[i].r).wf = true ∧ ks[i].ks.length ≤ maxLen)
      (ht : ∀ i (h : i < ks.length), OwnK w ks[i].g (xa i) ks[i].ks) : OwnK w g (some ⟨g, 0, Option.none⟩) ks
theorem OwnK.keep {w w' : World} {g : Nat} {a : Option Addr} {ks : List OT} (h : OwnK w g a ks) (hk : ∀ b ∈ bsK g ks, w'.heap[b]? = w.heap[b]?) : OwnK w' g a ks := by
  induction h with
  | none g a => exact .none g a
  | row g ks cur xa cp h0 hh hl hc _ ih => exact .row g ks cur xa cp h0 ((hk g (bsK_own h0)).trans hh) hl hc (fun i hi => ih i hi (fun b hb => hk b (bsK_kid hi hb)))
theorem OwnK.lt {w : World} {g : Nat} {a : Option Addr} {ks : List OT} (h : OwnK w g a ks) : ∀ b ∈ bsK g ks, b < w.heap.size := by
  induction h with
  | none g a => intro b hb; cases hb
  | row g ks cur xa cp h0 hh hl hc _ ih =>
    intro b hb
    unfold bsK at hb
    rcases List.mem_append.1 hb with hb | hb
    · have hl0 : ks.length ≠ 0 := fun e => h0 (List.eq_nil_of_length_eq_zero e)
      rw [if_neg hl0, List.mem_singleton] at hb
      subst hb
      exact (Array.getElem?_eq_some_iff.1 hh).1
    · obtain ⟨t, ht, hb⟩ := List.mem_flatMap.1 hb
      obtain ⟨i, hi, rfl⟩ := List.getElem_of_mem ht
      exact ih i hi b (by rw [← OT.bs_eq]; exact hb)
theorem OwnK.under {w w' : World} {g : Nat} {a : Option Addr} {ks : List OT} (h : OwnK w g a ks) (hb : Below w.heap.size w w') : OwnK w' g a ks := h.keep fun b hm => hb.block b (h.lt b hm)
/-- the kids lie there as KidsIn says -/
theorem OwnK.kids {w : World} {g : Nat} {a : Option Addr} {ks : List OT} (h : OwnK w g a ks) : KidsIn w 0 a (ks.map OT.tr) := by
  induction h with
  | none g a => exact fun i hi => absurd hi (Nat.not_lt_zero _)
  | row g ks cur xa cp h0 hh hl hc _ ih =>
    intro i hi
    have hi' : i < ks.length := by simpa using hi
    obtain ⟨c0, c1, c2, c3, c4, c5, c6⟩ := hc i hi'
    refine ⟨g, 0, ks[i].s, ks[i].r, .slice (xa i) ks[i].ks.length (cp i), rfl, Nat.zero_le _, (Array.getElem?_eq_some_iff.1 hh).1, ?_, ?_, ?_, ?_⟩
    rotate_left 3
    · have e : (ks.map OT.tr)[i] = .node ks[i].s ks[i].r (ks[i].ks.map OT.tr) := by rw [List.getElem_map, OT.tr_eq]
      rw [e]
      have := TrIn.close (w := w) (B := 0) (s := ks[i].s) (r := ks[i].r) (ks := ks[i].ks.map OT.tr) (a := xa i) (cap := cp i) c4 c5 (by simpa using c6) (by simpa using c3) (ih i hi')
      simpa using this
    · rw [cell_of_block hh, Nat.zero_add]; exact c0
    · rw [cell_of_block hh, Nat.zero_add]; exact c1
    · rw [cell_of_block hh, Nat.zero_add]; exact c2
theorem OT.sz_tr (m : Nat) : ∀ t : OT, t.sz ≤ m → t.tr.sz = t.sz := by
  induction m with
  | zero => intro t h; rw [OT.sz_eq] at h; omega
  | succ m ih =>
    intro t h
    rw [OT.tr_eq, Tr.sz, OT.sz_eq, List.map_map]
    rw [OT.sz_eq] at h
    have : ∀ l : List OT, (l.map OT.sz).sum ≤ m → (l.map (Tr.sz ∘ OT.tr)).sum = (l.map OT.sz).sum := by
      intro l
      induction l with
      | nil => intro _; rfl
      | cons x l ih2 =>
        intro hl
        rw [List.map_cons, List.sum_cons] at hl
        rw [List.map_cons, List.map_cons, List.sum_cons, List.sum_cons, ih2 (by omega)]
        congr 1
        exact ih x (by omega)
    rw [this _ (by omega)]
/-- where the marks of kid i begin -/
def offK (ks : List OT) (i : Nat) : Nat := 2 * ((ks.take i).map OT.sz).sum
theorem offK_succ {ks : List OT} {i : Nat} (h : i < ks.length) : offK ks (i + 1) = offK ks i + 2 * ks[i].sz := by
  unfold offK
  rw [List.take_succ_eq_append_getElem h, List.map_append, List.sum_append]
  simp
  omega
theorem offK_le {ks : List OT} (i : Nat) : offK ks i ≤ 2 * (ks.map OT.sz).sum := by
  unfold offK
  rw [List.map_take]
  have := sum_take_le (ks.map OT.sz) i
  omega
theorem offK_all (ks : List OT) : offK ks ks.length = 2 * (ks.map OT.sz).sum := by unfold offK; rw [List.take_length]
/-- the row of kids, marked from k on -/
inductive MkK (w : World) : Nat → Nat → Option Addr → List OT → Prop
  | none (k g : Nat) (a : Option Addr) : MkK w k g a []
  | row (k g : Nat) (ks : List OT) (cur : Array Value) (xa : Nat → Option Addr) (cp : Nat → Nat) (h0 : ks ≠ [])
      (hh : w.heap[g]? = some (.cells cur 30))
      (hc : ∀ i (h : i < ks.length), cur[i * 3]? = some (.string (mB (k + offK ks i))) ∧ cur[i * 3 + 1]? = some (.int .i64 ((k + offK ks i + 1 : Nat) : Int)) ∧ cur[i * 3 + 2]? = some (.slice (xa i) ks[i].ks.length (cp i)))
      (ht : ∀ i (h : i < ks.length), MkK w (k + offK ks i + 2) ks[i].g (xa i) ks[i].ks) : MkK w k g (some ⟨g, 0, Option.none⟩) ks
theorem MkK.keep {w w' : World} {k g : Nat} {a : Option Addr} {ks : List OT} (h : MkK w k g a ks) (hk : ∀ b ∈ bsK g ks, w'.heap[b]? = w.heap[b]?) : MkK w' k g a ks := by
  induction h with
  | none k g a => exact .none k g a
  | row k g ks cur xa cp h0 hh hc _ ih => exact .row k g ks cur xa cp h0 ((hk g (bsK_own h0)).trans hh) hc (fun i hi => ih i hi (fun b hb => hk b (bsK_kid hi hb)))
theorem MkK.lt {w : World} {k g : Nat} {a : Option Addr} {ks : List OT} (h : MkK w k g a ks) : ∀ b ∈ bsK g ks, b < w.heap.size := by
  induction h with
  | none k g a => intro b hb; cases hb
  | row k g ks cur xa cp h0 hh hc _ ih =>
    intro b hb
    unfold bsK at hb
    rcases List.mem_append.1 hb with hb | hb
    · have hl0 : ks.length ≠ 0 := fun e => h0 (List.eq_nil_of_length_eq_zero e)
      rw [if_neg hl0, List.mem_singleton] at hb
      subst hb
      exact (Array.getElem?_eq_some_iff.1 hh).1
    · obtain ⟨t, ht, hb⟩ := List.mem_flatMap.1 hb
      obtain ⟨i, hi, rfl⟩ := List.getElem_of_mem ht
      exact ih i hi b (by rw [← OT.bs_eq]; exact hb)
theorem MkK.under {w w' : World} {k g : Nat} {a : Option Addr} {ks : List OT} (h : MkK w k g a ks) (hb : Below w.heap.size w w') : MkK w' k g a ks := h.keep fun b hm => hb.block b (h.lt b hm)
/-- of the older blocks only those of L may have changed -/
structure OnlyL (L : List Nat) (w w' : World) : Prop where
  os : w'.os = w.os
  tape : w'.tape = w.tape
  output : w'.output = w.output
  size : w.heap.size ≤ w'.heap.size
  block : ∀ b, b < w.heap.size → b ∉ L → w'.heap[b]? = w.heap[b]?
theorem OnlyL.refl (L : List Nat) (w : World) : OnlyL L w w := ⟨rfl, rfl, rfl, Nat.le_refl _, fun _ _ _ => rfl⟩
theorem OnlyL.trans {L : List Nat} {a b c : World} (h : OnlyL L a b) (k : OnlyL L b c) : OnlyL L a c :=
  ⟨k.os.trans h.os, k.tape.trans h.tape, k.output.trans h.output, Nat.le_trans h.size k.size, fun j hj hL => (k.block j (Nat.lt_of_lt_of_le hj h.size) hL).trans (h.block j hj hL)⟩
theorem OnlyL.of_below {L : List Nat} {w w' : World} (h : Below w.heap.size w w') : OnlyL L w w' := ⟨h.os, h.tape, h.output, h.size, fun b hb _ => h.block b hb⟩
theorem OnlyL.more {L L' : List Nat} {w w' : World} (h : OnlyL L w w') (hs : ∀ b ∈ L, b ∈ L') : OnlyL L' w w' := ⟨h.os, h.tape, h.output, h.size, fun b hb hL => h.block b hb (fun hm => hL (hs b hm))⟩
theorem OnlyL.set {L : List Nat} {w : World} {g : Nat} (hg : g ∈ L) (o : Nat) (v : Value) : OnlyL L w (w.setCell ⟨g, o, none⟩ v) :=
  ⟨rfl, rfl, rfl, by simp [World.setCell], fun b _ hL => Below.heap_setCell _ _ _ _ (fun e => hL (by have : b = g := e; rw [this]; exact hg))⟩
theorem OnlyL.low {L : List Nat} {w w' : World} (h : OnlyL L w w') (B : Nat) (hB : ∀ b ∈ L, B ≤ b) (hs : B ≤ w.heap.size) : Below B w w' := ⟨h.os, h.tape, h.output, h.size, fun b hb => h.block b (by omega) (fun hm => by have := hB b hm; omega)⟩
/-- the row in the midst of marking: the first i kids are marked, the others as they were -/
def MidK (wr : World) (k g i : Nat) (ks : List OT) (xa : Nat → Option Addr) (cp : Nat → Nat) : Prop :=
  ∃ cur : Array Value, wr.heap[g]? = some (.cells cur 30) ∧ ks.length * 3 ≤ cur.size ∧
    (∀ j (h : j < ks.length), cur[j * 3 + 2]? = some (.slice (xa j) ks[j].ks.length (cp j))) ∧
    (∀ j (h : j < ks.length), j < i → cur[j * 3]? = some (.string (mB (k + offK ks j))) ∧ cur[j * 3 + 1]? = some (.int .i64 ((k + offK ks j + 1 : Nat) : Int)) ∧ MkK wr (k + offK ks j + 2) ks[j].g (xa j) ks[j].ks) ∧
    (∀ j (h : j < ks.length), i ≤ j → OwnK wr ks[j].g (xa j) ks[j].ks)
theorem MidK.next {wr w5 : World} {k g i : Nat} {ks : List OT} {xa : Nat → Option Addr} {cp : Nat → Nat} (H : MidK wr k g i ks xa cp) (hi : i < ks.length) (h0 : ks ≠ []) (hnd : (bsK g ks).Nodup) (hlt : ∀ b ∈ bsK g ks, b < wr.heap.size) {w2 : World} (hb : Below wr.heap.size wr w2)
    (hO : OnlyL (bsK ks[i].g ks[i].ks) ((w2.setCell ⟨g, i * 3, none⟩ (.string (mB (k + offK ks i)))).setCell ⟨g, i * 3 + 1, none⟩ (.int .i64 ((k + offK ks i + 1 : Nat) : Int))) w5) (hM : MkK w5 (k + offK ks i + 2) ks[i].g (xa i) ks[i].ks) : MidK w5 k g (i + 1) ks xa cp := by
  obtain ⟨cur, hh, hl, hs, hm, hr⟩ := H
  obtain ⟨n1, n2⟩ := bsK_nodup hnd h0
  have hg2 : w2.heap[g]? = some (.cells cur 30) := (hb.block g (hlt g (bsK_own h0))).trans hh
  have hgl : g < w2.heap.size := (Array.getElem?_eq_some_iff.1 hg2).1
  have hg5 : w5.heap[g]? = some (.cells ((cur.setIfInBounds (i * 3) (.string (mB (k + offK ks i)))).setIfInBounds (i * 3 + 1) (.int .i64 ((k + offK ks i + 1 : Nat) : Int))) 30) := by
    rw [hO.block g (by simp [World.setCell]; exact hgl) (n1 i hi).2]
    simp [World.setCell, Array.getElem?_modify, hg2]
  have hkeep : ∀ j (hj : j < ks.length), j ≠ i → ∀ b ∈ bsK ks[j].g ks[j].ks, w5.heap[b]? = wr.heap[b]? := fun j hj hji b hbm => by
    have hbl := hlt b (bsK_kid hj hbm)
    have hbg : b ≠ g := fun e => (n1 j hj).2 (e ▸ hbm)
    rw [hO.block b (by simp [World.setCell]; exact Nat.lt_of_lt_of_le hbl hb.size) (n2 j i hj hi hji b hbm), Below.heap_setCell _ _ _ _ (by show b ≠ g; exact hbg), Below.heap_setCell _ _ _ _ (by show b ≠ g; exact hbg), hb.block b hbl]
  refine ⟨_, hg5, by simpa using hl, fun j hj => ?_, fun j hj hji => ?_, fun j hj hji => ?_⟩
  · rw [Array.getElem?_setIfInBounds_ne (by omega), Array.getElem?_setIfInBounds_ne (by omega)]
    exact hs j hj
  · by_cases e : j = i
    · subst e
      refine ⟨?_, ?_, hM⟩
      · rw [Array.getElem?_setIfInBounds_ne (by omega), Array.getElem?_setIfInBounds_self, if_pos (by omega)]
      · rw [Array.getElem?_setIfInBounds_self, if_pos (by simp; omega)]
    · obtain ⟨q0, q1, q2⟩ := hm j hj (by omega)
      refine ⟨?_, ?_, q2.keep (hkeep j hj e)⟩
      · rw [Array.getElem?_setIfInBounds_ne (by omega), Array.getElem?_setIfInBounds_ne (by omega)]; exact q0
      · rw [Array.getElem?_setIfInBounds_ne (by omega), Array.getElem?_setIfInBounds_ne (by omega)]; exact q1
  · exact (hr j hj (by omega)).keep (hkeep j hj (by omega))
set_option maxHeartbeats 2000000 in
theorem markKids_any (m : Nat) : ∀ (ks : List OT), (ks.map OT.sz).sum ≤ m → ∀ (g : Nat) (a : Option Addr) (cap k : Nat) (w : World), OwnK w g a ks → (bsK g ks).Nodup → 0 < k → k + 2 * (ks.map OT.sz).sum ≤ 5000000 →
    Calls Try.prog 39 #[.slice a ks.length cap, .int .i64 (k : Int)] w fun e w' => e = .returned (.int .i64 ((k + 2 * (ks.map OT.sz).sum : Nat) : Int)) ∧ MkK w' k g a ks ∧ OnlyL (bsK g ks) w w' := by
  induction m with
  | zero =>
    intro ks hm g a cap k w H hnd hk0 hk
    have : ks = [] := by
      cases ks with
      | nil => rfl
      | cons x l => rw [List.map_cons, List.sum_cons, OT.sz_eq] at hm; omega
    subst this
    go_enter Try.func39, Try.ntmps39
    go_wp2
    go_loopw [1, 5] (fun kv iv wr => iv = .int .i64 0 ∧ kv = .int .i64 (k : Nat) ∧ wr = w) (fun _ _ _ => 0)
    case atStart => exact ⟨rfl, rfl, rfl⟩
    case round =>
      obtain ⟨rfl, rfl, rfl⟩ := hrel
      go_wp2
      go_ret
      exact ⟨by simp, MkK.none _ _ _, OnlyL.refl _ _⟩
  | succ m ih =>
    intro ks hm g a cap k w H hnd hk0 hk
    cases H with
    | none g a =>
      go_enter Try.func39, Try.ntmps39
      go_wp2
      go_loopw [1, 5] (fun kv iv wr => iv = .int .i64 0 ∧ kv = .int .i64 (k : Nat) ∧ wr = w) (fun _ _ _ => 0)
      case atStart => exact ⟨rfl, rfl, rfl⟩
      case round =>
        obtain ⟨rfl, rfl, rfl⟩ := hrel
        go_wp2
        go_ret
        exact ⟨by simp, MkK.none _ _ _, OnlyL.refl _ _⟩
    | row g ks cur xa cp h0 hh hl hc ht =>
      have hall : ∀ b ∈ bsK g ks, b < w.heap.size := (OwnK.row g ks cur xa cp h0 hh hl hc ht).lt
      have hlen : ks.length ≤ (ks.map OT.sz).sum := by
        clear hm hnd hh hl hc ht h0 hk hall
        induction ks with
        | nil => simp
        | cons x l ih2 => rw [List.length_cons, List.map_cons, List.sum_cons, OT.sz_eq]; omega
      have HM0 : Hid (MidK w k g 0 ks xa cp) := ⟨cur, hh, hl, fun j hj => (hc j hj).2.2.1, fun j hj h => absurd h (Nat.not_lt_zero _), fun j hj _ => ht j hj⟩
      have HIH := Lib.hid ih
      have HND := Lib.hid hnd
      have HALL := Lib.hid hall
      have HMM := Lib.hid hm
      have H00 := Lib.hid h0
      clear ih hnd hall hh hc ht hl hm h0
      go_enter Try.func39, Try.ntmps39
      go_wp2
      go_loopg [1, 5] (ks.length + 1) (fun gk kv iv wr => ∃ i : Nat, gk = ks.length + 1 - i ∧ i ≤ ks.length ∧ iv = .int .i64 (i : Int) ∧ kv = .int .i64 ((k + offK ks i : Nat) : Int) ∧ Hid (MidK wr k g i ks xa cp) ∧ OnlyL (bsK g ks) w wr)
      case atStart => exact ⟨0, rfl, Nat.zero_le _, rfl, by simp [offK], HM0, OnlyL.refl _ _⟩
      case round =>
        clear HM0
        obtain ⟨i, hgk, hi, rfl, rfl, HM, hO⟩ := hrel
        have HG := Lib.hid hgk
        clear hgk
        have hml := offK_le (ks := ks) i
        by_cases hlt : i < ks.length
        · have hil : (i : Int) < (ks.length : Int) := by omega
          have hms := offK_succ hlt
          have hm2 := offK_le (ks := ks) (i + 1)
          have hks := OT.sz_eq ks[i]
          obtain ⟨cur, hh, hl, hs, _, hr⟩ := HM.out
          have c2 : wr.cell? ⟨g, i * 3 + 2, none⟩ = some (.slice (xa i) ks[i].ks.length (cp i)) := by rw [cell_of_block hh]; exact hs i hlt
          obtain ⟨u0, c0⟩ : ∃ u, wr.cell? ⟨g, i * 3, none⟩ = some u := ⟨cur[i * 3]'(by omega), by rw [cell_of_block hh]; simp⟩
          obtain ⟨u1, c1⟩ : ∃ u, wr.cell? ⟨g, i * 3 + 1, none⟩ = some u := ⟨cur[i * 3 + 1]'(by omega), by rw [cell_of_block hh]; simp⟩
          have hgl : g < wr.heap.size := (Array.getElem?_eq_some_iff.1 hh).1
          have HR := Lib.hid (hr i hlt (Nat.le_refl _))
          have HKS := Lib.hid hks
          have HMS := Lib.hid hms
          have hsz0 : offK ks i + 2 * (1 + (ks[i].ks.map OT.sz).sum) ≤ 2 * (ks.map OT.sz).sum := by omega
          have HH := Lib.hid hh
          clear hks hms hs hr hh hl
          go_wp2_with fail
          refine (markTextG_any (k + offK ks i) _ (by omega) (by omega)).mono ?_
          rintro e w2 ⟨rfl, hb2⟩
          have hg2 : w2.heap[g]? = some (.cells cur 30) := (hb2.block g hgl).trans HH.out
          have d0 : w2.cell? ⟨g, i * 3, none⟩ = some u0 := (hb2.cell (p := ⟨g, _, none⟩) (show g < _ by omega)).trans c0
          have d1 : w2.cell? ⟨g, i * 3 + 1, none⟩ = some u1 := (hb2.cell (p := ⟨g, _, none⟩) (show g < _ by omega)).trans c1
          have d2 : w2.cell? ⟨g, i * 3 + 2, none⟩ = some (.slice (xa i) ks[i].ks.length (cp i)) := (hb2.cell (p := ⟨g, _, none⟩) (show g < _ by omega)).trans c2
          have f0 := frozen_of_block hg2 (i * 3)
          have f1 := frozen_of_block hg2 (i * 3 + 1)
          clear c0 c1 c2 hg2
          go_wp2_with fail
          rw [show ((k : Int) + (offK ks i : Int) + 1 + 1) = ((k + offK ks i + 2 : Nat) : Int) by omega]
          have R2 : OnlyL (bsK g ks) wr ((w2.setCell ⟨g, i * 3, none⟩ (.string (mB (k + offK ks i)))).setCell ⟨g, i * 3 + 1, none⟩ (.int .i64 ((k + offK ks i + 1 : Nat) : Int))) :=
            ((OnlyL.of_below hb2).trans (OnlyL.set (bsK_own H00.out) _ _)).trans (OnlyL.set (bsK_own H00.out) _ _)
          have hn := bsK_nodup HND.out H00.out
          have HO2 : OwnK ((w2.setCell ⟨g, i * 3, none⟩ (.string (mB (k + offK ks i)))).setCell ⟨g, i * 3 + 1, none⟩ (.int .i64 ((k + offK ks i + 1 : Nat) : Int))) ks[i].g (xa i) ks[i].ks := HR.out.keep (fun b hb => by
            have hbg : b ≠ g := fun e => (hn.1 i hlt).2 (e ▸ hb)
            rw [Below.heap_setCell _ _ _ _ (by show b ≠ g; exact hbg), Below.heap_setCell _ _ _ _ (by show b ≠ g; exact hbg), hb2.block b (HR.out.lt b hb)])
          refine (HIH.out ks[i].ks (by have := HMM.out; omega) ks[i].g (xa i) (cp i) (k + offK ks i + 2) _ HO2 (hn.1 i hlt).1 (by omega) (by omega)).mono ?_
          rintro e w5 ⟨rfl, M5, O5⟩
          have N5 := Lib.hid (HM.out.next hlt H00.out HND.out (fun b hb => Nat.lt_of_lt_of_le (HALL.out b hb) hO.size) hb2 O5 M5)
          have O6 := hO.trans (R2.trans (O5.more fun b hb => bsK_kid hlt hb))
          clear HO2 R2 O5 M5 d0 d1 d2 f0 f1 hb2 hO HM HR hn
          go_wp2_with fail
          go_roundg (ks.length + 1 - (i + 1))
          case measure => have := HG.out; omega
          case rel => exact ⟨i + 1, rfl, by omega, by go_num, by rw [HMS.out, HKS.out]; congr 1; push_cast; omega, N5, O6⟩
        · have hil : ¬ (i : Int) < (ks.length : Int) := by omega
          obtain rfl : i = ks.length := by omega
          have HF := Lib.hid (offK_all ks)
          go_wp2_with fail
          go_ret
          obtain ⟨cur, hh, _, hs, hm, _⟩ := HM.out
          exact ⟨ret_int (by have := HF.out; omega), MkK.row k g ks cur xa cp H00.out hh (fun i hi => ⟨(hm i hi hi).1, (hm i hi hi).2.1, hs i hi⟩) (fun i hi => (hm i hi hi).2.2), hO⟩
/-- a tree of the call's own is marked -/
theorem markOT_any (t : OT) (a : Option Addr) (cap k : Nat) (w : World) (H : OwnK w t.g a t.ks) (hnd : (bsK t.g t.ks).Nodup) (hk0 : 0 < k) (hk : k + 2 * (t.ks.map OT.sz).sum ≤ 5000000) :
    Calls Try.prog 16 #[.agg #[.string t.s, .int .i64 t.r, .slice a t.ks.length cap], .int .i64 (k : Int)] w fun e w' => e = .returned (.int .i64 ((k + 2 * (t.ks.map OT.sz).sum : Nat) : Int)) ∧ MkK w' k t.g a t.ks ∧ OnlyL (bsK t.g t.ks) w w' := by
  have hb0 := (Below.refl w.heap.size w).alloc (Nat.le_refl _) (.cells #[.string t.s, .int .i64 t.r, .slice a t.ks.length cap] 30)
  have B0 : BoxT (w.alloc (.cells #[.string t.s, .int .i64 t.r, .slice a t.ks.length cap] 30)) w.heap.size (.string t.s) (.int .i64 t.r) (.slice a t.ks.length cap) := blk_new _ _ rfl
  have H1 := H.under hb0
  obtain ⟨o0, o1, o2, of0, of1, of2⟩ := B0.cells
  go_enter Try.func16, Try.ntmps16
  go_wp2_with fail
  refine (markKids_any _ t.ks (Nat.le_refl _) t.g a cap k _ H1 hnd hk0 hk).mono ?_
  rintro e w2 ⟨rfl, M2, O2⟩
  clear o0 o1 o2 of0 of1 of2
  go_wp2_with fail
  go_ret
  exact ⟨rfl, M2, (OnlyL.of_below hb0).trans O2⟩
set_option maxHeartbeats 2000000 in
theorem heldKids_any (m : Nat) : ∀ (ks : List OT), (ks.map OT.sz).sum ≤ m → ∀ (g : Nat) (a : Option Addr) (cap k : Nat) (w : World), MkK w k g a ks → 0 < k → k + 2 * (ks.map OT.sz).sum ≤ 5000000 →
    Calls Try.prog 40 #[.slice a ks.length cap, .int .i64 (k : Int)] w fun e w' => e = .returned (.int .i64 ((k + 2 * (ks.map OT.sz).sum : Nat) : Int)) ∧ Below w.heap.size w w' := by
  induction m with
  | zero =>
    intro ks hm g a cap k w H hk0 hk
    have : ks = [] := by
      cases ks with
      | nil => rfl
      | cons x l => rw [List.map_cons, List.sum_cons, OT.sz_eq] at hm; omega
    subst this
    go_enter Try.func40, Try.ntmps40
    go_wp2
    go_loopw [1, 5] (fun kv iv wr => iv = .int .i64 0 ∧ kv = .int .i64 (k : Nat) ∧ wr = w) (fun _ _ _ => 0)
    case atStart => exact ⟨rfl, rfl, rfl⟩
    case round =>
      obtain ⟨rfl, rfl, rfl⟩ := hrel
      go_wp2
      go_ret
      exact ⟨by simp, Below.refl _ _⟩
  | succ m ih =>
    intro ks hm g a cap k w H hk0 hk
    cases H with
    | none k g a =>
      go_enter Try.func40, Try.ntmps40
      go_wp2
      go_loopw [1, 5] (fun kv iv wr => iv = .int .i64 0 ∧ kv = .int .i64 (k : Nat) ∧ wr = w) (fun _ _ _ => 0)
      case atStart => exact ⟨rfl, rfl, rfl⟩
      case round =>
        obtain ⟨rfl, rfl, rfl⟩ := hrel
        go_wp2
        go_ret
        exact ⟨by simp, Below.refl _ _⟩
    | row k g ks cur xa cp h0 hh hc ht =>
      have hlen : ks.length ≤ (ks.map OT.sz).sum := by
        clear hm hh hc ht h0 hk
        induction ks with
        | nil => simp
        | cons x l ih2 => rw [List.length_cons, List.map_cons, List.sum_cons, OT.sz_eq]; omega
      have HIH := Lib.hid ih
      have HMM := Lib.hid hm
      have HC := Lib.hid hc
      have HT := Lib.hid ht
      clear ih hc ht hm h0
      go_enter Try.func40, Try.ntmps40
      go_wp2
      go_loopg [1, 5] (ks.length + 1) (fun gk kv iv wr => ∃ i : Nat, gk = ks.length + 1 - i ∧ i ≤ ks.length ∧ iv = .int .i64 (i : Int) ∧ kv = .int .i64 ((k + offK ks i : Nat) : Int) ∧ Below w.heap.size w wr)
      case atStart => exact ⟨0, rfl, Nat.zero_le _, rfl, by simp [offK], Below.refl _ _⟩
      case round =>
        obtain ⟨i, hgk, hi, rfl, rfl, hb⟩ := hrel
        have HG := Lib.hid hgk
        clear hgk
        have hml := offK_le (ks := ks) i
        by_cases hlt : i < ks.length
        · have hil : (i : Int) < (ks.length : Int) := by omega
          have hbd : (0 : Int) ≤ (i : Int) := by omega
          have hne : ∀ s : ByteArray, (s.toList != s.toList) = false := fun s => by simp
          have hms := offK_succ hlt
          have hm2 := offK_le (ks := ks) (i + 1)
          have hks := OT.sz_eq ks[i]
          obtain ⟨q0, q1, q2⟩ := HC.out i hlt
          have hgl : g < w.heap.size := (Array.getElem?_eq_some_iff.1 hh).1
          have hhr : wr.heap[g]? = some (.cells cur 30) := (hb.block g hgl).trans hh
          have hlr : g < wr.heap.size := (Array.getElem?_eq_some_iff.1 hhr).1
          have c0 : wr.cell? ⟨g, i * 3, none⟩ = some (.string (mB (k + offK ks i))) := by rw [cell_of_block hhr]; exact q0
          have c1 : wr.cell? ⟨g, i * 3 + 1, none⟩ = some (.int .i64 ((k + offK ks i + 1 : Nat) : Int)) := by rw [cell_of_block hhr]; exact q1
          have c2 : wr.cell? ⟨g, i * 3 + 2, none⟩ = some (.slice (xa i) ks[i].ks.length (cp i)) := by rw [cell_of_block hhr]; exact q2
          have HKS := Lib.hid hks
          have HMS := Lib.hid hms
          have hsz0 : offK ks i + 2 * (1 + (ks[i].ks.map OT.sz).sum) ≤ 2 * (ks.map OT.sz).sum := by omega
          clear hks hms q0 q1 q2 hhr
          have z0 : ∀ x, (grow wr x).cell? ⟨g, i * 3, none⟩ = some (.string (mB (k + offK ks i))) := fun x => by rw [grow_cell _ _ _ _ hlr]; exact c0
          have C0 : ∀ x, Calls Try.prog 62 #[.int .i64 ((k + offK ks i : Nat) : Int)] (grow wr x) fun e w' => e = .returned (.string (mB (k + offK ks i))) ∧ ∃ y, w' = grow wr y := fun x => Calls.grow_of (markTextG_any (k + offK ks i) _ (by omega) (by omega))
          go_wp2_with fail
          refine wp_region_grow (by kernel_rfl) (by kernel_rfl) ?_
          repeat (go_big_quiet_step ((first | (go_at_call 62; exact C0 _) | fail)))
          refine wpQuiet_nil ?_
          rintro _ ⟨x, rfl⟩
          have hbx := below_grow wr x
          have hb1 := hb.trans (hbx.mono hb.size)
          have d1 := (grow_cell wr x g (i * 3 + 1) hlr).trans c1
          have d2 := (grow_cell wr x g (i * 3 + 2) hlr).trans c2
          clear z0 C0 c0 c1 c2 hbx
          generalize grow wr x = w1 at *
          go_wp2_with fail
          rw [show ((k : Int) + (offK ks i : Int) + 1 + 1) = ((k + offK ks i + 2 : Nat) : Int) by omega]
          refine (HIH.out ks[i].ks (by have := HMM.out; have := HKS.out; omega) ks[i].g (xa i) (cp i) (k + offK ks i + 2) _ ((HT.out i hlt).under hb1) (by omega) (by omega)).mono ?_
          rintro e w5 ⟨rfl, hb5⟩
          have hb6 := hb1.trans (hb5.mono hb1.size)
          have hnn : ¬ ((k + offK ks i + 2 + 2 * (ks[i].ks.map OT.sz).sum : Nat) : Int) < 0 := by omega
          clear d1 d2 hb1 hb5
          go_wp2_with fail
          go_roundg (ks.length + 1 - (i + 1))
          case measure => have := HG.out; omega
          case rel => exact ⟨i + 1, rfl, by omega, by go_num, by rw [HMS.out, HKS.out]; congr 1; push_cast; omega, hb6⟩
        · have hil : ¬ (i : Int) < (ks.length : Int) := by omega
          obtain rfl : i = ks.length := by omega
          have HF := Lib.hid (offK_all ks)
          go_wp2_with fail
          go_ret
          exact ⟨ret_int (by have := HF.out; omega), hb⟩
theorem heldOT_any (t : OT) (a : Option Addr) (cap k : Nat) (w : World) (H : MkK w k t.g a t.ks) (hk0 : 0 < k) (hk : k + 2 * (t.ks.map OT.sz).sum ≤ 5000000) :
    Calls Try.prog 17 #[.agg #[.string t.s, .int .i64 t.r, .slice a t.ks.length cap], .int .i64 (k : Int)] w fun e w' => e = .returned (.int .i64 ((k + 2 * (t.ks.map OT.sz).sum : Nat) : Int)) ∧ Below w.heap.size w w' := by
  have hb0 := (Below.refl w.heap.size w).alloc (Nat.le_refl _) (.cells #[.string t.s, .int .i64 t.r, .slice a t.ks.length cap] 30)
  have B0 : BoxT (w.alloc (.cells #[.string t.s, .int .i64 t.r, .slice a t.ks.length cap] 30)) w.heap.size (.string t.s) (.int .i64 t.r) (.slice a t.ks.length cap) := blk_new _ _ rfl
  have H1 := H.under hb0
  have hnn : ¬ ((k + 2 * (t.ks.map OT.sz).sum : Nat) : Int) < 0 := by omega
  obtain ⟨o0, o1, o2, of0, of1, of2⟩ := B0.cells
  go_enter Try.func17, Try.ntmps17
  go_wp2_with fail
  refine (heldKids_any _ t.ks (Nat.le_refl _) t.g a cap k _ H1 hk0 hk).mono ?_
  rintro e w2 ⟨rfl, hb2⟩
  clear o0 o1 o2 of0 of1 of2
  go_wp2_with fail
  go_ret
  exact ⟨rfl, hb0.trans (hb2.mono (by simp))⟩
end Go.Proofs.Ytcningdeocmbgaa
