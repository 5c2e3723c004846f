/- What draws: contracts of the model's reader of codes: pick, of, num. They draw something in their bounds; which, is not said. -/
import Derived.Test.YtcningdeocmbgaaLawB
import Derived.Test.YtcningdeocmbgaaTextA
import Derived.Test.YtcningdeocmbgaaBox
import Derived.Deep.AppendLies
import Derived.Deep.RegionLaw
import Derived.Deep.Slices
import Derived.Deep.RegionHeld3
import Derived.Deep.DeepCutAuto
import Derived.Deep.LoopGhost
namespace Go.Proofs.Ytcningdeocmbgaa
open Go.ChangeShapes Go.WideShapes Go.ChangeAt Go.RowKit
/-- of what was there, only block R may have turned -/
structure Only (R : Nat) (w w' : World) : Prop where
  os : w'.os = w.os
  tape : w'.tape = w.tape
  output : w'.output = w.output
  size : w.heap.size ≤ w'.heap.size
  block : ∀ k, k < w.heap.size → k ≠ R → w'.heap[k]? = w.heap[k]?
theorem Only.refl (R : Nat) (w : World) : Only R w w := ⟨rfl, rfl, rfl, Nat.le_refl _, fun _ _ _ => rfl⟩
theorem Only.trans {R : Nat} {a b c : World} (h : Only R a b) (k : Only R b c) : Only R a c :=
  ⟨k.os.trans h.os, k.tape.trans h.tape, k.output.trans h.output, Nat.le_trans h.size k.size, fun i hi hR => (k.block i (Nat.lt_of_lt_of_le hi h.size) hR).trans (h.block i hi hR)⟩
theorem Only.of_below {R : Nat} {w w' : World} (h : Below w.heap.size w w') : Only R w w' := ⟨h.os, h.tape, h.output, h.size, fun k hk _ => h.block k hk⟩
theorem Only.below {R : Nat} {w w' : World} (h : Only R w w') (B : Nat) (hB : B ≤ R) (hs : B ≤ w.heap.size) : Below B w w' := ⟨h.os, h.tape, h.output, h.size, fun k hk => h.block k (by omega) (by omega)⟩
theorem Only.cell {R : Nat} {w w' : World} (h : Only R w w') {p : Addr} (hp : p.block < w.heap.size) (hR : p.block ≠ R) : w'.cell? p = w.cell? p := World.cell?_of_block (w := w) (h.block p.block hp hR)
/-- the reader in block R: a code of at most 2000 bytes, at most k bytes read -/
def Rdk (w : World) (R k : Nat) : Prop := ∃ (a : Option Addr) (n cap p : Nat), w.heap[R]? = some (.cells #[.slice a n cap, .int .i64 (p : Int)] 999999) ∧ n ≤ 2000 ∧ p ≤ k ∧
  ∀ i, i < n → ∃ b off, ∃ x : Int, a = some ⟨b, off, none⟩ ∧ b < R ∧ w.cell? ⟨b, off + i, none⟩ = some (.int .u8 x) ∧ 0 ≤ x ∧ x ≤ 255
theorem Rdk.lt {w : World} {R k : Nat} (h : Rdk w R k) : R < w.heap.size := by
  obtain ⟨_, _, _, _, h, _⟩ := h
  exact (Array.getElem?_eq_some_iff.1 h).1
theorem Rdk.below {w w' : World} {R k : Nat} (h : Rdk w R k) (hb : Below w.heap.size w w') : Rdk w' R k := by
  have hlt := h.lt
  obtain ⟨a, n, cap, p, h1, h2, h3, h4⟩ := h
  refine ⟨a, n, cap, p, by rw [hb.block R hlt]; exact h1, h2, h3, fun i hi => ?_⟩
  obtain ⟨b, off, x, e, hbl, hc, hx⟩ := h4 i hi
  exact ⟨b, off, x, e, hbl, by rw [hb.cell (p := ⟨b, _, none⟩) (Nat.lt_trans hbl hlt)]; exact hc, hx⟩
theorem Rdk.mono {w : World} {R k k' : Nat} (h : Rdk w R k) (hk : k ≤ k') : Rdk w R k' := by
  obtain ⟨a, n, cap, p, h1, h2, h3, h4⟩ := h
  exact ⟨a, n, cap, p, h1, h2, Nat.le_trans h3 hk, h4⟩
def Drawn (P : Int → Prop) (R k : Nat) (w : World) (e : Ending) (w' : World) : Prop := ∃ v : Int, e = .returned (.int .i64 v) ∧ P v ∧ Rdk w' R k ∧ Only R w w'

theorem rd_step {w : World} {R k : Nat} {a : Option Addr} {m cap p : Nat} (hR : w.heap[R]? = some (.cells #[.slice a m cap, .int .i64 (p : Int)] 999999)) (hm : m ≤ 2000) (hp : p ≤ k)
    (hc : ∀ i, i < m → ∃ b off, ∃ x : Int, a = some ⟨b, off, none⟩ ∧ b < R ∧ w.cell? ⟨b, off + i, none⟩ = some (.int .u8 x) ∧ 0 ≤ x ∧ x ≤ 255) :
    Rdk (w.setCell ⟨R, 1, none⟩ (.int .i64 ((p : Int) + 1))) R (k + 1) ∧ Only R w (w.setCell ⟨R, 1, none⟩ (.int .i64 ((p : Int) + 1))) ∧
      (w.setCell ⟨R, 1, none⟩ (.int .i64 ((p : Int) + 1))).cell? ⟨R, 0, none⟩ = some (.slice a m cap) ∧ (w.setCell ⟨R, 1, none⟩ (.int .i64 ((p : Int) + 1))).cell? ⟨R, 1, none⟩ = some (.int .i64 ((p : Int) + 1)) ∧
      ∀ i, i < m → ∃ b off, ∃ x : Int, a = some ⟨b, off, none⟩ ∧ (w.setCell ⟨R, 1, none⟩ (.int .i64 ((p : Int) + 1))).cell? ⟨b, off + i, none⟩ = some (.int .u8 x) ∧ 0 ≤ x ∧ x ≤ 255 := by
  have hh : (w.setCell ⟨R, 1, none⟩ (.int .i64 ((p : Int) + 1))).heap[R]? = some (.cells #[.slice a m cap, .int .i64 ((p + 1 : Nat) : Int)] 999999) := by
    simp [World.setCell, Array.getElem?_modify, hR]
  have ho : Only R w (w.setCell ⟨R, 1, none⟩ (.int .i64 ((p : Int) + 1))) := ⟨rfl, rfl, rfl, by simp [World.setCell], fun j _ hj => Below.heap_setCell _ _ _ _ hj⟩
  have hcell : ∀ i, i < m → ∃ b off, ∃ x : Int, a = some ⟨b, off, none⟩ ∧ b < R ∧ (w.setCell ⟨R, 1, none⟩ (.int .i64 ((p : Int) + 1))).cell? ⟨b, off + i, none⟩ = some (.int .u8 x) ∧ 0 ≤ x ∧ x ≤ 255 := fun i hi => by
    obtain ⟨b, off, x, e, h1, h3, h4⟩ := hc i hi
    exact ⟨b, off, x, e, h1, by rw [ho.cell (p := ⟨b, _, none⟩) (Nat.lt_trans h1 (Array.getElem?_eq_some_iff.1 hR).1) (Nat.ne_of_lt h1)]; exact h3, h4⟩
  refine ⟨⟨a, m, cap, p + 1, hh, hm, by omega, fun i hi => ?_⟩, ho, ?_, ?_, fun i hi => ?_⟩
  · obtain ⟨b, off, x, e, h1, h3, h4⟩ := hcell i hi
    exact ⟨b, off, x, e, h1, h3, h4⟩
  · rw [cell_of_block hh 0]; rfl
  · rw [cell_of_block hh 1]; rfl
  · obtain ⟨b, off, x, e, _, h3, h4⟩ := hcell i hi
    exact ⟨b, off, x, e, h3, h4⟩

theorem xor_nonneg (a b : Nat) (ha : a < 2 ^ 62) (hb : b < 2 ^ 62) : 0 ≤ bits .xor .i64 (a : Int) (b : Int) := by
  have hx : a ^^^ b < 2 ^ 62 := Nat.xor_lt_two_pow ha hb
  have h1 : (BitVec.ofInt 64 (a : Int)).toNat = a := by
    rw [BitVec.ofInt_natCast, BitVec.toNat_ofNat]; exact Nat.mod_eq_of_lt (by omega)
  have h2 : (BitVec.ofInt 64 (b : Int)).toNat = b := by
    rw [BitVec.ofInt_natCast, BitVec.toNat_ofNat]; exact Nat.mod_eq_of_lt (by omega)
  have h3 : bits .xor .i64 (a : Int) (b : Int) = IntKind.i64.wrap ((BitVec.ofInt 64 (a : Int) ^^^ BitVec.ofInt 64 (b : Int)).toNat : Int) := rfl
  rw [h3, BitVec.toNat_xor, h1, h2, IntWalk.i64_in _ (by omega)]
  exact Int.natCast_nonneg _
/-- what pick tells of a mixture is in its bounds -/
theorem pick_mix (x y : Int) (p m : Nat) (N : Int) (hx0 : 0 ≤ x) (hx1 : x ≤ 255) (hy0 : 0 ≤ y) (hy1 : y ≤ 255) (hp : p ≤ 1000000) (hN : 0 < N) :
    0 ≤ (bits .xor .i64 (wrap64 (x * 131 + y * 1117 + (p : Int) * 29 + wrap64 (wrap64 ((p : Int) / (m : Int)) * 53))) (wrap64 ((wrap64 (x * 131 + y * 1117 + (p : Int) * 29 + wrap64 (wrap64 ((p : Int) / (m : Int)) * 53))).tdiv 64))).tmod N ∧
    (bits .xor .i64 (wrap64 (x * 131 + y * 1117 + (p : Int) * 29 + wrap64 (wrap64 ((p : Int) / (m : Int)) * 53))) (wrap64 ((wrap64 (x * 131 + y * 1117 + (p : Int) * 29 + wrap64 (wrap64 ((p : Int) / (m : Int)) * 53))).tdiv 64))).tmod N < N := by
  have hd : 0 ≤ (p : Int) / (m : Int) ∧ (p : Int) / (m : Int) ≤ (p : Int) := ⟨Int.ediv_nonneg (by omega) (by omega), Int.ediv_le_self _ (by omega)⟩
  generalize (p : Int) / (m : Int) = d at *
  rw [IntWalk.wrap64_in d (by omega), IntWalk.wrap64_in (d * 53) (by omega), IntWalk.wrap64_in (x * 131 + y * 1117 + (p : Int) * 29 + d * 53) (by omega)]
  obtain ⟨Z, hZ⟩ : ∃ Z : Nat, x * 131 + y * 1117 + (p : Int) * 29 + d * 53 = (Z : Int) := ⟨(x * 131 + y * 1117 + (p : Int) * 29 + d * 53).toNat, by omega⟩
  have hZ1 : Z < 2 ^ 62 := by omega
  rw [hZ, show (Z : Int).tdiv 64 = ((Z / 64 : Nat) : Int) from rfl, IntWalk.wrap64_in _ (by omega)]
  have h := xor_nonneg Z (Z / 64) hZ1 (by omega)
  generalize bits .xor .i64 (Z : Int) ((Z / 64 : Nat) : Int) = V at *
  rw [Int.tmod_eq_emod_of_nonneg h]
  exact ⟨Int.emod_nonneg _ (by omega), Int.emod_lt_of_pos _ hN⟩

end Go.Proofs.Ytcningdeocmbgaa
namespace Go.Proofs.Ytcningdeocmbgaa
open Go.ChangeShapes Go.WideShapes Go.ChangeAt Go.RowKit
def DrawnS (P : ByteArray → Prop) (R k : Nat) (w : World) (e : Ending) (w' : World) : Prop := ∃ s : ByteArray, e = .returned (.string s) ∧ P s ∧ Rdk w' R k ∧ Only R w w'
/-- the lists of constants that are drawn from, in a block just made -/
theorem lit_cells (w : World) (strs : List ByteArray) (T : TypeId) : ∀ i (h : i < strs.length), (w.alloc (.cells (strs.map Value.string).toArray T)).cell? ⟨w.heap.size, i, none⟩ = some (.string strs[i]) := fun i h => by
  rw [cell_of_block (blk_new w _ rfl) i]; simp [h]
theorem lit_ints (w : World) (zs : List Int) (T : TypeId) : ∀ i (h : i < zs.length), (w.alloc (.cells (zs.map (Value.int .i64)).toArray T)).cell? ⟨w.heap.size, i, none⟩ = some (.int .i64 zs[i]) := fun i h => by
  rw [cell_of_block (blk_new w _ rfl) i]; simp [h]
theorem Rdk.alloc {w : World} {R k : Nat} (h : Rdk w R k) (o : Obj) : Rdk (w.alloc o) R k := h.below ((Below.refl _ _).alloc (Nat.le_refl _) _)
theorem Only.alloc {R : Nat} {w w' : World} (h : Only R w w') (o : Obj) : Only R w (w'.alloc o) := h.trans (Only.of_below ((Below.refl _ _).alloc (Nat.le_refl _) _))

end Go.Proofs.Ytcningdeocmbgaa
namespace Go.Proofs.Ytcningdeocmbgaa
open Go.ChangeShapes Go.WideShapes Go.ChangeAt Go.RowKit
def SmallR (rs : List RuleT) : Prop := ∀ r ∈ rs, r.1.size ≤ 5 ∧ r.2.size ≤ 5
/-- v is a grammar, of few and short rules, that lie from block B on -/
def GramVal (w : World) (B m : Nat) (v : Value) (st : ByteArray) (rs : List RuleT) : Prop := ∃ b off cap, v = .agg #[.string st, .slice (some ⟨b, off, none⟩) rs.length cap] ∧ rs.length ≤ cap ∧ RulesAt w (some ⟨b, off, none⟩) rs ∧ rs.length ≤ m ∧ st.size ≤ 100 ∧ SmallR rs ∧ B ≤ b
def MadeG (w : World) (e : Ending) (w' : World) : Prop := ∃ v st rs, e = .returned v ∧ GramVal w' w.heap.size 6 v st rs ∧ Below w.heap.size w w'
def flatR (rs : List RuleT) : List Value := rs.flatMap fun r => [.string r.1, .string r.2]
theorem flatR_len (rs : List RuleT) : (flatR rs).length = rs.length * 2 := by
  unfold flatR
  induction rs with
  | nil => rfl
  | cons r rs ih => rw [List.flatMap_cons, List.length_append, ih, List.length_cons]; simp; omega
theorem flatR_at : ∀ (rs : List RuleT) (i : Nat), i < rs.length * 2 → (flatR rs)[i]? = some (ruleCells rs i)
  | [], i, h => by simp at h
  | r :: rs, 0, _ => by simp [flatR, ruleCells]
  | r :: rs, 1, _ => by simp [flatR, ruleCells]
  | r :: rs, i + 2, h => by
    have ih := flatR_at rs i (by simp at h; omega)
    have e : ruleCells (r :: rs) (i + 2) = ruleCells rs i := by
      unfold ruleCells
      rw [show (i + 2) / 2 = i / 2 + 1 from by omega, show (i + 2) % 2 = i % 2 from by omega, List.getElem?_cons_succ]
    rw [e, ← ih]
    simp [flatR]
theorem row_flat (w : World) (rs : List RuleT) (T : TypeId) {cs : Array Value} (h : cs = (flatR rs).toArray) : (w.alloc (.cells cs T)).rowIs w.heap.size T (rs.length * 2) (ruleCells rs) := by
  subst h
  have := World.rowIs_alloc w (flatR rs).toArray T (ruleCells rs) (fun i hi => by rw [List.getElem?_toArray]; exact flatR_at rs i (by rw [← flatR_len]; simpa using hi))
  have hsz : (flatR rs).toArray.size = rs.length * 2 := by rw [List.size_toArray, flatR_len]
  rwa [hsz] at this
theorem base_end (w : World) (o : Obj) (cs : Array Value) (rs : List RuleT) (n : Nat) (h : cs = (flatR rs).toArray) (hn : rs.length = n) (hf : rs.length ≤ 6) (hs : SmallR rs) :
    MadeG w (.returned (.agg #[.string ⟨#[65]⟩, .slice (some ⟨w.heap.size + 1, 0, none⟩) n n])) ((w.alloc o).alloc (.cells cs 84)) := by
  subst hn
  refine ⟨_, ⟨#[65]⟩, rs, rfl, ⟨w.heap.size + 1, 0, rs.length, rfl, Nat.le_refl _, ?_, hf, by decide, hs, Nat.le_succ _⟩, ((Below.refl _ _).alloc (Nat.le_refl _) _).alloc (by simp) _⟩
  have hr := row_flat (w.alloc o) rs 84 h
  simp only [Deep.nblk_alloc] at hr
  refine rulesAt_of_row hr ⟨by unfold maxLen; omega, fun i hi => ?_⟩
  have := hs rs[i] (List.getElem_mem hi)
  unfold maxLen
  omega
end Go.Proofs.Ytcningdeocmbgaa
namespace Go.Proofs.Ytcningdeocmbgaa
open Go.ChangeShapes Go.WideShapes Go.ChangeAt Go.RowKit
theorem infoRule : (Try.prog.info? 84).map (fun i => (i.zero, i.size, i.bytes)) = some (some (.agg #[.string ByteArray.empty, .string ByteArray.empty]), 2, 32) := by kernel_rfl
theorem SmallR.fits {rs : List RuleT} (h : SmallR rs) (hl : rs.length ≤ 1000) : Fits rs := ⟨by unfold maxLen; omega, fun i hi => by have := h rs[i] (List.getElem_mem hi); unfold maxLen; omega⟩
/-- the slice v is the call's own, from block B on, and holds these rules -/
def OwnR (w : World) (B : Nat) (v : Value) (rs : List RuleT) : Prop := (∃ g cap, v = .slice (some ⟨g, 0, none⟩) rs.length cap ∧ B ≤ g ∧ rs.length ≤ cap) ∧ w.ownsRow B 84 2 v rs.length (flatR rs)
theorem OwnR.block {w : World} {B : Nat} {v : Value} {rs : List RuleT} (h : OwnR w B v rs) : ∃ g cap cur, v = .slice (some ⟨g, 0, none⟩) rs.length cap ∧ B ≤ g ∧ rs.length ≤ cap ∧ w.heap[g]? = some (.cells cur 84 (0, 0)) ∧ cur.size = cap * 2 ∧ cur.toList.take (rs.length * 2) = flatR rs := by
  obtain ⟨⟨g, cap, rfl, hg, hl⟩, _, h2⟩ := h
  rcases h2 with ⟨h, _⟩ | ⟨g', cap', cur, hv, hB, hh, _, _, hs, ht⟩
  · cases h
  · simp only [Value.slice.injEq, Option.some.injEq, Addr.mk.injEq] at hv
    obtain ⟨⟨rfl, _⟩, _, rfl⟩ := hv
    exact ⟨g, cap, cur, rfl, hg, hl, hh, hs, ht⟩
theorem OwnR.at {w : World} {B : Nat} {v : Value} {rs : List RuleT} (h : OwnR w B v rs) (hs : SmallR rs) (hl : rs.length ≤ 1000) : ∃ g cap, v = .slice (some ⟨g, 0, none⟩) rs.length cap ∧ B ≤ g ∧ rs.length ≤ cap ∧ g < w.heap.size ∧ RulesAt w (some ⟨g, 0, none⟩) rs := by
  obtain ⟨g, cap, cur, rfl, hg, hlc, hh, hcs, ht⟩ := h.block
  have hlt : g < w.heap.size := (Array.getElem?_eq_some_iff.1 hh).1
  refine ⟨g, cap, rfl, hg, hlc, hlt, (hs.fits hl).1, fun i hi => ?_⟩
  have hf := (hs.fits hl).2 i hi
  have hc : ∀ j, j < rs.length * 2 → w.cell? ⟨g, j, none⟩ = some (ruleCells rs j) := fun j hj => by
    rw [cell_of_block hh j, ← flatR_at rs j hj, ← ht, List.getElem?_take, if_pos hj]; simp
  exact ⟨hf.1, hf.2, g, 0, rfl, hlt, by rw [Nat.zero_add, hc _ (by omega), ruleCells_even rs i hi], by rw [Nat.zero_add, hc _ (by omega), ruleCells_odd rs i hi]⟩
theorem OwnR.keep {w w' : World} {B : Nat} {v : Value} {rs : List RuleT} (h : OwnR w B v rs) (hk : ∀ g, B ≤ g → g < w.heap.size → w.heap[g]? ≠ none → (∃ cur, w.heap[g]? = some (.cells cur 84 (0, 0))) → w'.heap[g]? = w.heap[g]?) : OwnR w' B v rs := by
  obtain ⟨g, cap, cur, rfl, hg, hlc, hh, hcs, ht⟩ := h.block
  have hlt : g < w.heap.size := (Array.getElem?_eq_some_iff.1 hh).1
  refine ⟨⟨g, cap, rfl, hg, hlc⟩, h.2.1, .inr ⟨g, cap, cur, rfl, hg, ?_, hlc, ?_, hcs, ht⟩⟩
  · rw [hk g hg hlt (by rw [hh]; simp) ⟨cur, hh⟩]; exact hh
  · rcases h.2.2 with ⟨h, _⟩ | ⟨g', cap', cur', hv, _, _, _, hm, _⟩
    · cases h
    · simp only [Value.slice.injEq] at hv
      rw [hv.2.2]; exact hm
theorem OwnR.below {w w' : World} {B : Nat} {v : Value} {rs : List RuleT} (h : OwnR w B v rs) (hb : Below w.heap.size w w') : OwnR w' B v rs := h.keep fun g _ hlt _ _ => hb.block g hlt
theorem OwnR.only {R : Nat} {w w' : World} {B : Nat} {v : Value} {rs : List RuleT} (h : OwnR w B v rs) (hb : Only R w w') (hR : R < B) : OwnR w' B v rs := h.keep fun g hg hlt _ _ => hb.block g hlt (by omega)
/-- a store elsewhere: into a block of another type -/
theorem OwnR.store {w : World} {B : Nat} {v : Value} {rs : List RuleT} (h : OwnR w B v rs) {p : Addr} {c : Array Value} {T : TypeId} (hp : w.heap[p.block]? = some (.cells c T)) (hT : T ≠ 84) (u : Value) : OwnR (w.setCell p u) B v rs :=
  h.keep fun g _ _ _ ⟨cur, hc⟩ => Below.heap_setCell _ _ _ _ (fun e => by rw [e, hp] at hc; simp only [Option.some.injEq, Obj.cells.injEq] at hc; exact hT hc.2.1)
def DrawnG (R k m : Nat) (w : World) (e : Ending) (w' : World) : Prop := ∃ v st rs, e = .returned v ∧ GramVal w' w.heap.size m v st rs ∧ Rdk w' R k ∧ Only R w w'
end Go.Proofs.Ytcningdeocmbgaa
namespace Go.Proofs.Ytcningdeocmbgaa
open Go.ChangeShapes Go.WideShapes Go.ChangeAt Go.RowKit
/-- block b is a box of these two values -/
def BoxG (w : World) (b : Nat) (v0 v1 : Value) : Prop := w.heap[b]? = some (.cells #[v0, v1] 35)
theorem BoxG.lt {w : World} {b : Nat} {v0 v1 : Value} (h : BoxG w b v0 v1) : b < w.heap.size := (Array.getElem?_eq_some_iff.1 h).1
theorem BoxG.below {w w' : World} {b : Nat} {v0 v1 : Value} (h : BoxG w b v0 v1) (hb : Below w.heap.size w w') : BoxG w' b v0 v1 := (hb.block b h.lt).trans h
theorem BoxG.only {R : Nat} {w w' : World} {b : Nat} {v0 v1 : Value} (h : BoxG w b v0 v1) (hb : Only R w w') (hR : b ≠ R) : BoxG w' b v0 v1 := (hb.block b h.lt hR).trans h
theorem BoxG.cells {w : World} {b : Nat} {v0 v1 : Value} (h : BoxG w b v0 v1) : w.cell? ⟨b, 0, none⟩ = some v0 ∧ w.cell? ⟨b, 1, none⟩ = some v1 ∧ w.frozen? ⟨b, 0, none⟩ = false ∧ w.frozen? ⟨b, 1, none⟩ = false :=
  ⟨cell_of_block h 0, cell_of_block h 1, frozen_of_block h 0, frozen_of_block h 1⟩
theorem BoxG.set0 {w : World} {b : Nat} {v0 v1 : Value} (h : BoxG w b v0 v1) (u : Value) : BoxG (w.setCell ⟨b, 0, none⟩ u) b u v1 := by
  have h' : w.heap[b]? = some (.cells #[v0, v1] 35) := h
  simp [BoxG, World.setCell, Array.getElem?_modify, h']
theorem BoxG.set1 {w : World} {b : Nat} {v0 v1 : Value} (h : BoxG w b v0 v1) (u : Value) : BoxG (w.setCell ⟨b, 1, none⟩ u) b v0 u := by
  have h' : w.heap[b]? = some (.cells #[v0, v1] 35) := h
  simp [BoxG, World.setCell, Array.getElem?_modify, h']
theorem BoxG.other {w : World} {b : Nat} {v0 v1 : Value} (h : BoxG w b v0 v1) {p : Addr} (hp : b ≠ p.block) (u : Value) : BoxG (w.setCell p u) b v0 v1 := (Below.heap_setCell _ _ _ _ hp).trans h
theorem Rdk.other {w : World} {R k : Nat} (h : Rdk w R k) {p : Addr} (hR : R < p.block) (u : Value) : Rdk (w.setCell p u) R k := by
  obtain ⟨a, n, cap, q, h1, h2, h3, h4⟩ := h
  refine ⟨a, n, cap, q, (Below.heap_setCell _ _ _ _ (by omega)).trans h1, h2, h3, fun i hi => ?_⟩
  obtain ⟨b, off, x, e, hbl, hc, hx⟩ := h4 i hi
  exact ⟨b, off, x, e, hbl, by rw [World.cell?_of_block (w := w) (a := ⟨b, off + i, none⟩) (Below.heap_setCell _ _ _ _ (by show b ≠ p.block; omega))]; exact hc, hx⟩
theorem Only.store {R B : Nat} {w w' : World} (h : Only R w w') (hB : w.heap.size ≤ B) {p : Addr} (hp : B ≤ p.block) (u : Value) : Only R w (w'.setCell p u) :=
  ⟨h.os, h.tape, h.output, by have := h.size; simpa [World.setCell] using this, fun k hk hR => (Below.heap_setCell _ _ _ _ (by omega)).trans (h.block k hk hR)⟩

theorem RulesAt.other {w : World} {a : Option Addr} {rs : List RuleT} (h : RulesAt w a rs) {p : Addr} (hp : ∀ x : Addr, a = some x → x.block ≠ p.block) (u : Value) : RulesAt (w.setCell p u) a rs := by
  refine ⟨h.1, fun i hi => ?_⟩
  obtain ⟨h1, h2, b, off, rfl, hlt, c1, c2⟩ := h.2 i hi
  have hne : b ≠ p.block := hp _ rfl
  refine ⟨h1, h2, b, off, rfl, by simpa [World.setCell] using hlt, ?_, ?_⟩
  · rw [World.cell?_of_block (w := w) (a := ⟨b, _, none⟩) (Below.heap_setCell _ _ _ _ hne)]; exact c1
  · rw [World.cell?_of_block (w := w) (a := ⟨b, _, none⟩) (Below.heap_setCell _ _ _ _ hne)]; exact c2
theorem GramVal.other {w : World} {B m : Nat} {v : Value} {st : ByteArray} {rs : List RuleT} (h : GramVal w B m v st rs) {p : Addr} (hp : p.block < B) (u : Value) : GramVal (w.setCell p u) B m v st rs := by
  obtain ⟨b, off, cap, g0, g1, g2, g3, g4, g5, g6⟩ := h
  exact ⟨b, off, cap, g0, g1, g2.other (fun x hx => by cases hx; show b ≠ p.block; omega) u, g3, g4, g5, g6⟩
theorem GramVal.below {w w' : World} {B m : Nat} {v : Value} {st : ByteArray} {rs : List RuleT} (h : GramVal w B m v st rs) (hb : Below w.heap.size w w') : GramVal w' B m v st rs := by
  obtain ⟨b, off, cap, g0, g1, g2, g3, g4, g5, g6⟩ := h
  exact ⟨b, off, cap, g0, g1, g2.below hb (Nat.le_refl _), g3, g4, g5, g6⟩
theorem GramVal.mono {w : World} {B B' m : Nat} {v : Value} {st : ByteArray} {rs : List RuleT} (h : GramVal w B m v st rs) (hB : B' ≤ B) : GramVal w B' m v st rs := by
  obtain ⟨b, off, cap, g0, g1, g2, g3, g4, g5, g6⟩ := h
  exact ⟨b, off, cap, g0, g1, g2, g3, g4, g5, Nat.le_trans hB g6⟩

theorem flatR_snoc (rs : List RuleT) (l r : ByteArray) : flatR (rs ++ [(l, r)]) = flatR rs ++ [.string l, .string r] := by simp [flatR]
/-- a block that an append to a slice of rules leaves alone -/
theorem grown_keep {w w' : World} {B : Nat} {v : Value} {rs : List RuleT} (h : OwnR w B v rs) (hg : w.grownBy w' v.ownBlock) {b : Nat} {o : Obj} (hb : w.heap[b]? = some o) (ho : ∀ cur, o ≠ .cells cur 84 (0, 0)) : w'.heap[b]? = some o := by
  obtain ⟨g, cap, cur, rfl, _, _, hh, _, _⟩ := h.block
  have hlt : b < w.heap.size := (Array.getElem?_eq_some_iff.1 hb).1
  rw [hg.block b hlt (fun e => by
    simp only [Value.ownBlock, Option.some.injEq] at e
    subst e
    rw [hh] at hb
    simp only [Option.some.injEq] at hb
    exact ho _ hb.symm)]
  exact hb
theorem own_grown {w' : World} {B : Nat} {v' : Value} {rs : List RuleT} {l r : ByteArray} (ho : w'.ownsRow B 84 2 v' (rs.length + 1) (flatR rs ++ [.string l, .string r])) (hn : ¬ v' = .slice none 0 0) : OwnR w' B v' (rs ++ [(l, r)]) := by
  have hlen : (rs ++ [(l, r)]).length = rs.length + 1 := by simp
  refine ⟨?_, by rw [flatR_snoc, hlen]; exact ho⟩
  rcases ho.2 with ⟨h0, _⟩ | ⟨g, cap, cur, hv, hB, _, hl, _⟩
  · exact absurd h0 hn
  · exact ⟨g, cap, by rw [hlen]; exact hv, hB, by rw [hlen]; exact hl⟩
theorem only_grown {R : Nat} {w w1 w' : World} {B : Nat} {v : Value} {rs : List RuleT} (h : Only R w w1) (hB : w.heap.size ≤ B) (ho : OwnR w1 B v rs) (hg : w1.grownBy w' v.ownBlock) : Only R w w' := by
  obtain ⟨g, cap, cur, rfl, hgB, _, _, _, _⟩ := ho.block
  exact ⟨hg.os.trans h.os, hg.tape.trans h.tape, hg.output.trans h.output, Nat.le_trans h.size hg.size, fun j hj hR => (hg.block j (Nat.lt_of_lt_of_le hj h.size) (fun e => by simp only [Value.ownBlock, Option.some.injEq] at e; omega)).trans (h.block j hj hR)⟩
theorem rdk_grown {R k : Nat} {w1 w' : World} {B : Nat} {v : Value} {rs : List RuleT} (h : Rdk w1 R k) (hB : R < B) (ho : OwnR w1 B v rs) (hg : w1.grownBy w' v.ownBlock) : Rdk w' R k := by
  have hlt := h.lt
  obtain ⟨g, cap, cur, rfl, hgB, _, _, _, _⟩ := ho.block
  have hk : ∀ j, j ≤ R → w'.heap[j]? = w1.heap[j]? := fun j hj => hg.block j (by omega) (fun e => by simp only [Value.ownBlock, Option.some.injEq] at e; omega)
  obtain ⟨a, n, cap', q, h1, h2, h3, h4⟩ := h
  refine ⟨a, n, cap', q, (hk R (Nat.le_refl _)).trans h1, h2, h3, fun i hi => ?_⟩
  obtain ⟨b, off, x, e, hbl, hc, hx⟩ := h4 i hi
  exact ⟨b, off, x, e, hbl, by rw [World.cell?_of_block (w := w1) (a := ⟨b, off + i, none⟩) (hk b (Nat.le_of_lt hbl))]; exact hc, hx⟩
/-- what holds at the head of each round -/
def GramRel (R k j A G : Nat) (w wr : World) : Prop := ∃ vr rs, BoxG wr G (.string ⟨#[65]⟩) vr ∧ OwnR wr (A + 1) vr rs ∧ SmallR rs ∧ rs.length + j ≤ 5 ∧ Rdk wr R (k + 2 + (5 - j) * 8) ∧ BoxG wr A (.string ⟨#[]⟩) (.slice none 0 0) ∧ Only R w wr

end Go.Proofs.Ytcningdeocmbgaa
namespace Go.Proofs.Ytcningdeocmbgaa
open Go.ChangeShapes Go.WideShapes Go.ChangeAt Go.RowKit
theorem flatR_append (rs us : List RuleT) : flatR (rs ++ us) = flatR rs ++ flatR us := by simp [flatR]
theorem flatR_one (rs : List RuleT) : ∀ u ∈ flatR rs, u.oneCell' = true := by
  intro u hu
  obtain ⟨r, _, h⟩ := List.mem_flatMap.1 hu
  simp only [List.mem_cons, List.not_mem_nil, or_false] at h
  rcases h with rfl | rfl <;> rfl
theorem rules_cells {w : World} {b off : Nat} {us : List RuleT} (h : RulesAt w (some ⟨b, off, none⟩) us) : ∀ j u, (flatR us)[j]? = some u → w.cell? ((⟨b, off, none⟩ : Addr).add j) = some u := by
  intro j u hj
  have hlt : j < us.length * 2 := by have := (List.getElem?_eq_some_iff.1 hj).1; rwa [flatR_len] at this
  rw [flatR_at us j hlt] at hj
  rw [WideShapes.add_plain]
  have hi : j / 2 < us.length := by omega
  obtain ⟨_, _, b', off', e, _, c1, c2⟩ := h.2 (j / 2) hi
  simp only [Option.some.injEq, Addr.mk.injEq] at e
  obtain ⟨rfl, rfl, _⟩ := e
  rcases Nat.mod_two_eq_zero_or_one j with h0 | h1
  · rw [← hj, show off + j = off + j / 2 * 2 from by omega, c1, show ruleCells us j = ruleCells us (j / 2 * 2) from by rw [show j / 2 * 2 = j from by omega], ruleCells_even us (j / 2) hi]
  · rw [← hj, show off + j = off + j / 2 * 2 + 1 from by omega, c2, show ruleCells us j = ruleCells us (j / 2 * 2 + 1) from by rw [show j / 2 * 2 + 1 = j from by omega], ruleCells_odd us (j / 2) hi]
theorem step_append_rules {ops : Array Oper} {o : Oper} {a : Act} {w : World} {K : Act → World → Prop} {Q : Exit → Act → World → Prop} {E : Prop} (hgd : o.guard = none) (s x : Operand)
    (ho : o.op = .call { callee := .builtin .append, args := #[s, x], argTypes := #[33, 33] })
    (B : Nat) (v : Value) (rs us : List RuleT) (b off c : Nat) (hs : a.eval s = v) (hx : a.eval x = .slice (some ⟨b, off, none⟩) us.length c) (hown : OwnR w B v rs) (hU : RulesAt w (some ⟨b, off, none⟩) us)
    (hlen : rs.length + us.length ≤ 1000) (hB : B ≤ w.heap.size)
    (h : ∀ g cap w', OwnR w' B (.slice (some ⟨g, 0, none⟩) (rs.length + us.length) cap) (rs ++ us) → w.grownBy w' v.ownBlock → K (a.put o.dst (.slice (some ⟨g, 0, none⟩) (rs.length + us.length) cap)) w') :
    if Region.wanted o (yielded ops a.tmps) = true then Oper.wp Try.prog o a w K Q else E := by
  obtain ⟨i0, hi0, hz0, hz1, hz2⟩ := info_parts infoRule
  have hw : Region.wanted o (yielded ops a.tmps) = true := by simp [Region.wanted, hgd]
  rw [if_pos hw]
  refine wp_append_own w s x 33 ho B 84 i0 (.agg #[.string ByteArray.empty, .string ByteArray.empty]) 2 32 Try.underlying33 hi0 hz0 hz1 hz2 rfl (by decide) v rs.length (flatR rs) hs hown.2 ⟨b, off, none⟩ us.length c (flatR us) hx (flatR_len us) (rules_cells hU) (flatR_one us) (by unfold maxLen; omega) (by omega) hB ?_
  intro v' w' h1 h2 h3
  obtain ⟨g, cap, cur, hv, _⟩ := hown.block
  have hne : ¬ v' = .slice none 0 0 := fun e => by have := (h3.1 e).1; rw [hv] at this; cases this
  rcases h1.2 with ⟨h0, _⟩ | ⟨g', cap', cur', hv', hB', hh', hl', hm', hs', ht'⟩
  · exact absurd h0 hne
  · subst hv'
    refine h g' cap' w' ⟨⟨g', cap', by simp, hB', by simpa using hl'⟩, ?_⟩ h2
    rw [flatR_append, List.length_append]
    exact h1
theorem ruleCells_set (rs : List RuleT) (j : Nat) (hj : j < rs.length) (x : RuleT) (i : Nat) : ruleCells (rs.set j x) i = if i / 2 = j then .string (if i % 2 = 0 then x.1 else x.2) else ruleCells rs i := by
  unfold ruleCells
  rw [List.getElem?_set]
  by_cases h : i / 2 = j
  · rw [if_pos h, if_pos h.symm, if_pos hj]
  · rw [if_neg h, if_neg (fun e => h e.symm)]
/-- one cell of the rules is written anew -/
theorem own_set {w : World} {B g cap n : Nat} {rs rs' : List RuleT} (h : OwnR w B (.slice (some ⟨g, 0, none⟩) n cap) rs) (i : Nat) (u : Value) (hi : i < rs.length * 2) (hl : rs'.length = rs.length) (hu : ∀ q, q < rs.length * 2 → ruleCells rs' q = if q = i then u else ruleCells rs q) :
    OwnR (w.setCell ⟨g, i, none⟩ u) B (.slice (some ⟨g, 0, none⟩) n cap) rs' := by
  obtain ⟨g', cap', cur, e, hgB, hlc, hh, hcs, ht⟩ := h.block
  simp only [Value.slice.injEq, Option.some.injEq, Addr.mk.injEq] at e
  obtain ⟨⟨rfl, _⟩, rfl, rfl⟩ := e
  have hm : cap ≤ maxLen := by
    rcases h.2.2 with ⟨h, _⟩ | ⟨g', cap', cur', hv, _, _, _, hm, _⟩
    · cases h
    · simp only [Value.slice.injEq] at hv
      rw [hv.2.2]; exact hm
  refine ⟨⟨g, cap, by rw [hl], hgB, by omega⟩, by rw [flatR_len], .inr ⟨g, cap, cur.setIfInBounds i u, by rw [hl], hgB, by simp [World.setCell, Array.getElem?_modify, hh], by omega, hm, by simpa using hcs, ?_⟩⟩
  apply List.ext_getElem?
  intro q
  rw [hl, List.getElem?_take]
  by_cases hq : q < rs.length * 2
  · rw [if_pos hq, flatR_at rs' q (by omega), hu q hq, Array.toList_setIfInBounds, List.getElem?_set]
    have hcq : cur.toList[q]? = some (ruleCells rs q) := by rw [← flatR_at rs q hq, ← ht, List.getElem?_take, if_pos hq]
    by_cases hqi : q = i
    · subst hqi
      rw [if_pos rfl, if_pos (by simp; omega), if_pos rfl]
    · rw [if_neg (fun e => hqi e.symm), if_neg hqi, hcq]
  · rw [if_neg hq, List.getElem?_eq_none (by rw [flatR_len]; omega)]
theorem own_cell {w : World} {B g cap n : Nat} {rs : List RuleT} (h : OwnR w B (.slice (some ⟨g, 0, none⟩) n cap) rs) (q : Nat) (hq : q < rs.length * 2) : w.cell? ⟨g, q, none⟩ = some (ruleCells rs q) ∧ w.frozen? ⟨g, q, none⟩ = false := by
  obtain ⟨g', cap', cur, e, hgB, hlc, hh, hcs, ht⟩ := h.block
  simp only [Value.slice.injEq, Option.some.injEq, Addr.mk.injEq] at e
  obtain ⟨⟨rfl, _⟩, rfl, rfl⟩ := e
  refine ⟨?_, frozen_of_block hh q⟩
  rw [cell_of_block hh q, ← flatR_at rs q hq, ← ht, List.getElem?_take, if_pos hq]; simp
theorem lit_rules (w : World) (l r : ByteArray) (h1 : l.size ≤ 5) (h2 : r.size ≤ 5) : RulesAt (w.alloc (.cells #[.string l, .string r] 84)) (some ⟨w.heap.size, 0, none⟩) [(l, r)] :=
  rulesAt_of_row (row_flat w [(l, r)] 84 rfl) ⟨by unfold maxLen; simp, fun i hi => by
    match i, hi with
    | 0, _ => unfold maxLen; exact ⟨by show l.size ≤ _; omega, by show r.size ≤ _; omega⟩⟩
end Go.Proofs.Ytcningdeocmbgaa
namespace Go.Proofs.Ytcningdeocmbgaa
open Go.ChangeShapes Go.WideShapes Go.ChangeAt Go.RowKit
theorem BoxG.old {w : World} {b : Nat} {v0 v1 : Value} (h : BoxG w b v0 v1) (o : Obj) : BoxG (w.alloc o) b v0 v1 := h.below ((Below.refl _ _).alloc (Nat.le_refl _) _)
theorem OwnR.alloc {w : World} {B : Nat} {v : Value} {rs : List RuleT} (h : OwnR w B v rs) (o : Obj) : OwnR (w.alloc o) B v rs := h.below ((Below.refl _ _).alloc (Nat.le_refl _) _)
theorem RulesAt.alloc {w : World} {a : Option Addr} {rs : List RuleT} (h : RulesAt w a rs) (o : Obj) : RulesAt (w.alloc o) a rs := h.below ((Below.refl _ _).alloc (Nat.le_refl _) _) (Nat.le_refl _)
def MoreRel (R k m A C gk : Nat) (st : ByteArray) (w wr : World) : Prop := ∃ us g cap, BoxG wr C (.string st) (.slice (some ⟨g, 0, none⟩) us.length cap) ∧ OwnR wr (A + 2) (.slice (some ⟨g, 0, none⟩) us.length cap) us ∧ SmallR us ∧ us.length ≤ m + 4 ∧ gk ≤ 9 ∧ 9 - us.length ≤ gk ∧ Rdk wr R (k + 3 + 3 * (9 - gk)) ∧ BoxG wr (A + 1) (.string ⟨#[]⟩) (.slice none 0 0) ∧ Only R w wr
theorem small_snoc {rs : List RuleT} (h : SmallR rs) {l r : ByteArray} (h1 : l.size ≤ 5) (h2 : r.size ≤ 5) : SmallR (rs ++ [(l, r)]) := by
  intro x hx
  rcases List.mem_append.1 hx with hx | hx
  · exact h x hx
  · obtain rfl : x = (l, r) := by simpa using hx
    exact ⟨h1, h2⟩
theorem own_new (w : World) (B : Nat) (hB : B ≤ w.heap.size) : OwnR (w.alloc (.cells #[] 84)) B (.slice (some ⟨w.heap.size, 0, none⟩) 0 0) [] :=
  ⟨⟨w.heap.size, 0, rfl, hB, Nat.le_refl _⟩, rfl, .inr ⟨w.heap.size, 0, #[], rfl, hB, blk_new _ _ rfl, Nat.le_refl _, Nat.zero_le _, rfl, rfl⟩⟩
/-- what stands when the copy is made: the box of the answer (A + 1), the copy's box behind s5, its rules -/
def OutRel (R k A : Nat) (st : ByteArray) (rs : List RuleT) (w : World) (s5 : Value) (wx : World) : Prop := ∃ C vr, s5 = .pointer (some ⟨C, 0, none⟩) ∧ A + 2 ≤ C ∧ BoxG wx C (.string st) vr ∧ OwnR wx (A + 2) vr rs ∧ BoxG wx (A + 1) (.string ⟨#[]⟩) (.slice none 0 0) ∧ Rdk wx R k ∧ Only R w wx
theorem OwnR.drew {w : World} {B : Nat} {v : Value} {rs : List RuleT} (h : OwnR w B v rs) : OwnR w.drew B v rs := h
theorem BoxG.drew {w : World} {b : Nat} {v0 v1 : Value} (h : BoxG w b v0 v1) : BoxG w.drew b v0 v1 := h
theorem Rdk.drew {w : World} {R k : Nat} (h : Rdk w R k) : Rdk w.drew R k := h
theorem Only.drew {R : Nat} {w w' : World} (h : Only R w w') : Only R w w'.drew := ⟨h.os, h.tape, h.output, h.size, h.block⟩
theorem RulesAt.drew2 {w : World} {a : Option Addr} {rs : List RuleT} (h : RulesAt w a rs) : RulesAt w.drew a rs := h
/-- the answer is laid into its box -/
theorem bent_done {R k k' m n : Nat} {w wz : World} {st : ByteArray} {rs : List RuleT} {g cap : Nat} (hn : rs.length = n) (hRl : R < w.heap.size) (hst : st.size ≤ 100) (hl : rs.length ≤ m) (hm : m ≤ 1000) (hS : SmallR rs)
    (hO : OwnR wz (w.heap.size + 2) (.slice (some ⟨g, 0, none⟩) n cap) rs) (hrd : Rdk wz R k) (hk : k ≤ k') (ho : Only R w wz) :
    DrawnG R k' m w (.returned (.agg #[.string st, .slice (some ⟨g, 0, none⟩) n cap])) ((wz.setCell ⟨w.heap.size + 1, 0, none⟩ (.string st)).setCell ⟨w.heap.size + 1, 1, none⟩ (.slice (some ⟨g, 0, none⟩) n cap)) := by
  subst hn
  obtain ⟨g', cap', e, hgB, hlc, hgl, hR⟩ := hO.at hS (by omega)
  simp only [Value.slice.injEq, Option.some.injEq, Addr.mk.injEq] at e
  obtain ⟨⟨rfl, _⟩, _, rfl⟩ := e
  have hp : ∀ x : Addr, some (⟨g, 0, none⟩ : Addr) = some x → x.block ≠ w.heap.size + 1 := fun x hx => by cases hx; show g ≠ w.heap.size + 1; omega
  exact ⟨_, st, rs, rfl, ⟨g, 0, cap, rfl, hlc, (hR.other (p := ⟨w.heap.size + 1, 0, none⟩) hp _).other (p := ⟨w.heap.size + 1, 1, none⟩) hp _, hl, hst, hS, by omega⟩,
    ((hrd.other (p := ⟨w.heap.size + 1, 0, none⟩) (by show R < w.heap.size + 1; omega) _).other (p := ⟨w.heap.size + 1, 1, none⟩) (by show R < w.heap.size + 1; omega) _).mono hk,
    (ho.store (Nat.le_refl _) (p := ⟨w.heap.size + 1, 0, none⟩) (Nat.le_succ _) _).store (Nat.le_refl _) (p := ⟨w.heap.size + 1, 1, none⟩) (Nat.le_succ _) _⟩
theorem small_set {rs : List RuleT} (h : SmallR rs) (j : Nat) (x : RuleT) (h1 : x.1.size ≤ 5) (h2 : x.2.size ≤ 5) : SmallR (rs.set j x) := by
  intro r hr
  rcases List.mem_or_eq_of_mem_set hr with hr | rfl
  · exact h r hr
  · exact ⟨h1, h2⟩
theorem own_ne {w : World} {B g cap n C : Nat} {rs : List RuleT} {v0 v1 : Value} (h : OwnR w B (.slice (some ⟨g, 0, none⟩) n cap) rs) (hC : BoxG w C v0 v1) : ¬ C = g := fun e => by
  obtain ⟨g', cp, cur, e', _, _, hh, _⟩ := h.block
  simp only [Value.slice.injEq, Option.some.injEq, Addr.mk.injEq] at e'
  obtain ⟨⟨rfl, _⟩, _⟩ := e'
  rw [← e] at hh
  have h2 := hh.symm.trans hC
  simp at h2
theorem own_left {w : World} {B g cap n : Nat} {rs : List RuleT} (h : OwnR w B (.slice (some ⟨g, 0, none⟩) n cap) rs) (j : Nat) (hj : j < rs.length) (s : ByteArray) : OwnR (w.setCell ⟨g, j * 2, none⟩ (.string s)) B (.slice (some ⟨g, 0, none⟩) n cap) (rs.set j (s, rs[j].2)) :=
  own_set h (j * 2) (.string s) (by omega) (by simp) fun q hq => by
    rw [ruleCells_set rs j hj]
    by_cases e : q = j * 2
    · subst e; rw [if_pos (by omega), if_pos rfl, if_pos (by omega)]
    · rw [if_neg e]
      by_cases e2 : q / 2 = j
      · obtain rfl : q = j * 2 + 1 := by omega
        rw [if_pos e2, if_neg (by omega), ruleCells_odd rs j hj]
      · rw [if_neg e2]
theorem own_right {w : World} {B g cap n : Nat} {rs : List RuleT} (h : OwnR w B (.slice (some ⟨g, 0, none⟩) n cap) rs) (j : Nat) (hj : j < rs.length) (s : ByteArray) : OwnR (w.setCell ⟨g, j * 2 + 1, none⟩ (.string s)) B (.slice (some ⟨g, 0, none⟩) n cap) (rs.set j (rs[j].1, s)) :=
  own_set h (j * 2 + 1) (.string s) (by omega) (by simp) fun q hq => by
    rw [ruleCells_set rs j hj]
    by_cases e : q = j * 2 + 1
    · subst e; rw [if_pos (by omega), if_pos rfl, if_neg (by omega)]
    · rw [if_neg e]
      by_cases e2 : q / 2 = j
      · obtain rfl : q = j * 2 := by omega
        rw [if_pos e2, if_pos (by omega), ruleCells_even rs j hj]
      · rw [if_neg e2]
end Go.Proofs.Ytcningdeocmbgaa
namespace Go.Proofs.Ytcningdeocmbgaa
open Go.ChangeShapes Go.WideShapes Go.ChangeAt Go.RowKit
set_option maxRecDepth 100000
/-- rules of the call's own, or none -/
def OwnN (w : World) (B : Nat) (v : Value) (rs : List RuleT) : Prop := w.ownsRow B 84 2 v rs.length (flatR rs)
theorem OwnN.row {w : World} {B : Nat} {v : Value} {rs : List RuleT} (h : OwnN w B v rs) : ∀ k, v.ownBlock = some k → B ≤ k := by
  intro k hk
  rcases h.2 with ⟨hv, _⟩ | ⟨g, _, _, hv, hg, _⟩
  · rw [hv] at hk; simp [Value.ownBlock] at hk
  · rw [hv] at hk; simp [Value.ownBlock] at hk; omega
theorem OwnN.below {w w' : World} {B : Nat} {v : Value} {rs : List RuleT} (h : OwnN w B v rs) (hb : Below w.heap.size w w') : OwnN w' B v rs := by
  refine ⟨h.1, ?_⟩
  rcases h.2 with h0 | ⟨g, cap, cur, hv, hg, hh, hl, hm, hs, ht⟩
  · exact .inl h0
  · exact .inr ⟨g, cap, cur, hv, hg, by rw [hb.block g (Array.getElem?_eq_some_iff.1 hh).1]; exact hh, hl, hm, hs, ht⟩
theorem OwnN.set {w : World} {B : Nat} {v : Value} {rs : List RuleT} (h : OwnN w B v rs) {p : Addr} (hp : p.block < B) (u : Value) : OwnN (w.setCell p u) B v rs := ownsRow_setCell_below h hp u
theorem OwnN.mono {w : World} {B B' : Nat} {v : Value} {rs : List RuleT} (h : OwnN w B v rs) (hB : B' ≤ B) : OwnN w B' v rs := by
  refine ⟨h.1, ?_⟩
  rcases h.2 with h0 | ⟨g, cap, cur, hv, hg, hh⟩
  · exact .inl h0
  · exact .inr ⟨g, cap, cur, hv, Nat.le_trans hB hg, hh⟩
theorem idxR_neg {rs : List RuleT} {x : RuleT} : (!decide (0 ≤ idxR rs x)) = true ↔ ∀ y ∈ rs, eqR y x = false := by
  constructor
  · intro h y hy
    cases hf : rs.findIdx? (fun y => eqR y x) with
    | some i =>
      exfalso
      unfold idxR at h
      rw [hf] at h
      simp at h
    | none =>
      rw [List.findIdx?_eq_none_iff] at hf
      simpa using hf y hy
  · intro h
    have : rs.findIdx? (fun y => eqR y x) = none := by
      rw [List.findIdx?_eq_none_iff]
      intro y hy
      simpa using h y hy
    unfold idxR
    rw [this]
    decide
theorem ok_iff (st : ByteArray) (rs : List RuleT) : gramOkB st rs = true ↔ isBigS st = true ∧ rs.length ≤ 8 ∧ (∀ r ∈ rs, ruleOkB r = true) ∧ rs.Pairwise (fun x y => eqR x y = false) := by
  constructor
  · intro h
    unfold gramOkB at h
    simp only [Bool.and_eq_true, decide_eq_true_eq, List.all_eq_true, List.mem_range] at h
    obtain ⟨h1, h2, h3⟩ := h
    refine ⟨h1, h2, fun r hr => ?_, ?_⟩
    · obtain ⟨i, hi, rfl⟩ := List.getElem_of_mem hr
      have := h3 i hi
      rw [goodB_at hi, Bool.and_eq_true] at this
      exact this.1
    · rw [List.pairwise_iff_getElem]
      intro i j hi hj hij
      have := h3 j hj
      rw [goodB_at hj, Bool.and_eq_true, idxR_neg] at this
      exact this.2 rs[i] (List.mem_take_iff_getElem.2 ⟨i, by omega, rfl⟩)
  · rintro ⟨h1, h2, h3, h4⟩
    refine gramOk_all h1 h2 fun i hi => ?_
    rw [goodB_at hi, Bool.and_eq_true, idxR_neg]
    refine ⟨h3 _ (List.getElem_mem hi), fun y hy => ?_⟩
    obtain ⟨j, hj, rfl⟩ := List.mem_take_iff_getElem.1 hy
    rw [List.pairwise_iff_getElem] at h4
    exact h4 j i (by omega) hi (by omega)
/-- rules of the call's own, as they lie -/
theorem OwnN.at {w : World} {B : Nat} {v : Value} {rs : List RuleT} (h : OwnN w B v rs) (hs : SmallR rs) (hl : rs.length ≤ 1000) : ∃ a cap, v = .slice a rs.length cap ∧ rs.length ≤ cap ∧ RulesAt w a rs := by
  rcases h.2 with ⟨rfl, h0⟩ | ⟨g, cap, cur, rfl, hg, hh, hlc, hm, hsz, ht⟩
  · obtain rfl : rs = [] := List.eq_nil_of_length_eq_zero h0
    exact ⟨none, 0, rfl, Nat.le_refl _, Nat.zero_le _, fun i hi => absurd hi (Nat.not_lt_zero _)⟩
  · obtain ⟨g', cap', e, _, hlc', _, hR⟩ := OwnR.at (w := w) (B := B) (v := .slice (some ⟨g, 0, none⟩) rs.length cap) ⟨⟨g, cap, rfl, hg, hlc⟩, h⟩ hs hl
    simp only [Value.slice.injEq, Option.some.injEq, Addr.mk.injEq] at e
    obtain ⟨⟨rfl, _⟩, _, rfl⟩ := e
    exact ⟨_, _, rfl, hlc, hR⟩
end Go.Proofs.Ytcningdeocmbgaa
namespace Go.Proofs.Ytcningdeocmbgaa
open Go.ChangeShapes Go.WideShapes Go.ChangeAt Go.RowKit
set_option maxRecDepth 100000
/-- the digits of a number, none for 0 -/
def decL (k : Nat) : List UInt8 := if _h : k = 0 then [] else decL (k / 10) ++ [UInt8.ofNat (48 + k % 10)]
termination_by k
decreasing_by omega
theorem decL_len (k : Nat) : (decL k).length ≤ k := by
  induction k using Nat.strongRecOn with
  | ind k ih =>
    rw [decL]
    split
    · simp
    · have := ih (k / 10) (by omega)
      simp; omega
theorem decL_zero : decL 0 = [] := by rw [decL]; simp
theorem decL_pos {j : Nat} (h : 0 < j) : decL j = decL (j / 10) ++ [UInt8.ofNat (48 + j % 10)] := by
  rw [decL, dif_neg (by omega)]
def markB (k : Nat) : ByteArray := bytesOf (109 :: decL k)
theorem markB_size (k : Nat) : (markB k).size ≤ k + 1 := by unfold markB; rw [bytesOf_size]; have := decL_len k; simp; omega
theorem convM (c : UInt8) (w : World) : (convert 97 9 (.slice (some ⟨w.heap.size, 0, none⟩) 1 1)).run Try.prog (w.alloc (.cells #[.int .u8 (c.toNat : Int)] 5)) = .ok (.string ⟨#[c]⟩) (w.alloc (.cells #[.int .u8 (c.toNat : Int)] 5)) :=
  run_convert_bytes_back _ _ _ 5 ⟨w.heap.size, 0, none⟩ 1 [c] Try.underlying97 Try.underlying5 Try.underlying9 (fun j hj => by
    match j, hj with
    | 0, _ => simp [Addr.add])
theorem run_add_front {P : Program} (c : UInt8) (l : List UInt8) (h : l.length ≤ 5000000) (w : World) : (Op.stringOp .add ⟨#[c]⟩ (bytesOf l)).run P w = .ok (.string (bytesOf (c :: l))) w := by
  have := run_add_bytes (P := P) [c] (bytesOf l) (by rw [bytesOf_size]; simp; omega) w
  rwa [show cat [c] (bytesOf l) = c :: l from by simp [cat, bytesOf]] at this
set_option maxHeartbeats 800000 in
theorem markText_any (k : Nat) (w : World) (hk : 0 < k) (hk2 : k ≤ 5000000) :
    Calls Try.prog 62 #[.int .i64 (k : Int)] w fun e w' => e = .returned (.string (markB k)) ∧ Below w.heap.size w w' := by
  go_enter Try.func62, Try.ntmps62
  go_wp2
  go_loopw [0, 3] (fun kv ov wr => ∃ (j : Nat) (l : List UInt8), j ≤ k ∧ kv = .int .i64 (j : Nat) ∧ ov = .string (bytesOf l) ∧ Hid (decL k = decL j ++ l) ∧ l.length ≤ 5000000 ∧ Below w.heap.size w wr) (fun kv _ _ => (intOf kv).toNat)
  case atStart => exact ⟨k, [], Nat.le_refl _, rfl, rfl, by show _ = _; simp, by simp, Below.refl _ _⟩
  case round =>
    obtain ⟨j, l, hj, rfl, rfl, HD, hl, hb⟩ := hrel
    by_cases hlt : 0 < j
    · obtain ⟨c, hc⟩ : ∃ c : UInt8, c = UInt8.ofNat (48 + j % 10) := ⟨_, rfl⟩
      have hcn : (c.toNat : Int) = 48 + (j : Int) % 10 := by rw [hc]; simp; omega
      have hcv := convM c wr
      rw [hcn] at hcv
      have hadd := run_add_front (P := Try.prog) c l (by omega)
      have HD2 : Hid (decL k = decL (j / 10) ++ (c :: l)) := by show _ = _; rw [HD.out, decL_pos hlt, ← hc]; simp
      have hl2 : (c :: l).length ≤ 5000000 := by have := congrArg List.length HD2.out; have h2 := decL_len k; rw [List.length_append] at this; omega
      clear hc
      go_wp2
      go_roundw
      case rel => exact ⟨j / 10, c :: l, by omega, by go_num, rfl, HD2, hl2, hb.alloc hb.size _⟩
      case measure => simp [intOf]; omega
    · obtain rfl : j = 0 := by omega
      have hm := run_add_front (P := Try.prog) 109 l (by omega)
      have HM : Hid (markB k = bytesOf (109 :: l)) := by show _ = _; unfold markB; rw [HD.out, decL_zero]; rfl
      go_wp2
      go_ret
      exact ⟨by rw [HM.out]; rfl, hb⟩
/-- the first q cells of block b hold the marks from k on, and no other block of w has changed -/
def MarkTo (w w' : World) (b k C q : Nat) : Prop :=
  Only b w w' ∧ ∃ cur : Array Value, w'.heap[b]? = some (.cells cur 84) ∧ cur.size = C ∧ ∀ j, j < q → cur[j]? = some (.string (markB (k + j)))
theorem MarkTo.put {w w' : World} {b k C q : Nat} (h : MarkTo w w' b k C q) (hq : q < C) : MarkTo w (w'.setCell ⟨b, q, none⟩ (.string (markB (k + q)))) b k C (q + 1) := by
  obtain ⟨h1, cur, h2, h3, h4⟩ := h
  refine ⟨h1.trans ⟨rfl, rfl, rfl, by simp [World.setCell], fun j _ hj => Below.heap_setCell _ _ _ _ hj⟩, cur.setIfInBounds q (.string (markB (k + q))), by simp [World.setCell, Array.getElem?_modify, h2], by simpa using h3, fun j hj => ?_⟩
  by_cases e : j = q
  · subst e
    rw [Array.getElem?_setIfInBounds_self, if_pos (by omega)]
  · rw [Array.getElem?_setIfInBounds_ne (fun h => e h.symm)]
    exact h4 j (by omega)
theorem MarkTo.below {w w' u : World} {b k C q : Nat} (h : MarkTo w w' b k C q) (hb : Below w'.heap.size w' u) : MarkTo w u b k C q := by
  obtain ⟨h1, cur, h2, h3⟩ := h
  exact ⟨h1.trans (Only.of_below hb), cur, by rw [hb.block b (Array.getElem?_eq_some_iff.1 h2).1]; exact h2, h3⟩
theorem MarkTo.cell {w w' : World} {b k C q : Nat} (h : MarkTo w w' b k C q) {j : Nat} (hj : j < C) : (∃ v, w'.cell? ⟨b, j, none⟩ = some v) ∧ w'.frozen? ⟨b, j, none⟩ = false := by
  obtain ⟨h1, cur, h2, h3, _⟩ := h
  refine ⟨⟨cur[j]'(by omega), ?_⟩, frozen_of_block h2 j⟩
  rw [cell_of_block h2 j]
  simp [h3 ▸ hj]
/-- a row of n rules of which the marks may be written: none, or the beginning of block b -/
def RowB (w : World) (a : Option Addr) (b n : Nat) : Prop := n = 0 ∨ (a = some ⟨b, 0, none⟩ ∧ ∃ cur : Array Value, w.heap[b]? = some (.cells cur 84) ∧ n * 2 ≤ cur.size)
/-- the row holds the marks from k on -/
def MarkAt (w : World) (a : Option Addr) (n k : Nat) : Prop := ∀ j, j < n * 2 → ∃ b, a = some ⟨b, 0, none⟩ ∧ b < w.heap.size ∧ w.cell? ⟨b, j, none⟩ = some (.string (markB (k + j)))
theorem MarkAt.below {w w' : World} {a : Option Addr} {n k : Nat} (h : MarkAt w a n k) (hb : Below w.heap.size w w') : MarkAt w' a n k := fun j hj => by
  obtain ⟨b, e, hlt, hc⟩ := h j hj
  exact ⟨b, e, Nat.lt_of_lt_of_le hlt hb.size, by rw [hb.cell (p := ⟨b, j, none⟩) hlt, hc]⟩
set_option maxHeartbeats 1600000 in
theorem markRuleS_any (a : Option Addr) (b n cap k : Nat) (w : World) (H : RowB w a b n) (hn : n ≤ 1048576) (hk : 0 < k) (hk2 : k ≤ 10) :
    Calls Try.prog 38 #[.slice a n cap, .int .i64 (k : Int)] w fun e w' => e = .returned (.int .i64 ((k + n * 2 : Nat) : Int)) ∧ Only b w w' ∧ MarkAt w' a n k := by
  rcases H with rfl | ⟨rfl, cur, hcur, hsz⟩
  · go_enter Try.func38, Try.ntmps38
    go_wp2
    go_loopw [1, 5] (fun kv iv wr => iv = .int .i64 0 ∧ kv = .int .i64 (k : Nat) ∧ wr = w) (fun _ _ _ => 0)
    case atStart => exact ⟨rfl, rfl, rfl⟩
    case round =>
      obtain ⟨rfl, rfl, rfl⟩ := hrel
      go_wp2
      go_ret
      exact ⟨by simp, Only.refl _ _, fun j hj => by omega⟩
  · go_enter Try.func38, Try.ntmps38
    go_wp2
    go_loopw [1, 5] (fun kv iv wr => ∃ q : Nat, q ≤ n ∧ iv = .int .i64 (q : Nat) ∧ kv = .int .i64 ((k + q * 2 : Nat) : Int) ∧ MarkTo w wr b k cur.size (q * 2)) (fun _ iv _ => n - (intOf iv).toNat)
    case atStart => exact ⟨0, Nat.zero_le _, rfl, by simp, Only.refl _ _, cur, hcur, rfl, fun j hj => by omega⟩
    case round =>
      obtain ⟨q, hq, rfl, rfl, hM⟩ := hrel
      by_cases hlt : q < n
      · have hlt' : (q : Int) < (n : Int) := by omega
        go_wp2_with fail
        refine (markText_any (k + q * 2) _ (by omega) (by omega)).mono ?_
        rintro e w2 ⟨rfl, hb2⟩
        have hM2 := hM.below hb2
        obtain ⟨⟨u0, c0⟩, f0⟩ := hM2.cell (j := q * 2) (by omega)
        have hM3 := hM2.put (by omega)
        have HM3 := Lib.hid hM3
        clear hM hb2 hM3
        go_wp2_with fail
        refine (markText_any (k + q * 2 + 1) _ (by omega) (by omega)).mono ?_
        rintro e w4 ⟨rfl, hb4⟩
        have hM4 := HM3.out.below hb4
        obtain ⟨⟨u1, c1⟩, f1⟩ := hM4.cell (j := q * 2 + 1) (by omega)
        have hM5 := hM4.put (by omega)
        have HM5 := Lib.hid hM5
        clear hM2 hb4 hM4 hM5 c0 f0
        go_wp2
        go_roundw
        case rel => exact ⟨q + 1, by omega, by go_num, by go_num, by have := HM5.out; rwa [show (q + 1) * 2 = q * 2 + 1 + 1 from by omega]⟩
        case measure => simp [intOf]; omega
      · obtain rfl : q = n := by omega
        go_wp2
        go_ret
        obtain ⟨h1, cur', h2, h3, h4⟩ := hM
        exact ⟨rfl, h1, fun j hj => ⟨b, rfl, (Array.getElem?_eq_some_iff.1 h2).1, by rw [cell_of_block h2 j, h4 j hj]⟩⟩
/-- a row of n rules that may be marked: none, or the beginning of a block from B on and below U -/
def OwnRow (w : World) (B U : Nat) (a : Option Addr) (n : Nat) : Prop := n = 0 ∨ ∃ b, B ≤ b ∧ b < U ∧ a = some ⟨b, 0, none⟩ ∧ ∃ cur : Array Value, w.heap[b]? = some (.cells cur 84) ∧ n * 2 ≤ cur.size
theorem OwnRow.keep {w w' : World} {B U : Nat} {a : Option Addr} {n : Nat} (h : OwnRow w B U a n) (hk : ∀ b, B ≤ b → b < U → b < w.heap.size → w'.heap[b]? = w.heap[b]?) : OwnRow w' B U a n := by
  rcases h with h | ⟨b, h1, h2, h3, cur, h4, h5⟩
  · exact .inl h
  · exact .inr ⟨b, h1, h2, h3, cur, (hk b h1 h2 (Array.getElem?_eq_some_iff.1 h4).1).trans h4, h5⟩
theorem OwnRow.below {w w' : World} {B U : Nat} {a : Option Addr} {n : Nat} (h : OwnRow w B U a n) (hb : Below w.heap.size w w') : OwnRow w' B U a n := h.keep fun b _ _ hl => hb.block b hl
theorem OwnRow.only {R : Nat} {w w' : World} {B U : Nat} {a : Option Addr} {n : Nat} (h : OwnRow w B U a n) (hb : Only R w w') (hR : R < B ∨ U ≤ R) : OwnRow w' B U a n := h.keep fun b h1 h2 hl => hb.block b hl (by omega)
set_option maxHeartbeats 800000 in
theorem markGram_any (st : ByteArray) (a : Option Addr) (n cap k B U : Nat) (w : World) (H : OwnRow w B U a n) (hB : B ≤ w.heap.size) (hn : n ≤ 1048576) (hk : 0 < k) (hk2 : k ≤ 10) :
    Calls Try.prog 14 #[.agg #[.string st, .slice a n cap], .int .i64 (k : Int)] w fun e w' => e = .returned (.int .i64 ((k + n * 2 : Nat) : Int)) ∧ MarkAt w' a n k ∧ ∃ b, B ≤ b ∧ (b < U ∨ w.heap.size ≤ b) ∧ Only b w w' := by
  have hbw := (Below.refl w.heap.size w).alloc (Nat.le_refl _) (.cells #[.string st, .slice a n cap] 35)
  obtain ⟨b, h1, h2, hR⟩ : ∃ b, B ≤ b ∧ (b < U ∨ w.heap.size ≤ b) ∧ RowB (w.alloc (.cells #[.string st, .slice a n cap] 35)) a b n := by
    rcases H with h | ⟨b, h1, h2, h3, cur, h4, h5⟩
    · exact ⟨w.heap.size, hB, .inr (Nat.le_refl _), .inl h⟩
    · exact ⟨b, h1, .inl h2, .inr ⟨h3, cur, (blk_old _ _ (Array.getElem?_eq_some_iff.1 h4).1).trans h4, h5⟩⟩
  go_enter Try.func14, Try.ntmps14
  go_wp2_with fail
  refine (markRuleS_any a b n cap k _ hR hn hk hk2).mono ?_
  rintro e w2 ⟨rfl, ho, hM⟩
  go_wp2
  go_ret
  exact ⟨rfl, hM, b, h1, h2, (Only.of_below hbw).trans ho⟩
/-- a variable of two cells, a string and a row of rules -/
def GB (w : World) (b : Nat) (T : TypeId) (st : ByteArray) (v : Value) : Prop := w.heap[b]? = some (.cells #[.string st, v] T)
theorem GB.lt {w : World} {b : Nat} {T : TypeId} {st : ByteArray} {v : Value} (h : GB w b T st v) : b < w.heap.size := (Array.getElem?_eq_some_iff.1 h).1
theorem GB.below {w w' : World} {b : Nat} {T : TypeId} {st : ByteArray} {v : Value} (h : GB w b T st v) (hb : Below w.heap.size w w') : GB w' b T st v := (hb.block b h.lt).trans h
theorem GB.only {R : Nat} {w w' : World} {b : Nat} {T : TypeId} {st : ByteArray} {v : Value} (h : GB w b T st v) (hb : Only R w w') (hR : b ≠ R) : GB w' b T st v := (hb.block b h.lt hR).trans h
theorem GB.cells {w : World} {b : Nat} {T : TypeId} {st : ByteArray} {v : Value} (h : GB w b T st v) : w.cell? ⟨b, 0, none⟩ = some (.string st) ∧ w.cell? ⟨b, 1, none⟩ = some v := ⟨by rw [cell_of_block h 0]; rfl, by rw [cell_of_block h 1]; rfl⟩
theorem OwnN.row' {w : World} {B : Nat} {rs : List RuleT} {a : Option Addr} {cap n : Nat} (h : OwnN w B (.slice a n cap) rs) (hn : n = rs.length) : OwnRow w B w.heap.size a n := by
  subst hn
  rcases h.2 with ⟨_, h0⟩ | ⟨g, cap', cur, hv, hg, hh, hlc, _, hsz, _⟩
  · exact .inl h0
  · simp only [Value.slice.injEq] at hv
    exact .inr ⟨g, hg, (Array.getElem?_eq_some_iff.1 hh).1, hv.1, cur, hh, by omega⟩
theorem OwnRow.of_row {w : World} {b n B : Nat} {f : Nat → Value} (h : w.rowIs b 84 (n * 2) f) (hB : B ≤ b) : OwnRow w B w.heap.size (some ⟨b, 0, none⟩) n := by
  obtain ⟨c, h1, h2, _⟩ := h
  exact .inr ⟨b, hB, (Array.getElem?_eq_some_iff.1 h1).1, rfl, c, h1, by omega⟩
end Go.Proofs.Ytcningdeocmbgaa
