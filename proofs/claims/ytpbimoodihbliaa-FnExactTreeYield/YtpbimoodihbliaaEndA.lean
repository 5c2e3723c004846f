/- Maps keyed by pointers to nodes; a tree made in plain memory. -/
import Derived.Test.YtpbimoodihbliaaTokA
import Derived.LaidEql
import Derived.MapKept
namespace Go.Proofs.Ytpbimoodihbliaa
open Go.ChangeShapes Go.WideShapes Go.ChangeAt Go.RowKit Go.Deep
set_option maxRecDepth 100000
def PlainB (w : World) (k : Nat) : Prop := ∃ c t, w.heap[k]? = some (.cells c t (0, 0))
theorem PlainB.of_block {w w' : World} {k : Nat} (h : PlainB w k) (e : w'.heap[k]? = w.heap[k]?) : PlainB w' k := by
  obtain ⟨c, t, h⟩ := h
  exact ⟨c, t, e.trans h⟩
theorem infoTree' : (Try.prog.info? 38).map (fun i => i.size) = some 3 := by kernel_rfl
theorem equalIn_same (d : Nat) (a : Addr) (w : World) : (Op.equalIn (d + 1) 79 (.pointer (some a)) (.pointer (some a))).run Try.prog w = .ok true w := by
  obtain ⟨i, hi, _⟩ := Option.map_eq_some_iff.1 infoTree'
  simp [Op.equalIn, run_underlying Try.underlying79, sizeOf, typeInfo, hi, run_sameAddr_same]
theorem equalIn_other (d : Nat) {a b : Addr} {w : World} (hne : a ≠ b) (ha : PlainB w a.block) (hb : PlainB w b.block) : (Op.equalIn (d + 1) 79 (.pointer (some a)) (.pointer (some b))).run Try.prog w = .ok false w := by
  obtain ⟨i, hi, hs⟩ := Option.map_eq_some_iff.1 infoTree'
  obtain ⟨c, t, ha⟩ := ha
  obtain ⟨c', t', hb⟩ := hb
  simp [Op.equalIn, run_underlying Try.underlying79, sizeOf, typeInfo, hi, hs, run_sameAddr_other w hne ha hb]
theorem equal_same (a : Addr) (w : World) : (Op.equal 79 (.pointer (some a)) (.pointer (some a))).run Try.prog w = .ok true w := equalIn_same 9999 a w
theorem equal_other {a b : Addr} {w : World} (hne : a ≠ b) (ha : PlainB w a.block) (hb : PlainB w b.block) : (Op.equal 79 (.pointer (some a)) (.pointer (some b))).run Try.prog w = .ok false w := equalIn_other 9999 hne ha hb
theorem asking_none (k : Value) (w : World) : ∀ (l : List MapEntry) (i : Nat), (∀ e ∈ l, (Op.equal 79 k e.key).run Try.prog w = .ok false w) → (Instr.findAsking 79 k l i).run Try.prog w = .ok none w
  | [], i, _ => by simp [Instr.findAsking]
  | e :: l, i, h => by
    have h1 := h e (List.mem_cons_self ..)
    have h2 := asking_none k w l (i + 1) (fun x hx => h x (List.mem_cons_of_mem _ hx))
    simp [Instr.findAsking, h1, h2]
theorem asking_last (k : Value) (w : World) (x : MapEntry) (hx : (Op.equal 79 k x.key).run Try.prog w = .ok true w) : ∀ (l : List MapEntry) (i : Nat), (∀ e ∈ l, (Op.equal 79 k e.key).run Try.prog w = .ok false w) → (Instr.findAsking 79 k (l ++ [x]) i).run Try.prog w = .ok (some (i + l.length, x.val)) w
  | [], i, _ => by simp [Instr.findAsking, hx]
  | e :: l, i, h => by
    have h1 := h e (List.mem_cons_self ..)
    have h2 := asking_last k w x hx l (i + 1) (fun x hx => h x (List.mem_cons_of_mem _ hx))
    simp [Instr.findAsking, h1, h2]
    omega
theorem find_asks (a : Option Addr) (l : List MapEntry) (w : World) (r : Option (Nat × Value)) (h : (Instr.findAsking 79 (.pointer a) l 0).run Try.prog w = .ok r w) : (Instr.findKey 79 (.pointer a) l).run Try.prog w = .ok r w := by
  cases l with
  | nil =>
    simp only [Instr.findAsking, Sem.run_pure, Result.ok.injEq, and_true] at h
    subst h
    simp [Instr.findKey, run_underlying Try.underlying79, Instr.findNow]
  | cons e l => simp [Instr.findKey, run_underlying Try.underlying79, Instr.findNow, Instr.sameNow, h]
theorem check_at (d : Nat) (em : Bool) (a : Option Addr) (w : World) : (Instr.checkKey em (d + 1) 79 (.pointer a)).run Try.prog w = .ok () w := by
  unfold Instr.checkKey
  simp [run_underlying Try.underlying79]
theorem check_ptr (em : Bool) (a : Option Addr) (w : World) : (Instr.checkKey em 10000 79 (.pointer a)).run Try.prog w = .ok () w := check_at 9999 em a w
theorem infoBool : (Try.prog.info? 4).map (fun i => i.zero) = some (some (.bool false)) := by kernel_rfl
theorem lookup_none {mb : Nat} {es : Array MapEntry} {ck : Nat} {a : Option Addr} {w : World} (hm : w.heap[mb]? = some (.map es ck)) (h : ∀ e ∈ es.toList, (Op.equal 79 (.pointer a) e.key).run Try.prog w = .ok false w) :
    (Instr.lookup 127 (.map (some mb)) (.pointer a) false).run Try.prog w = .ok (.bool false) w := by
  obtain ⟨i, hi, hz⟩ := Option.map_eq_some_iff.1 infoBool
  have hf := find_asks a es.toList w none (asking_none _ w es.toList 0 h)
  simp [Instr.lookup, run_underlying Try.underlying127, MapKept.run_getObj_map hm, check_ptr, hf, zeroValue, typeInfo, hi, hz]
theorem update_new {mb : Nat} {es : Array MapEntry} {ck : Nat} {a : Option Addr} {v : Value} {w : World} (hm : w.heap[mb]? = some (.map es ck)) (h : ∀ e ∈ es.toList, (Op.equal 79 (.pointer a) e.key).run Try.prog w = .ok false w) :
    (Instr.mapUpdate 127 (.map (some mb)) (.pointer a) v).run Try.prog w = .ok () (w.putObj mb (.map (es.push { key := .pointer a, val := v, born := ck }) (ck + 1))) := by
  have hf := find_asks a es.toList w none (asking_none _ w es.toList 0 h)
  simp [Instr.mapUpdate, run_underlying Try.underlying127, MapKept.run_getObj_map hm, check_ptr, hf, MapKept.run_setObj_map _ hm, World.putObj]
theorem delete_last {mb : Nat} {es : Array MapEntry} {ck : Nat} {a : Option Addr} {w : World} {l : List MapEntry} {x : MapEntry} (hm : w.heap[mb]? = some (.map es ck)) (hes : es.toList = l ++ [x]) (hx : (Op.equal 79 (.pointer a) x.key).run Try.prog w = .ok true w) (h : ∀ e ∈ l, (Op.equal 79 (.pointer a) e.key).run Try.prog w = .ok false w) (ty : TypeId) :
    (Builtin.delete_ #[127, 79] ty #[.map (some mb), .pointer a]).run Try.prog w = .ok (.tuple #[]) (w.putObj mb (.map (es.eraseIdxIfInBounds l.length) ck)) := by
  have hf := find_asks a es.toList w (some (l.length, x.val)) (by rw [hes]; have := asking_last (.pointer a) w x hx l 0 h; rwa [Nat.zero_add] at this)
  simp [Builtin.delete_, run_underlying Try.underlying127, MapKept.run_getObj_map hm, check_ptr, hf, MapKept.run_setObj_map _ hm, World.putObj]
theorem erase_last {es : Array MapEntry} {l : List MapEntry} {x : MapEntry} (h : es.toList = l ++ [x]) : (es.eraseIdxIfInBounds l.length).toList = l := by
  have hs : es.size = l.length + 1 := by rw [← Array.length_toList, h]; simp
  rw [Array.eraseIdxIfInBounds, dif_pos (by omega), Array.toList_eraseIdx, h, List.eraseIdx_append_of_length_le (Nat.le_refl _)]
  simp
/-- a tree that was made in plain memory -/
def TrP (w : World) (v : Value) (T : Tr) : Prop := ∃ w0 B, TrIn w0 B v T ∧ PlainFrom B w0 ∧ Below w0.heap.size w0 w
theorem TrP.keep {w w' : World} {v : Value} {T : Tr} (h : TrP w v T) (hb : Below w.heap.size w w') : TrP w' v T := by
  obtain ⟨w0, B, h1, h2, h3⟩ := h
  exact ⟨w0, B, h1, h2, h3.trans (hb.mono h3.size)⟩
theorem TrP.tr {w : World} {v : Value} {T : Tr} (h : TrP w v T) : TrIn w 0 v T := by
  obtain ⟨w0, B, h1, _, h3⟩ := h
  exact (h1.keep h3).mono (Nat.zero_le _)
end Go.Proofs.Ytpbimoodihbliaa
