/- The map from left sides to places, inside a region that draws its order: look-up, append and store, each as one step of the region. -/
import Derived.Test.YtjpkohahabclgaaForB
import Derived.Maps.OwnRows
import Derived.StringKeys
import Derived.Deep.RegionLaw
namespace Go.Proofs.Ytjpkohahabclgaa
open Go.RowKit Go.WideMaps Go.Maps
theorem step_run {w w' : World} {ops : Array Oper} {o : Oper} {a : Act} {K : Act → World → Prop} {Q : Exit → Act → World → Prop} {F : Prop} (hg : o.guard = none) {x : Next} (hr : (execOp a.eval o).run Try.prog w = .ok x w') (h : o.upon Try.prog a K Q (.ok x w')) :
    if Region.wanted o (yielded ops a.tmps) = true then Oper.wp Try.prog o a w K Q else F := by
  rw [if_pos (by simp [Region.wanted, hg])]
  unfold Oper.wp
  rw [hr]
  exact h
theorem zeroInts (w : World) : (zeroValue 34).run Try.prog w = .ok (.slice none 0 0) w := by kernel_rfl
/-- block B is the map of places by left sides; of at most n entries, and it reads as D -/
def Groups {H : Type} (w : World) (B n : Nat) (D : DataW H) : Prop := w.ownsGroups Try.prog 9 (B + 1) 3 .i64 B n D
def Back {H : Type} (w : World) (B n : Nat) (D : DataW H) (s : ByteArray) (v : Value) : Prop := w.groupBack Try.prog 70 9 (B + 1) 3 .i64 B n D (.string s) (.string s.data.toList) v
def Ints (w : World) (B : Nat) (v : Value) (zs : List Int) : Prop := w.ownsInts (B + 1) 3 .i64 v zs
theorem step_look {H : Type} {w : World} {ops : Array Oper} {o : Oper} {a : Act} {K : Act → World → Prop} {Q : Exit → Act → World → Prop} {F : Prop} (hg : o.guard = none) (m x : Operand) (hop : o.op = Op.lookup 70 m x false)
    {B n : Nat} {D : DataW H} {s : ByteArray} (hm : a.eval m = .map (some B)) (hx : a.eval x = .string s) (hs : s.size ≤ maxLen) (hown : Groups w B n D) (hn : n ≤ 1000)
    (h : ∀ v zs, D.atKey (.string s.data.toList) .nil = rowDatum .i64 v zs → Ints w B v zs → zs.length ≤ n → Back w B n D s v → K (a.put o.dst v) w) :
    if Region.wanted o (yielded ops a.tmps) = true then Oper.wp Try.prog o a w K Q else F := by
  obtain ⟨v, zs, hrun, hat, hoi, hzl, hback⟩ := World.ownsGroups.at hown (string_keyed Try.underlying9) Try.underlying70 (zeroInts w) (by unfold maxLen; omega) (keyOf_string_mk Try.underlying9 hs)
  exact step_run hg (x := .value v) (w' := w) (by simp [execOp, hop, hm, hx, hrun]) (h v zs hat hoi hzl hback)
theorem step_put {H : Type} {w0 w : World} {ops : Array Oper} {o : Oper} {a : Act} {K : Act → World → Prop} {Q : Exit → Act → World → Prop} {F : Prop} (hg : o.guard = none) (m x y : Operand) (hop : o.op = Op.mapUpdate 70 m x y)
    {B n : Nat} {D : DataW H} {s : ByteArray} {v v' : Value} {zs : List Int} (hm : a.eval m = .map (some B)) (hx : a.eval x = .string s) (hy : a.eval y = v') (hback : Back w0 B n D s v) (hgr : w0.grownBy w v.ownBlock) (hown : Ints w B v' zs) (hl : zs.length ≤ n + 1)
    (hloc : v'.ownBlock = v.ownBlock ∨ ∃ g, v'.ownBlock = some g ∧ w0.heap.size ≤ g) (h : ∀ w2, Groups w2 B (n + 1) (D.put (.string s.data.toList) (rowDatum .i64 v' zs)) → w.grownBy w2 (some B) → K (a.put o.dst undef) w2) :
    if Region.wanted o (yielded ops a.tmps) = true then Oper.wp Try.prog o a w K Q else F := by
  obtain ⟨w2, hrun, r1, r2⟩ := hback w v' zs hgr hown hl hloc
  exact step_run hg (x := .skip) (w' := w2) (by simp [execOp, hop, hm, hx, hy, hrun]) (h w2 r1 r2)
theorem step_add {w : World} {ops : Array Oper} {o : Oper} {a : Act} {K : Act → World → Prop} {Q : Exit → Act → World → Prop} {F : Prop} (hg : o.guard = none) (y x : Operand) (hop : o.op = .call { callee := .builtin .append, args := #[y, x], argTypes := #[34, 34] })
    {B c : Nat} {v : Value} {zs : List Int} {p : Addr} {z : Int} (hy : a.eval y = v) (hx : a.eval x = .slice (some p) 1 c) (hown : Ints w B v zs) (hz : (Lit.int .i64 z).wf = true) (hp : w.cell? p = some (.int .i64 z)) (hl : zs.length ≤ 1000) (hB : B + 1 ≤ w.heap.size)
    (h : ∀ v' w', Ints w' B v' (zs ++ [z]) → w.grownBy w' v.ownBlock → (v'.ownBlock = v.ownBlock ∨ v'.ownBlock = some w.heap.size) → K (a.put o.dst v') w') :
    if Region.wanted o (yielded ops a.tmps) = true then Oper.wp Try.prog o a w K Q else F := by
  obtain ⟨i0, hi0, hz0, hz1, hz2⟩ := info_parts infoInt
  obtain ⟨v', w', hr, h2, h3, h4, h5⟩ := run_append_own_at (P := Try.prog) w (B + 1) 34 o.type 3 i0 (.int .i64 0) 1 8 Try.underlying34 hi0 hz0 hz1 hz2 rfl (by decide) v zs.length (zs.map (Value.int .i64)) hown.1 p 1 c [.int .i64 z] rfl
    (fun j u hj => by
      match j, hj with
      | 0, hj => simp at hj; subst hj; simpa [Addr.add] using hp)
    (fun u hu => by simp at hu; subst hu; rfl) (by unfold maxLen; omega) (by omega) hB
  refine step_run hg (x := .value v') (w' := w') ?_ (h v' w' (World.ownsInts.appended hown h2 hz) h3 h5)
  unfold execOp
  simp only [hop, resolve, invoke, builtin, Sem.run_bind, Sem.run_pure, Result.andThen_ok, List.map_toArray, List.map_cons, List.map_nil, hy, hx, hr]
end Go.Proofs.Ytjpkohahabclgaa
