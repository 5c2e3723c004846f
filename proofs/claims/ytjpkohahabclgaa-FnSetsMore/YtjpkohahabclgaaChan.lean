/- Channels in one goroutine, for the walk of a region: a send with room, a select of one receive with a default. -/
import Derived.Conc.LoneSelect
import Derived.Test.YtjpkohahabclgaaLfp
namespace Go.Proofs.Ytjpkohahabclgaa
open Go.RowKit Go.Conc
section
variable {P : Program} {ops : Array Oper} {i : Nat} {o : Oper} {a : Act} {w w' : World}
/-- operation i, met in this state, is one step -/
def OpStep (P : Program) (ops : Array Oper) (i : Nat) (a : Act) (w : World) (a' : Act) (w' : World) : Prop :=
  ∀ (b : Frame) (k : List Item) (cs : List Frame) (rest : List Nat), step P (lone (b.at a (.inRegion ops (i :: rest) :: k)) cs w) = .next (lone (b.at a' (.inRegion ops rest :: k)) cs w')
theorem opStep_value {v : Value} (ho : ops[i]? = some o) (hg : o.guard = none) (hr : (execOp a.eval o).run P w = .ok (.value v) w') : OpStep P ops i a w (a.put o.dst v) w' := by
  intro b k cs rest
  have hw : Region.wanted o (yielded ops a.tmps) = true := by simp [Region.wanted, hg]
  have hfin : (b.at a (.inRegion ops (i :: rest) :: k)).finish v = b.at (a.put o.dst v) (.inRegion ops rest :: k) := by rw [Frame.finish_at, ho]; rfl
  refine step_lone_go ?_
  rw [Go.stepG_op ho hw, ← hfin]; simp [stepG.apply, hr]
theorem stepG_comm_any {cases : Array CommCase} {blocking : Bool} {shape : CommShape} (b : Frame) (k : List Item) (cs : List Frame) (rest : List Nat) (ho : ops[i]? = some o) (hg : o.guard = none)
    (hr : (execOp a.eval o).run P w = .ok (.comm cases blocking shape) w') : ∃ es, stepG P true (G (b.at a (.inRegion ops (i :: rest) :: k)) cs) w = .comm (G (b.at a (.inRegion ops (i :: rest) :: k)) cs) cases blocking shape w' es := by
  have hw : Region.wanted o (yielded ops a.tmps) = true := by simp [Region.wanted, hg]
  rw [stepG_oper ho hw]
  simp [stepG.apply, hr, G, Frame.at, GStep.after]
theorem opStep_send {c cap s r : Nat} {buf : Array Value} {v z : Value} {tm : Bool} (ho : ops[i]? = some o) (hg : o.guard = none) (hr : (execOp a.eval o).run P w = .ok (.comm #[scase c v z] true .send) w')
    (hc : w'.heap[c]? = some (.chan cap buf false s r tm)) (hroom : buf.size < cap) : OpStep P ops i a w (a.put o.dst undef) (w'.setChan c cap (buf.push v) false (s + 1) r tm) := by
  intro b k cs rest
  obtain ⟨es, h⟩ := stepG_comm_any (P := P) (w := w) b k cs rest ho hg hr
  have hfin : (b.at a (.inRegion ops (i :: rest) :: k)).finish undef = b.at (a.put o.dst undef) (.inRegion ops rest :: k) := by rw [Frame.finish_at, ho]; rfl
  rw [← hfin]
  exact step_lone_send_room h hc hroom
theorem opStep_recv {c cap s r : Nat} {buf : Array Value} {z : Value} {tm closed : Bool} (ho : ops[i]? = some o) (hg : o.guard = none) (hr : (execOp a.eval o).run P w = .ok (.comm #[rcase c z] false .select) w')
    (hc : w'.heap[c]? = some (.chan cap buf closed s r tm)) (hsome : 0 < buf.size) : OpStep P ops i a w (a.put o.dst (.tuple #[goInt 0, .bool true, buf.getD 0 undef])) (w'.setChan c cap (buf.extract 1 buf.size) closed s (r + 1) tm) := by
  intro b k cs rest
  obtain ⟨es, h⟩ := stepG_comm_any (P := P) (w := w) b k cs rest ho hg hr
  have hfin : (b.at a (.inRegion ops (i :: rest) :: k)).finish (.tuple #[goInt 0, .bool true, buf.getD 0 undef]) = b.at (a.put o.dst (.tuple #[goInt 0, .bool true, buf.getD 0 undef])) (.inRegion ops rest :: k) := by rw [Frame.finish_at, ho]; rfl
  rw [← hfin]
  exact step_lone_select_recv_buf h hc hsome
theorem opStep_default {c cap s r : Nat} {z : Value} {tm : Bool} (ho : ops[i]? = some o) (hg : o.guard = none) (hr : (execOp a.eval o).run P w = .ok (.comm #[rcase c z] false .select) w')
    (hc : w'.heap[c]? = some (.chan cap #[] false s r tm)) : OpStep P ops i a w (a.put o.dst (.tuple #[goInt (-1), .bool false, z])) w' := by
  intro b k cs rest
  obtain ⟨es, h⟩ := stepG_comm_any (P := P) (w := w) b k cs rest ho hg hr
  have hfin : (b.at a (.inRegion ops (i :: rest) :: k)).finish (.tuple #[goInt (-1), .bool false, z]) = b.at (a.put o.dst (.tuple #[goInt (-1), .bool false, z])) (.inRegion ops rest :: k) := by rw [Frame.finish_at, ho]; rfl
  rw [← hfin]
  exact step_lone_select_default h hc
/-- a region of three operations, each one step -/
theorem wp_region_three {id : Nat} {Q : Exit → Act → World → Prop} {a1 a2 a3 : Act} {w1 w2 w3 : World} (hn : ops.size = 3) (h0 : OpStep P ops 0 a w a1 w1) (h1 : OpStep P ops 1 a1 w1 a2 w2) (h2 : OpStep P ops 2 a2 w2 a3 w3)
    (h : Q .normal a3 w3) : (Code.region id ops false).wp P Q a w := by
  intro b k cs
  have hl : List.range ops.size = [0, 1, 2] := by rw [hn]; rfl
  have s0 := step_region (P := P) (b := b) (a := a) (k := k) (cs := cs) (w := w) (ops := ops) (id := id)
  rw [hl] at s0
  exact ⟨.normal, a3, w3, h, .head s0 (.head (h0 b k cs _) (.head (h1 b k cs _) (.head (h2 b k cs _) (.one step_region_end))))⟩
end
end Go.Proofs.Ytjpkohahabclgaa
