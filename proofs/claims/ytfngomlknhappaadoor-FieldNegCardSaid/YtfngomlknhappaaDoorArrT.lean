/-
  A whole variable's load, and a build, as a reader of a tree of schedules. No program is named here. Conditions: in each statement.
-/
import Derived.Test.YtfngomlknhappaaDoorKd
import Derived.Test.YtfngomlknhappaaDoorKc
namespace Go.Proofs.YtfngomlknhappaaDoor.ArrT
open Go.RowKit BytesW ArrW

section
variable {P : Program} {g : Nat} {t : TypeId} {xs : List Value}
theorem loadT {S : World → Prop} {K : Act → Prop} {ops : Array Oper} {o : Oper} {a : Act} (hgd : Region.wanted o (yielded ops a.tmps) = true) (hS : ∀ W, S W → Arr W g t xs) (ty : TypeId) (x : Operand) (ho : o.op = .load ty x)
    (hx : a.eval x = .pointer (some ⟨g, 0, none⟩)) {d : TypeDesc} (hu : P.underlying ty = some d) (hd : (match d with | .struct _ | .array _ _ => true | _ => false) = true) {n : Nat} (hi : (P.info? ty).map (·.size) = some n) (hn : xs.length = n)
    (h : K (a.put o.dst (.agg xs.toArray))) : if Region.wanted o (yielded ops a.tmps) then ∃ v, (∀ w, S w → (execOp a.eval o).run P w = .ok (.value v) w) ∧ K (a.put o.dst v) else K (a.put o.dst undef) := by
  rw [if_pos hgd]
  refine ⟨_, fun W hW => ?_, h⟩
  unfold execOp
  simp only [ho, hx, Sem.run_bind, Arr.load (hS W hW) ty hu hd hi hn, Sem.run_pure, Result.andThen_ok]
theorem buildT {S : World → Prop} {K : Act → Prop} {ops : Array Oper} {o : Oper} {a : Act} {t : TypeId} {parts : Array (Nat × Operand)} {ps : Array (Nat × Value)} {v : Value} (hgd : Region.wanted o (yielded ops a.tmps) = true) (ho : o.op = .build t parts)
    (hp0 : (parts.toList.map fun (i, x) => (i, a.eval x)) = ps.toList) (hr : ∀ W, S W → (Instr.build t ps).run P W = .ok v W) (h : K (a.put o.dst v)) : if Region.wanted o (yielded ops a.tmps) then ∃ v, (∀ w, S w → (execOp a.eval o).run P w = .ok (.value v) w) ∧ K (a.put o.dst v) else K (a.put o.dst undef) := by
  have hp : (parts.map fun (i, x) => (i, a.eval x)) = ps := by
    apply Array.toList_inj.1
    rw [Array.toList_map]
    exact hp0
  rw [if_pos hgd]
  refine ⟨_, fun W hW => ?_, h⟩
  unfold execOp
  simp only [ho, hp, Sem.run_bind, hr W hW, Sem.run_pure, Result.andThen_ok]
end
end Go.Proofs.YtfngomlknhappaaDoor.ArrT
