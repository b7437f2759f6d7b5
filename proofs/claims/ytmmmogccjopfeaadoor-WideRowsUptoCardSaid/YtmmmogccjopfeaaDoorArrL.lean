/-
  More operations on whole variables in a walk: a build by a run that is laid ahead; a load and a build under a guard that holds. No program is named here. Conditions: in each statement.
-/
import Derived.Test.YtmmmogccjopfeaaDoorArrY
namespace Go.Proofs.YtmmmogccjopfeaaDoor.ArrL
open Go.RowKit BytesW ArrW

theorem struct_of {P : Program} {t : TypeId} (h : (match P.underlying t with | some (.struct _) => true | _ => false) = true) : ∃ fs, P.underlying t = some (.struct fs) := by
  cases e : P.underlying t with
  | none => rw [e] at h; cases h
  | some d => cases d <;> simp_all
theorem buildL {P : Program} {w : World} {ops : Array Oper} {rest : List Oper} {o : Oper} {a : Act} {Q : Exit → Act → World → Prop} {t : TypeId} {parts : Array (Nat × Operand)} {ps : Array (Nat × Value)} {v : Value} (hgd : o.guard = none) (ho : o.op = .build t parts)
    (hp0 : (parts.toList.map fun (i, x) => (i, a.eval x)) = ps.toList) (hr : (Instr.build t ps).run P w = .ok v w) (k : wpList P ops Q rest (a.put o.dst v) w) : wpList P ops Q (o :: rest) a w := by
  have hp : (parts.map fun (i, x) => (i, a.eval x)) = ps := by
    apply Array.toList_inj.1
    rw [Array.toList_map]
    exact hp0
  refine wpList_plain hgd fun K hK => ?_
  unfold Oper.wp execOp
  simp only [ho, hp, Sem.run_bind, hr, Sem.run_pure, Result.andThen_ok]
  exact hK _ _ k
/-- A whole variable's load, under a guard that holds. -/
theorem loadLg {P : Program} {w : World} {g : Nat} {t : TypeId} {xs : List Value} {ops : Array Oper} {rest : List Oper} {o : Oper} {a : Act} {Q : Exit → Act → World → Prop} (h : Arr w g t xs) (hgd : Region.wanted o (yielded ops a.tmps) = true) (ty : TypeId) (x : Operand) (ho : o.op = .load ty x)
    (hx : a.eval x = .pointer (some ⟨g, 0, none⟩)) {d : TypeDesc} (hu : P.underlying ty = some d) (hd : (match d with | .struct _ | .array _ _ => true | _ => false) = true) {n : Nat} (hi : (P.info? ty).map (·.size) = some n) (hn : xs.length = n)
    (k : wpList P ops Q rest (a.put o.dst (.agg xs.toArray)) w) : wpList P ops Q (o :: rest) a w := by
  refine wpList_step fun K hK => ?_
  rw [if_pos hgd]
  exact Arr.loadO h ty x ho hx hu hd hi hn (hK _ _ k)
theorem buildLg {P : Program} {w : World} {ops : Array Oper} {rest : List Oper} {o : Oper} {a : Act} {Q : Exit → Act → World → Prop} {t : TypeId} {parts : Array (Nat × Operand)} {ps : Array (Nat × Value)} {v : Value} (hgd : Region.wanted o (yielded ops a.tmps) = true) (ho : o.op = .build t parts)
    (hp0 : (parts.toList.map fun (i, x) => (i, a.eval x)) = ps.toList) (hr : (Instr.build t ps).run P w = .ok v w) (k : wpList P ops Q rest (a.put o.dst v) w) : wpList P ops Q (o :: rest) a w := by
  have hp : (parts.map fun (i, x) => (i, a.eval x)) = ps := by
    apply Array.toList_inj.1
    rw [Array.toList_map]
    exact hp0
  refine wpList_step fun K hK => ?_
  rw [if_pos hgd]
  unfold Oper.wp execOp
  simp only [ho, hp, Sem.run_bind, hr, Sem.run_pure, Result.andThen_ok]
  exact hK _ _ k

end Go.Proofs.YtmmmogccjopfeaaDoor.ArrL
