/-
  More words for a whole array variable: its load and store in a region that draws its order; the return of one that lies in a variable beside a plain one. No program is named here. Conditions: in each statement.
-/
import Derived.Test.YtmmmogccjopfeaaDoorArrX
import Derived.Test.YtmmmogccjopfeaaDoorPhase
namespace Go.Proofs.YtmmmogccjopfeaaDoor.ArrW
open Go.RowKit BytesW

section
variable {P : Program} {w w' : World} {g : Nat} {t : TypeId} {xs : List Value}

theorem Arr.loadQ {S : World → Prop} {K : Act → Prop} {o : Oper} {a : Act} (hS : ∀ W, S W → Arr W g t xs) (ty : TypeId) (x : Operand) (ho : o.op = .load ty x)
    (hx : a.eval x = .pointer (some ⟨g, 0, none⟩)) {d : TypeDesc} (hu : P.underlying ty = some d) (hd : (match d with | .struct _ | .array _ _ => true | _ => false) = true) {n : Nat} (hi : (P.info? ty).map (·.size) = some n) (hn : xs.length = n)
    (h : K (a.put o.dst (.agg xs.toArray))) : o.quiet P a S K := by
  refine ⟨_, fun W hW => ?_, h⟩
  unfold Oper.quietAt execOp
  simp only [ho, hx, Sem.run_bind, Arr.load (hS W hW) ty hu hd hi hn, Sem.run_pure, Result.andThen_ok]
  exact ⟨rfl, rfl⟩
theorem Arr.loadO {K : Act → World → Prop} {Q : Exit → Act → World → Prop} {o : Oper} {a : Act} (h : Arr w g t xs) (ty : TypeId) (x : Operand) (ho : o.op = .load ty x)
    (hx : a.eval x = .pointer (some ⟨g, 0, none⟩)) {d : TypeDesc} (hu : P.underlying ty = some d) (hd : (match d with | .struct _ | .array _ _ => true | _ => false) = true) {n : Nat} (hi : (P.info? ty).map (·.size) = some n) (hn : xs.length = n)
    (k : K (a.put o.dst (.agg xs.toArray)) w) : o.wp P a w K Q :=
  wp_load_row ty x ho g hx t xs.toArray (0, 0) d h hu hd (by rw [hi]; simp [hn]) k
theorem Arr.storeO {K : Act → World → Prop} {Q : Exit → Act → World → Prop} {o : Oper} {a : Act} (h : Arr w g t xs) (ty : TypeId) (x y : Operand) (ho : o.op = .store ty x y)
    (hx : a.eval x = .pointer (some ⟨g, 0, none⟩)) (ys : List Value) (hy : a.eval y = .agg ys.toArray) {n : Nat} (hi : (P.info? ty).map (·.size) = some n) (hn : xs.length = n) (hm : ys.length = n) (h1 : ∀ v ∈ ys, v.oneCell' = true)
    (k : K (a.put o.dst undef) (w.setRow g ys.toArray)) : o.wp P a w K Q :=
  wp_store_row ty x y ho g ys.toArray hx hy t xs.toArray h (by rw [hi]; simp [hm]) (by simp [hn, hm]) (Array.all_eq_true_iff_forall_mem.2 (fun v hv => h1 v (by simpa using hv))) k
/-- The return of a result that lies in a variable, and of a plain one. -/
theorem Arr.ret2 (h : Arr w g t xs) {fn : Func} {p s : Tmp} {ty : TypeId} (hf : fn.results = #[.cell p ty, .tmp s]) (tmps : Array Value) (hp : tmps.getD p undef = .pointer (some ⟨g, 0, none⟩)) {v : Value} (hv : tmps.getD s undef = v)
    {d : TypeDesc} (hu : P.underlying ty = some d) (hd : (match d with | .struct _ | .array _ _ => true | _ => false) = true) {n : Nat} (hi : (P.info? ty).map (·.size) = some n) (hn : xs.length = n) :
    (results fn tmps).run P w = .ok (.tuple #[.agg xs.toArray, v]) w := by
  have hp' : tmps[p]?.getD undef = .pointer (some ⟨g, 0, none⟩) := by simpa using hp
  have hv' : tmps[s]?.getD undef = v := by simpa using hv
  simp [results, hf, hp', hv', asAddr, run_loadVar_row w g t ty xs.toArray (0, 0) d h hu hd (by rw [hi]; simp [hn])]
/-- The first cells of a variable, read as an array or a struct of their own. -/
theorem Arr.loadPart {zs : List Value} (h : Arr w g t (xs ++ zs)) (ty : TypeId) {d : TypeDesc} (hu : P.underlying ty = some d) (hd : (match d with | .struct _ | .array _ _ => true | _ => false) = true) {n : Nat} (hi : (P.info? ty).map (·.size) = some n) (hn : xs.length = n) :
    (Instr.loadAt ty (.pointer (some ⟨g, 0, none⟩))).run P w = .ok (.agg xs.toArray) w := by
  have hl : (loadCells ⟨g, 0, none⟩ xs.length).run P w = .ok xs.toArray w :=
    run_loadCells_list (P := P) w ⟨g, 0, none⟩ xs (fun j v hv => by
      have hadd : (⟨g, 0, none⟩ : Addr).add j = ⟨g, j, none⟩ := by unfold Addr.add; split <;> simp_all
      rw [hadd, Arr.cell h j]
      have hj : j < xs.length := (List.getElem?_eq_some_iff.1 hv).1
      rw [List.getElem?_append_left hj]
      exact hv)
  cases hq : P.info? ty with
  | none => simp [hq] at hi
  | some i =>
    have hs : i.size = xs.length := by rw [hn]; simpa [hq] using hi
    have hagg : (isAgg ty).run P w = .ok true w := by
      unfold isAgg
      rw [Sem.run_bind, run_underlying hu w]
      cases d <;> simp_all
    simp only [Instr.loadAt, Instr.sureAddr, Sem.run_bind, Sem.run_pure, Result.andThen_ok]
    simp [loadVar, Sem.run_bind, hagg, sizeOf, typeInfo, hq, hs, hl]
theorem Arr.loadPartL {zs : List Value} {ops : Array Oper} {rest : List Oper} {o : Oper} {a : Act} {Q : Exit → Act → World → Prop} (h : Arr w g t (xs ++ zs)) (hgd : o.guard = none) (ty : TypeId) (x : Operand) (ho : o.op = .load ty x)
    (hx : a.eval x = .pointer (some ⟨g, 0, none⟩)) {d : TypeDesc} (hu : P.underlying ty = some d) (hd : (match d with | .struct _ | .array _ _ => true | _ => false) = true) {n : Nat} (hi : (P.info? ty).map (·.size) = some n) (hn : xs.length = n)
    (k : wpList P ops Q rest (a.put o.dst (.agg xs.toArray)) w) : wpList P ops Q (o :: rest) a w := by
  refine wpList_plain hgd fun K hK => ?_
  unfold Oper.wp execOp
  simp only [ho, hx, Sem.run_bind, Arr.loadPart h ty hu hd hi hn, Sem.run_pure, Result.andThen_ok]
  exact hK _ _ k
theorem Arr.loadPartE {zs : List Value} {o : Oper} {a : Act} (h : Arr w g t (xs ++ zs)) (ty : TypeId) (x : Operand) (ho : o.op = .load ty x)
    (hx : a.eval x = .pointer (some ⟨g, 0, none⟩)) {d : TypeDesc} (hu : P.underlying ty = some d) (hd : (match d with | .struct _ | .array _ _ => true | _ => false) = true) {n : Nat} (hi : (P.info? ty).map (·.size) = some n) (hn : xs.length = n) :
    (execOp a.eval o).run P w = .ok (.value (.agg xs.toArray)) w := by
  unfold execOp
  simp only [ho, hx, Sem.run_bind, Arr.loadPart h ty hu hd hi hn, Sem.run_pure, Result.andThen_ok]
theorem Arr.loadPartQ {zs : List Value} {S : World → Prop} {K : Act → Prop} {o : Oper} {a : Act} (hS : ∀ W, S W → Arr W g t (xs ++ zs)) (ty : TypeId) (x : Operand) (ho : o.op = .load ty x)
    (hx : a.eval x = .pointer (some ⟨g, 0, none⟩)) {d : TypeDesc} (hu : P.underlying ty = some d) (hd : (match d with | .struct _ | .array _ _ => true | _ => false) = true) {n : Nat} (hi : (P.info? ty).map (·.size) = some n) (hn : xs.length = n)
    (h : K (a.put o.dst (.agg xs.toArray))) : o.quiet P a S K := by
  refine ⟨_, fun W hW => ?_, h⟩
  unfold Oper.quietAt execOp
  simp only [ho, hx, Sem.run_bind, Arr.loadPart (hS W hW) ty hu hd hi hn, Sem.run_pure, Result.andThen_ok]
  exact ⟨rfl, rfl⟩
end
/-- The steps of a region in phases, behind the test whether the operation is wanted. -/
theorem want {p : Prop} [Decidable p] {A B : Prop} (h : p) (k : A) : if p then A else B := by rw [if_pos h]; exact k
end Go.Proofs.YtmmmogccjopfeaaDoor.ArrW
