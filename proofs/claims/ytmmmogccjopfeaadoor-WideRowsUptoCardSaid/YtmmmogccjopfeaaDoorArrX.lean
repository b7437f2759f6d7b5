/-
  Words for a whole array variable at once: its load, its store, its return; as a run and as an operation in a walk. Conditions: in each statement.
-/
import Derived.Test.YtmmmogccjopfeaaDoorArrW
import Derived.Laws.Tables
import Derived.Laws.Rows
namespace Go.Proofs.YtmmmogccjopfeaaDoor.ArrW
open Go.RowKit BytesW

section
variable {P : Program} {w w' : World} {g : Nat} {t : TypeId} {xs : List Value}

theorem Arr.row (h : Arr w g t xs) (ys : List Value) : Arr (w.setRow g ys.toArray) g t ys := setRow_heap w g _ _ _ _ h
theorem Arr.rowOther (h : Arr w g t xs) (k : Nat) (ys : Array Value) (hk : g ≠ k) : Arr (w.setRow k ys) g t xs := (setRow_other w k g ys hk).trans h
theorem grown_row (w : World) (g : Nat) (ys : Array Value) : w.grownBy (w.setRow g ys) (some g) :=
  ⟨rfl, rfl, rfl, by simp, fun k _ hne => setRow_other w g k ys (fun e => hne (by rw [e]))⟩
theorem below_row {B : Nat} {a : World} (h : Below B a w) (hg : B ≤ g) (ys : Array Value) : Below B a (w.setRow g ys) :=
  ⟨h.os, h.tape, h.output, by have := h.size; simpa using this, fun k hk => (setRow_other w g k ys (by omega)).trans (h.block k hk)⟩

/-- The whole variable, read. -/
theorem Arr.load (h : Arr w g t xs) (ty : TypeId) {d : TypeDesc} (hu : P.underlying ty = some d) (hd : (match d with | .struct _ | .array _ _ => true | _ => false) = true) {n : Nat} (hi : (P.info? ty).map (·.size) = some n) (hn : xs.length = n) :
    (Instr.loadAt ty (.pointer (some ⟨g, 0, none⟩))).run P w = .ok (.agg xs.toArray) w := by
  simp only [Instr.loadAt, Instr.sureAddr, Sem.run_bind, Sem.run_pure, Result.andThen_ok]
  exact run_loadVar_row w g t ty xs.toArray (0, 0) d h hu hd (by rw [hi]; simp [hn])

/-- .. and written. -/
theorem Arr.store (h : Arr w g t xs) (ty : TypeId) (ys : List Value) {n : Nat} (hi : (P.info? ty).map (·.size) = some n) (hn : xs.length = n) (hm : ys.length = n) (h1 : ∀ v ∈ ys, v.oneCell' = true) :
    (Instr.storeAt ty (.pointer (some ⟨g, 0, none⟩)) (.agg ys.toArray)).run P w = .ok () (w.setRow g ys.toArray) := by
  simp only [Instr.storeAt, Instr.sureAddr, Sem.run_bind, Sem.run_pure, Result.andThen_ok]
  exact run_storeVar_row w g t ty xs.toArray ys.toArray h (by rw [hi]; simp [hm]) (by simp [hn, hm]) (Array.all_eq_true_iff_forall_mem.2 (fun v hv => h1 v (by simpa using hv)))

/-- The operations, in a walk. -/
theorem Arr.loadL {ops : Array Oper} {rest : List Oper} {o : Oper} {a : Act} {Q : Exit → Act → World → Prop} (h : Arr w g t xs) (hgd : o.guard = none) (ty : TypeId) (x : Operand) (ho : o.op = .load ty x)
    (hx : a.eval x = .pointer (some ⟨g, 0, none⟩)) {d : TypeDesc} (hu : P.underlying ty = some d) (hd : (match d with | .struct _ | .array _ _ => true | _ => false) = true) {n : Nat} (hi : (P.info? ty).map (·.size) = some n) (hn : xs.length = n)
    (k : wpList P ops Q rest (a.put o.dst (.agg xs.toArray)) w) : wpList P ops Q (o :: rest) a w :=
  wpList_load_row hgd ty x ho g hx t xs.toArray (0, 0) d h hu hd (by rw [hi]; simp [hn]) k
theorem Arr.storeL {ops : Array Oper} {rest : List Oper} {o : Oper} {a : Act} {Q : Exit → Act → World → Prop} (h : Arr w g t xs) (hgd : o.guard = none) (ty : TypeId) (x y : Operand) (ho : o.op = .store ty x y)
    (hx : a.eval x = .pointer (some ⟨g, 0, none⟩)) (ys : List Value) (hy : a.eval y = .agg ys.toArray) {n : Nat} (hi : (P.info? ty).map (·.size) = some n) (hn : xs.length = n) (hm : ys.length = n) (h1 : ∀ v ∈ ys, v.oneCell' = true)
    (k : wpList P ops Q rest (a.put o.dst undef) (w.setRow g ys.toArray)) : wpList P ops Q (o :: rest) a w :=
  wpList_store_row hgd ty x y ho g ys.toArray hx hy t xs.toArray h (by rw [hi]; simp [hm]) (by simp [hn, hm]) (Array.all_eq_true_iff_forall_mem.2 (fun v hv => h1 v (by simpa using hv))) k
/-- The return of a result that lies in a variable. -/
theorem Arr.ret (h : Arr w g t xs) {fn : Func} {p : Tmp} {ty : TypeId} (hf : fn.results = #[.cell p ty]) (tmps : Array Value) (hp : tmps.getD p undef = .pointer (some ⟨g, 0, none⟩))
    {d : TypeDesc} (hu : P.underlying ty = some d) (hd : (match d with | .struct _ | .array _ _ => true | _ => false) = true) {n : Nat} (hi : (P.info? ty).map (·.size) = some n) (hn : xs.length = n) :
    (results fn tmps).run P w = .ok (.agg xs.toArray) w :=
  results_cell_row hf tmps w g t xs.toArray (0, 0) d hp h hu hd (by rw [hi]; simp [hn])

/-- An element of an array's value, of one cell. -/
theorem run_index_arr (w : World) (t e : TypeId) (n : Nat) (cs : Array Value) (k : Nat) (v : Value) (d : TypeDesc) (h : P.underlying t = some (.array n e)) (he : P.underlying e = some d) (hd : (match d with | .struct _ | .array _ _ => false | _ => true) = true) (hi : (P.info? e).map (·.size) = some 1)
    (hk : k < n) (hv : cs[k]? = some v) : (Instr.index t (.agg cs) (.int .i64 (k : Int))).run P w = .ok v w := by
  have hn : (0 : Int) ≤ (k : Int) ∧ (k : Int) < (n : Int) := by omega
  have hagg : (isAgg e).run P w = .ok false w := by
    unfold isAgg
    rw [Sem.run_bind, run_underlying he w]
    cases d <;> simp_all
  cases hq : P.info? e with
  | none => simp [hq] at hi
  | some i =>
    have hs : i.size = 1 := by simpa [hq] using hi
    simp [Instr.index, run_underlying h, asIntOf, hn, sizeOf, typeInfo, hq, hs, part, Sem.run_bind, hagg, hv]
    omega
end

theorem bytes_one (l : List UInt8) : ∀ v ∈ Lib.byteCells l, v.oneCell' = true := by
  intro v hv
  simp only [Lib.byteCells, List.mem_map] at hv
  obtain ⟨x, _, rfl⟩ := hv
  rfl
end Go.Proofs.YtmmmogccjopfeaaDoor.ArrW
