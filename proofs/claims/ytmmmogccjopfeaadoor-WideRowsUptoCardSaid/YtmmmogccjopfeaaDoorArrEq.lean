/-
  Two arrays of whole numbers that hold the same are equal. No program is named here. Conditions: in each statement.
-/
import Derived.Test.YtmmmogccjopfeaaDoorArrY
import Derived.Laws.StructEq
import Derived.Laws.CopyRow
namespace Go.Proofs.YtmmmogccjopfeaaDoor.ArrW
open Go.RowKit BytesW

section
variable {P : Program}

theorem run_part_int (w : World) (e : TypeId) (xs : Array Value) (i : Nat) (k : IntKind) (a : Int) (he : P.underlying e = some (.int k)) (hx : xs[i]? = some (.int k a)) : (part e xs i).run P w = .ok (.int k a) w := by
  have hagg : (isAgg e).run P w = .ok false w := by
    unfold isAgg
    rw [Sem.run_bind, run_underlying he w]
    rfl
  unfold part
  simp [Sem.run_bind, hagg, hx]

theorem run_eq_arr (w : World) (d : Nat) (t e : TypeId) (n : Nat) (xs ys : Array Value) (k : IntKind) (ht : P.underlying t = some (.array n e)) (he : P.underlying e = some (.int k)) (hi : (P.info? e).map (·.size) = some 1)
    (hx : ∀ i, i < n → ∃ a, xs[i]? = some (.int k a) ∧ ys[i]? = some (.int k a)) : (Op.equalIn (d + 2) t (.agg xs) (.agg ys)).run P w = .ok true w := by
  have hs : (sizeOf e).run P w = .ok 1 w := by
    cases hq : P.info? e with
    | none => simp [hq] at hi
    | some i =>
      have hs : i.size = 1 := by simpa [hq] using hi
      simp [sizeOf, typeInfo, hq, hs]
  unfold Op.equalIn
  simp only [Sem.run_bind, run_underlying ht, Result.andThen_ok, hs, Nat.mul_one]
  have key : ∀ (l : List Nat), (∀ i ∈ l, i < n) → Sem.run P (forIn l ((none : Option Bool), ()) fun i __s => do
            let __do_lift ← part e xs i
            let __do_lift_1 ← part e ys i
            let __do_lift ← Op.equalIn (d + 1) e __do_lift __do_lift_1
            if (!__do_lift) = true then pure (ForInStep.done (some false, ())) else pure (ForInStep.yield (none, ()))) w = .ok (none, ()) w := by
    intro l
    induction l with
    | nil => intro _; simp
    | cons i l ih =>
      intro hl
      obtain ⟨a, h1, h2⟩ := hx i (hl i (List.mem_cons_self ..))
      have ih' := ih (fun j hj => hl j (List.mem_cons_of_mem _ hj))
      simp only [List.forIn_cons, Sem.run_bind, run_part_int w e xs i k a he h1, run_part_int w e ys i k a he h2, Result.andThen_ok, run_equalIn_int w d e k k a a he, beq_self_eq_true, Bool.not_true, Bool.false_eq_true, if_false, Sem.run_pure]
      exact ih'
  have hr := key (List.range' 0 n) (fun i hi => by simp [List.mem_range'] at hi; omega)
  have hf : (forIn [:n] ((none : Option Bool), ()) fun i __s => (do
            let __do_lift ← part e xs i
            let __do_lift_1 ← part e ys i
            let __do_lift ← Op.equalIn (d + 1) e __do_lift __do_lift_1
            if (!__do_lift) = true then pure (ForInStep.done (some false, ())) else pure (ForInStep.yield (none, ())) : Sem (ForInStep (Option Bool × Unit)))) = forIn (List.range' 0 n) ((none : Option Bool), ()) fun i __s => (do
            let __do_lift ← part e xs i
            let __do_lift_1 ← part e ys i
            let __do_lift ← Op.equalIn (d + 1) e __do_lift __do_lift_1
            if (!__do_lift) = true then pure (ForInStep.done (some false, ())) else pure (ForInStep.yield (none, ()))) := by
    simp [Std.Legacy.Range.forIn_eq_forIn_range', Std.Legacy.Range.size]
  rw [hf, hr]
  rfl

/-- '==' of two arrays of whole numbers. -/
theorem run_eql_arr (w : World) (t e : TypeId) (n : Nat) (xs ys : Array Value) (k : IntKind) (ht : P.underlying t = some (.array n e)) (he : P.underlying e = some (.int k)) (hi : (P.info? e).map (·.size) = some 1)
    (hx : ∀ i, i < n → ∃ a, xs[i]? = some (.int k a) ∧ ys[i]? = some (.int k a)) : (binOp .eql t (.agg xs) (.agg ys)).run P w = .ok (.bool true) w := by
  rw [run_eql_struct, run_eq_arr w 9998 t e n xs ys k ht he hi hx]
  rfl

/-- A store into the first cells of a variable. -/
theorem Arr.storePart {w : World} {g : Nat} {t : TypeId} {xs zs : List Value} (h : Arr w g t (xs ++ zs)) (ty : TypeId) (ys : List Value) {n : Nat} (hi : (P.info? ty).map (·.size) = some n) (hn : xs.length = n) (hm : ys.length = n) (h1 : ∀ v ∈ ys, v.oneCell' = true) :
    (Instr.storeAt ty (.pointer (some ⟨g, 0, none⟩)) (.agg ys.toArray)).run P w = .ok () (w.setRow g (ys ++ zs).toArray) := by
  have hst := run_storeCells_at P g 0 t ys 0 (xs ++ zs).toArray w h (by simp; omega) h1
  have e : ((xs ++ zs).toArray.toList.take (0 + 0) ++ ys ++ (xs ++ zs).toArray.toList.drop (0 + 0 + ys.length)) = ys ++ zs := by
    simp only [Nat.add_zero, Nat.zero_add, List.take_zero, List.nil_append]
    rw [show ys.length = xs.length by omega, List.drop_left]
  rw [e] at hst
  cases hq : P.info? ty with
  | none => simp [hq] at hi
  | some i =>
    have hs : i.size = ys.length := by rw [hm]; simpa [hq] using hi
    simp only [Instr.storeAt, Instr.sureAddr, Sem.run_bind, Sem.run_pure, Result.andThen_ok]
    simp [storeVar, sizeOf, typeInfo, hq, hs, Value.cells, hst]
theorem Arr.storePartO {w : World} {g : Nat} {t : TypeId} {xs zs : List Value} {K : Act → World → Prop} {Q : Exit → Act → World → Prop} {o : Oper} {a : Act} (h : Arr w g t (xs ++ zs)) (ty : TypeId) (x y : Operand) (ho : o.op = .store ty x y)
    (hx : a.eval x = .pointer (some ⟨g, 0, none⟩)) (ys : List Value) (hy : a.eval y = .agg ys.toArray) {n : Nat} (hi : (P.info? ty).map (·.size) = some n) (hn : xs.length = n) (hm : ys.length = n) (h1 : ∀ v ∈ ys, v.oneCell' = true)
    (k : K (a.put o.dst undef) (w.setRow g (ys ++ zs).toArray)) : o.wp P a w K Q := by
  unfold Oper.wp execOp
  simp only [ho, hx, hy, Sem.run_bind, Arr.storePart h ty ys hi hn hm h1, Sem.run_pure, Result.andThen_ok]
  exact k
end
end Go.Proofs.YtmmmogccjopfeaaDoor.ArrW
