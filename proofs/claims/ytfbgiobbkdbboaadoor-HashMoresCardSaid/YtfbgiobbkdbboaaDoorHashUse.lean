/-
  More, End, Right at messages that are valid: as the laws use them. Conditions: in each statement.
-/
import Derived.Test.YtfbgiobbkdbboaaDoorHashMore
import Derived.Test.YtfbgiobbkdbboaaDoorHashSame
import Derived.Test.YtfbgiobbkdbboaaDoorHashAlive
namespace Go.Proofs.YtfbgiobbkdbboaaDoor.HashUseW
open Go.RowKit BytesW CellsW WordsW ArrW HashM HashX HashMath HashCompW HashFinW HashRightW HashSumW HashSameW HashMoreW

theorem okH_of {L n : Nat} (hL : L ≤ 1099511627776) (h : n = L % 64) : okH (L : Int) n = true := decide_eq_true ⟨by omega, by omega, by omega⟩
theorem more_ok (S : List Nat) (hS : Sm S) (L : Nat) (A : Option Addr) (r : List UInt8) (c : Nat) (B : Option Addr) (b : List UInt8) (d : Nat) (w : World)
    (hA : Bs w w.heap.size A r) (hcr : r.length ≤ c) (hB : Bs w w.heap.size B b) (hdb : b.length ≤ d) (hr : r.length = L % 64) (hL : L + b.length ≤ 1099511627776) (hT : TabR w) :
    Calls Tryd.prog 13 #[.agg (hc S (L : Int) (.slice A r.length c)).toArray, .slice B b.length d] w fun e w' =>
      ∃ A' c', e = .returned (.tuple #[.agg (hc (run S (r ++ b)) ((L + b.length : Nat) : Int) (.slice A' (over (r ++ b)).length c')).toArray, .int .i64 0]) ∧ (over (r ++ b)).length ≤ c' ∧ Bs w' w'.heap.size A' (over (r ++ b)) ∧ Below w.heap.size w w' := by
  have h := more_any S hS (L : Int) A r c B b d w hA hcr hB hdb (by omega) (by omega) hT
  have hm : moreM S (L : Int) r b = (run S (r ++ b), ((L + b.length : Nat) : Int), over (r ++ b), 0) := by
    unfold moreM
    rw [if_pos (okH_of (by omega) hr), if_neg (by omega)]
    simp
  rw [hm] at h
  exact h
theorem end_ok (S : List Nat) (hS : Sm S) (L : Nat) (A : Option Addr) (l : List UInt8) (c : Nat) (w : World) (hA : Bs w w.heap.size A l) (hl : l.length = L % 64) (hL : L ≤ 1099511627776) (hT : TabR w) :
    Calls Tryd.prog 15 #[.agg (hc S (L : Int) (.slice A l.length c)).toArray] w fun e w' => e = .returned (.tuple #[.agg (Lib.byteCells (hend S l L)).toArray, .int .i64 0]) ∧ Below w.heap.size w w' := by
  have h := end_any S hS (L : Int) A l c w hA (by omega) (by omega) hT
  have hm : endM S (L : Int) l = (hend S l L, 0) := by
    unfold endM
    rw [if_pos (okH_of hL hl)]
    simp
  rw [hm] at h
  exact h
theorem right_ok (S : List Nat) (hS : Sm S) (L : Nat) (A : Option Addr) (n c : Nat) (w : World) (hl : n = L % 64) (hL : L ≤ 1099511627776) :
    Calls Tryd.prog 16 #[.agg (hc S (L : Int) (.slice A n c)).toArray] w fun e w' => e = .returned (.bool true) ∧ Below w.heap.size w w' := by
  have h := right_any S hS (L : Int) A n c w (by omega) (by omega)
  rw [okH_of hL hl] at h
  exact h
theorem buildL {P : Program} {w : World} {ops : Array Oper} {rest : List Oper} {o : Oper} {a : Act} {Q : Exit → Act → World → Prop} {t : TypeId} {parts : Array (Nat × Operand)} {ps : Array (Nat × Value)} {v : Value} (hgd : o.guard = none) (ho : o.op = .build t parts)
    (hp0 : (parts.toList.map fun (i, x) => (i, a.eval x)) = ps.toList) (hr : (Instr.build t ps).run P w = .ok v w) (k : wpList P ops Q rest (a.put o.dst v) w) : wpList P ops Q (o :: rest) a w := by
  have hp : (parts.map fun (i, x) => (i, a.eval x)) = ps := by
    apply Array.toList_inj.1
    rw [Array.toList_map]
    exact hp0
  refine wpList_plain hgd fun K hK => ?_
  unfold Oper.wp execOp
  simp only [ho, hp, Sem.run_bind, hr, Sem.run_pure, Result.andThen_ok]
  exact hK _ _ k
/-- A whole variable's load, under a guard that holds. -/
theorem loadLg {P : Program} {w : World} {g : Nat} {t : TypeId} {xs : List Value} {ops : Array Oper} {rest : List Oper} {o : Oper} {a : Act} {Q : Exit → Act → World → Prop} (h : Arr w g t xs) (hgd : Region.wanted o (yielded ops a.tmps) = true) (ty : TypeId) (x : Operand) (ho : o.op = .load ty x)
    (hx : a.eval x = .pointer (some ⟨g, 0, none⟩)) {d : TypeDesc} (hu : P.underlying ty = some d) (hd : (match d with | .struct _ | .array _ _ => true | _ => false) = true) {n : Nat} (hi : (P.info? ty).map (·.size) = some n) (hn : xs.length = n)
    (k : wpList P ops Q rest (a.put o.dst (.agg xs.toArray)) w) : wpList P ops Q (o :: rest) a w := by
  refine wpList_step fun K hK => ?_
  rw [if_pos hgd]
  exact Arr.loadO h ty x ho hx hu hd hi hn (hK _ _ k)
/-- A message whose first part is whole blocks. -/
theorem hend_blocks (S : List Nat) (a b : List UInt8) (k n : Nat) (ha : a.length = 64 * k) : hend (run (run S a) b) (over b) n = hend S (a ++ b) n := by
  rw [← hend_run S (a ++ b) n, run_append b k a S ha, over_append b k a ha]
end Go.Proofs.YtfbgiobbkdbboaaDoor.HashUseW
