/-
  A state of hash: its cells, its type, validity. Conditions: in each statement.
-/
import Derived.Test.YtnlhcogmccladaaDoorHashD
import Derived.Test.YtnlhcogmccladaaDoorHashMath
namespace Go.Proofs.YtnlhcogmccladaaDoor.HashRightW
open Go.RowKit BytesW CellsW WordsW ArrW HashM HashX

def hc (S : List Nat) (long : Int) (v : Value) : List Value := wc S ++ [.int .i64 long, v]
theorem hc_len (S : List Nat) (long : Int) (v : Value) (h : S.length = 8) : (hc S long v).length = 10 := by simp [hc, wc_length, h]
theorem hc_one (S : List Nat) (long : Int) (A : Option Addr) (n c : Nat) : ∀ x ∈ hc S long (.slice A n c), x.oneCell' = true := by
  intro x hx
  rcases List.mem_append.1 hx with h | h
  · exact wc_one S x h
  · simp at h
    rcases h with rfl | rfl <;> rfl
theorem hc_8 (S : List Nat) (long : Int) (v : Value) (h : S.length = 8) : (hc S long v)[8]? = some (.int .i64 long) := by
  unfold hc
  rw [List.getElem?_append_right (by rw [wc_length]; omega), wc_length, h]
  rfl
theorem hc_9 (S : List Nat) (long : Int) (v : Value) (h : S.length = 8) : (hc S long v)[9]? = some v := by
  unfold hc
  rw [List.getElem?_append_right (by rw [wc_length]; omega), wc_length, h]
  rfl
theorem struct_of {P : Program} {t : TypeId} (h : (match P.underlying t with | some (.struct _) => true | _ => false) = true) : ∃ fs, P.underlying t = some (.struct fs) := by
  cases e : P.underlying t with
  | none => rw [e] at h; cases h
  | some d => cases d <;> simp_all
theorem hash_struct : ∃ fs, Tryd.prog.underlying 61 = some (.struct fs) := struct_of (by kernel_rfl)
theorem hash_size : (Tryd.prog.info? 61).map (·.size) = some 10 := by kernel_rfl
/-- Is it valid? -/
def okH (long : Int) (n : Nat) : Bool := decide (0 ≤ long ∧ long ≤ 1099511627776 ∧ (n : Int) = long % 64)
end Go.Proofs.YtnlhcogmccladaaDoor.HashRightW
namespace Go.Proofs.YtnlhcogmccladaaDoor.HashSumW
open Go.RowKit BytesW CellsW WordsW ArrW HashM HashX HashRightW

theorem field_state (S : List Nat) (long : Int) (v : Value) (h : S.length = 8) (w : World) : (Instr.field 61 (.agg (hc S long v).toArray) 0).run Tryd.prog w = .ok (.agg (wc S).toArray) w := by
  obtain ⟨a, b, c, d, e, f, g, i, rfl⟩ := eight8 h
  kernel_rfl

theorem okH_nat {long : Int} {n : Nat} (h : okH long n = true) : ∃ L : Nat, long = (L : Int) ∧ L ≤ 1099511627776 ∧ n = L % 64 := by
  obtain ⟨a, b, c⟩ := of_decide_eq_true h
  exact ⟨long.toNat, by omega, by omega, by omega⟩
/-- What End answers. -/
def endM (S : List Nat) (long : Int) (l : List UInt8) : List UInt8 × Int := if okH long l.length = true then (hend S l long.toNat, 0) else (List.replicate 32 0, 1)
end Go.Proofs.YtnlhcogmccladaaDoor.HashSumW
