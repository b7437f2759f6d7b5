/-
  The document's own whole numbers: SetUint64, NewInt of a number that is not below 0. Conditions: in each statement.
-/
import Derived.Test.YtmmmogccjopfeaaDoorBigW
namespace Go.Proofs.YtmmmogccjopfeaaDoor.BigNewW
open Go.RowKit BytesW CellsW WordsW ArrW BigW

/-- The digits of a number below 2^64. -/
def dg (n : Nat) : List Nat := trimL [n % 4294967296, n / 4294967296]
theorem dval_dg (n : Nat) : dval (dg n) = n := by
  unfold dg
  rw [dval_trim]
  simp only [dval]
  omega

theorem us_new (w : World) (cs : List Nat) (t : TypeId) (B : Nat) (hB : w.heap.size < B) : Us (w.alloc (.cells (wc cs).toArray t)) B (some ⟨w.heap.size, 0, none⟩) cs := by
  intro _
  refine ⟨_, rfl, hB, fun k hk => ?_⟩
  have e : (⟨w.heap.size, 0, none⟩ : Addr).add k = ⟨w.heap.size, k, none⟩ := by unfold Addr.add; split <;> simp_all
  rw [e, (Arr.new w (wc cs).toArray t).cell k]
  simp [wc, List.getElem?_eq_getElem hk]

set_option maxHeartbeats 4000000 in
set_option maxRecDepth 100000 in
theorem setu_any (g n : Nat) (b : Bool) (A0 : Option Addr) (n0 c0 : Nat) (w : World) (hn : n < 18446744073709551616) (ha : Arr w g 35 [.bool b, .slice A0 n0 c0]) :
    Calls Tryd.prog 27 #[.pointer (some ⟨g, 0, none⟩), .int .u64 (n : Int)] w fun e w' => e = .returned (.pointer (some ⟨g, 0, none⟩)) ∧ IntAt w' g false (dg n) ∧ w.grownBy w' (some g) := by
  have k0 : w.cell? ⟨g, 0, none⟩ = some (.bool b) := ha.cell 0
  have k1 : w.cell? ⟨g, 1, none⟩ = some (.slice A0 n0 c0) := ha.cell 1
  have f0 := ha.frozen 0
  have f1 := ha.frozen 1
  have hlt := ha.lt
  obtain ⟨lo, hlo, e1⟩ : ∃ lo, lo = n % 4294967296 ∧ (n : Int) % 4294967296 = (lo : Int) := ⟨_, rfl, by omega⟩
  obtain ⟨hi, hhi, e2⟩ : ∃ hi, hi = n / 4294967296 ∧ (n : Int) / 4294967296 = (hi : Int) := ⟨_, rfl, by omega⟩
  have llo : lo < 4294967296 := by omega
  have lhi : hi < 4294967296 := by omega
  have HD : Hid (dg n = trimL [lo, hi]) := Lib.hid (by unfold dg; rw [hlo, hhi])
  have ha2 := ((ha.set 0 (.bool false)).set 1 (.slice (some ⟨w.heap.size, 0, none⟩) 2 2)).alloc (.cells (wc [lo, hi]).toArray 51)
  have hU := us_new ((w.setCell ⟨g, 0, none⟩ (.bool false)).setCell ⟨g, 1, none⟩ (.slice (some ⟨w.heap.size, 0, none⟩) 2 2)) [lo, hi] 51 (w.heap.size + 1) (by simp)
  have hsz : (((w.setCell ⟨g, 0, none⟩ (.bool false)).setCell ⟨g, 1, none⟩ (.slice (some ⟨w.heap.size, 0, none⟩) 2 2)).alloc (.cells (wc [lo, hi]).toArray 51)).heap.size = w.heap.size + 1 := by simp
  have ew : (wc [lo, hi]).toArray = #[.int .u32 (lo : Int), .int .u32 (hi : Int)] := rfl
  have es : ((w.setCell ⟨g, 0, none⟩ (.bool false)).setCell ⟨g, 1, none⟩ (.slice (some ⟨w.heap.size, 0, none⟩) 2 2)).heap.size = w.heap.size := by simp
  rw [es] at hU
  have hG : w.grownBy (((w.setCell ⟨g, 0, none⟩ (.bool false)).setCell ⟨g, 1, none⟩ (.slice (some ⟨w.heap.size, 0, none⟩) 2 2)).alloc (.cells (wc [lo, hi]).toArray 51)) (some g) :=
    grown_trans (grown_trans (grown_set w g 0 _) (grown_set _ g 1 _)) (World.grownBy_alloc _ _ _)
  have ht := trim_any g false (some ⟨w.heap.size, 0, none⟩) [lo, hi] 2 _ (by simpa using ha2) (by rw [hsz]; exact hU) (by simp) (by intro x hx; simp at hx; omega) (by simp)
  rw [ew] at ht hG
  simp only [Bool.false_and] at ht
  have HTr := Lib.hid ht
  have HG := Lib.hid hG
  clear ht hU ha2 hsz ew es hlo hhi ha hG
  go_enter Tryd.func27, Tryd.ntmps27
  go_wp2_with fail
  refine HTr.out.mono ?_
  clear HTr
  rintro e w' ⟨rfl, hI, hg⟩
  rw [← HD.out] at hI
  go_wp2
  go_ret
  exact ⟨rfl, hI, grown_trans HG.out hg⟩

set_option maxHeartbeats 1000000 in
set_option maxRecDepth 100000 in
theorem seti_any (g n : Nat) (b : Bool) (A0 : Option Addr) (n0 c0 : Nat) (w : World) (hn : n < 9223372036854775808) (ha : Arr w g 35 [.bool b, .slice A0 n0 c0]) :
    Calls Tryd.prog 20 #[.pointer (some ⟨g, 0, none⟩), .int .i64 (n : Int)] w fun e w' => e = .returned (.pointer (some ⟨g, 0, none⟩)) ∧ IntAt w' g false (dg n) ∧ w.grownBy w' (some g) := by
  have HS := Lib.hid (setu_any g n b A0 n0 c0 w (by omega) ha)
  have e1 : IntKind.u64.wrap (n : Int) = (n : Int) := IntWalk.u64_in _ (by omega)
  have d1 : decide ((n : Int) < 0) = false := decide_eq_false (by omega)
  clear ha
  go_enter Tryd.func20, Tryd.ntmps20
  go_wp2_with fail
  refine HS.out.mono ?_
  clear HS
  rintro e w' ⟨rfl, hI, hg⟩
  go_wp2
  go_ret
  exact ⟨rfl, hI, hg⟩

/-- A fresh number. -/
def zeroObj : Obj := .cells #[.bool false, .slice none 0 0] 35
theorem zero_arr (w : World) : Arr (w.alloc zeroObj) w.heap.size 35 [.bool false, .slice none 0 0] := Arr.new w _ _
theorem below_of_grown {B g : Nat} {w w' : World} (h : w.grownBy w' (some g)) (hg : B ≤ g) (hB : B ≤ w.heap.size) : Below B w w' :=
  (Below.refl B w).grown h hB fun k hk => by cases hk; exact hg

set_option maxHeartbeats 1000000 in
set_option maxRecDepth 100000 in
theorem newint_any (n : Nat) (m : Int) (hm : m = (n : Int)) (w : World) (hn : n < 9223372036854775808) :
    Calls Tryd.prog 11 #[.int .i64 m] w fun e w' => e = .returned (.pointer (some ⟨w.heap.size, 0, none⟩)) ∧ IntAt w' w.heap.size false (dg n) ∧ Below w.heap.size w w' := by
  subst hm
  have hs := seti_any w.heap.size n false none 0 0 (w.alloc zeroObj) hn (zero_arr w)
  unfold zeroObj at hs
  have HS := Lib.hid hs
  have hsz : (w.alloc (.cells #[.bool false, .slice none 0 0] 35)).heap.size = w.heap.size + 1 := by simp
  have HZ := Lib.hid hsz
  clear hs hsz
  go_enter Tryd.func11, Tryd.ntmps11
  go_wp2_with fail
  refine HS.out.mono ?_
  clear HS
  rintro e w' ⟨rfl, hI, hg⟩
  have hb : Below w.heap.size w w' := ((Below.refl _ w).alloc (Nat.le_refl _) _).trans (below_of_grown hg (Nat.le_refl _) (by rw [HZ.out]; omega))
  go_wp2
  go_ret
  exact ⟨rfl, hI, hb⟩
end Go.Proofs.YtmmmogccjopfeaaDoor.BigNewW
