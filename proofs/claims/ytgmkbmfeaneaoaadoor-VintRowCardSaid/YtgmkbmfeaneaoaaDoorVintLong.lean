/-
  vint.Long and math/bits.TrailingZeros at 1, 2, 4 and 8: what they hand back. Conditions: the table of math/bits, where it is read.
-/
import Derived.Test.YtgmkbmfeaneaoaaDoorBytesX
import Derived.Test.YtgmkbmfeaneaoaaDoorVintM
import Derived.WalkKit
import Derived.BigCall
import Derived.Lib.Hide
import Derived.Outline
import Derived.Deep.DeepMust
namespace Go.Proofs.YtgmkbmfeaneaoaaDoor.VintLongW
open Go.RowKit BytesW VintM

theorem tup22 {a b : Int} {c d : Int} (h : a = b) (h2 : c = d) : Ending.returned (.tuple #[.int .i64 a, .int .i64 c]) = Ending.returned (.tuple #[.int .i64 b, .int .i64 d]) := by rw [h, h2]

set_option maxHeartbeats 400000 in
theorem long_no (n : Int) (h : okN n = false) (w : World) :
    Calls Tryd.prog 8 #[.int .i64 n] w fun e w' => e = .returned (.tuple #[.int .i64 0, .int .i64 2]) ∧ w = w' := by
  have h' := okN_no h
  clear h
  by_cases h1 : n < 0
  · clear h'
    go_enter Tryd.func8, Tryd.ntmps8
    go_wp2
    go_ret2
    exact ⟨rfl, rfl⟩
  · have h2 : 4611686018427387904 ≤ n := by omega
    have d1 : decide (n < 0) = false := decide_eq_false h1
    have d2 : decide (n < 64) = false := decide_eq_false (by omega)
    have d3 : decide (n < 16384) = false := decide_eq_false (by omega)
    have d4 : decide (n < 1073741824) = false := decide_eq_false (by omega)
    have d5 : decide (n < 4611686018427387904) = false := decide_eq_false (by omega)
    clear h' h1 h2
    go_enter Tryd.func8, Tryd.ntmps8
    go_wp2
    go_ret2
    exact ⟨rfl, rfl⟩

set_option maxHeartbeats 400000 in
theorem long_yes (m : Nat) (h : m < 4611686018427387904) (w : World) :
    Calls Tryd.prog 8 #[.int .i64 (m : Int)] w fun e w' => e = .returned (.tuple #[.int .i64 (lng m : Int), .int .i64 0]) ∧ w = w' := by
  have d1 : decide ((m : Int) < 0) = false := decide_eq_false (by omega)
  by_cases h1 : m < 64
  · have HL := Lib.hid (show lng m = 1 by unfold lng; rw [if_pos h1])
    have d2 : decide ((m : Int) < 64) = true := decide_eq_true (by omega)
    clear h h1
    go_enter Tryd.func8, Tryd.ntmps8
    go_wp2
    go_ret2
    exact ⟨tup22 (by rw [HL.out]; rfl) rfl, rfl⟩
  · have d2 : decide ((m : Int) < 64) = false := decide_eq_false (by omega)
    by_cases h2 : m < 16384
    · have HL := Lib.hid (show lng m = 2 by unfold lng; rw [if_neg h1, if_pos h2])
      have d3 : decide ((m : Int) < 16384) = true := decide_eq_true (by omega)
      clear h h1 h2
      go_enter Tryd.func8, Tryd.ntmps8
      go_wp2
      go_ret2
      exact ⟨tup22 (by rw [HL.out]; rfl) rfl, rfl⟩
    · have d3 : decide ((m : Int) < 16384) = false := decide_eq_false (by omega)
      by_cases h3 : m < 1073741824
      · have HL := Lib.hid (show lng m = 4 by unfold lng; rw [if_neg h1, if_neg h2, if_pos h3])
        have d4 : decide ((m : Int) < 1073741824) = true := decide_eq_true (by omega)
        clear h h1 h2 h3
        go_enter Tryd.func8, Tryd.ntmps8
        go_wp2
        go_ret2
        exact ⟨tup22 (by rw [HL.out]; rfl) rfl, rfl⟩
      · have HL := Lib.hid (show lng m = 8 by unfold lng; rw [if_neg h1, if_neg h2, if_neg h3])
        have d4 : decide ((m : Int) < 1073741824) = false := decide_eq_false (by omega)
        have d5 : decide ((m : Int) < 4611686018427387904) = true := decide_eq_true (by omega)
        clear h h1 h2 h3
        go_enter Tryd.func8, Tryd.ntmps8
        go_wp2
        go_ret2
        exact ⟨tup22 (by rw [HL.out]; rfl) rfl, rfl⟩

/-- The table of math/bits, where it is read. -/
def Tab (w : World) : Prop := w.cell? ⟨1, 0, none⟩ = some (.int .u8 0) ∧ w.cell? ⟨1, 1, none⟩ = some (.int .u8 1) ∧
  w.cell? ⟨1, 3, none⟩ = some (.int .u8 2) ∧ w.cell? ⟨1, 7, none⟩ = some (.int .u8 3)

theorem Tab.below {w w' : World} (h : Tab w) (hb : Below w.heap.size w w') : Tab w' := by
  obtain ⟨h0, h1, h3, h7⟩ := h
  exact ⟨(hb.cell (World.block_lt_of_cell? _ _ h0)).trans h0, (hb.cell (World.block_lt_of_cell? _ _ h1)).trans h1, (hb.cell (World.block_lt_of_cell? _ _ h3)).trans h3, (hb.cell (World.block_lt_of_cell? _ _ h7)).trans h7⟩
theorem Tab.drew {w : World} (h : Tab w) : Tab w.drew := h

set_option maxHeartbeats 400000 in
theorem tz64_core (k i r : Nat) (w : World) (hx0 : ((k : Int) == 0) = false)
    (key : IntKind.u64.wrap (bits BinOp.and IntKind.u64 (k : Int) (IntKind.u64.wrap (-(k : Int))) * 285870213051353865) / 288230376151711744 = (i : Int))
    (hi : i < 64) (hr : r < 64) (hcell : w.cell? ⟨1, i, none⟩ = some (.int .u8 (r : Int))) :
    Calls Tryd.prog 22 #[.int .u64 (k : Int)] w fun e w' => e = .returned (.int .i64 (r : Int)) ∧ w = w' := by
  go_enter Tryd.func22, Tryd.ntmps22
  go_wp2_with (simp only [key])
  go_ret
  exact ⟨rfl, rfl⟩

theorem tz64 (k : Nat) (hk : isK k) (w : World) (hT : Tab w) :
    Calls Tryd.prog 22 #[.int .u64 (k : Int)] w fun e w' => e = .returned (.int .i64 (ix k : Int)) ∧ w = w' := by
  obtain ⟨h0, h1, h3, h7⟩ := hT
  rcases hk with rfl | rfl | rfl | rfl
  · exact tz64_core 1 0 0 w (by decide) (by decide +kernel) (by decide) (by decide) h0
  · exact tz64_core 2 1 1 w (by decide) (by decide +kernel) (by decide) (by decide) h1
  · exact tz64_core 4 3 2 w (by decide) (by decide +kernel) (by decide) (by decide) h3
  · exact tz64_core 8 7 3 w (by decide) (by decide +kernel) (by decide) (by decide) h7

set_option maxHeartbeats 400000 in
theorem tz (k : Nat) (hk : isK k) (w : World) (hT : Tab w) :
    Calls Tryd.prog 20 #[.int .u64 (k : Int)] w fun e w' => e = .returned (.int .i64 (ix k : Int)) ∧ w = w' := by
  have H := Lib.hid (tz64 k hk w hT)
  go_enter Tryd.func20, Tryd.ntmps20
  go_wp2_with fail
  refine H.out.mono ?_
  rintro e w' ⟨rfl, rfl⟩
  go_wp2
  go_ret
  exact ⟨rfl, rfl⟩

end Go.Proofs.YtgmkbmfeaneaoaaDoor.VintLongW
