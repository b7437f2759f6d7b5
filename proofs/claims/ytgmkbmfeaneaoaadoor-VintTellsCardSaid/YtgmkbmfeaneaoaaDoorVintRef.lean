/-
  ticketwardref.CLong and CTake: what they hand back. Conditions: in each statement.
-/
import Derived.Test.YtgmkbmfeaneaoaaDoorVintTake
import Derived.Handy
namespace Go.Proofs.YtgmkbmfeaneaoaaDoor.VintRefW
open Go.RowKit BytesW VintM VintLongW VintTakeW

theorem ret1 {k : IntKind} {a b : Int} (h : a = b) : Ending.returned (.int k a) = Ending.returned (.int k b) := by rw [h]

set_option maxHeartbeats 4000000 in
set_option maxRecDepth 100000 in
theorem clong_any (m : Nat) (h : m < 4611686018427387904) (w : World) :
    Calls Tryd.prog 14 #[.int .i64 (m : Int)] w fun e w' => e = .returned (.int .i64 (lng m : Int)) ∧ Below w.heap.size w w' := by
  have hb := (Below.refl w.heap.size w).alloc (Nat.le_refl _) (.cells #[.int .i64 1, .int .i64 2, .int .i64 4] 3)
  by_cases h1 : m < 64
  · have HL := Lib.hid (show lng m = 1 by unfold lng; rw [if_pos h1])
    have d2 : decide ((m : Int) < 64) = true := decide_eq_true (by omega)
    clear h h1
    go_enter Tryd.func14, Tryd.ntmps14
    go_wp2
    go_rounds 1
    go_ret
    exact ⟨ret1 (by rw [HL.out]; rfl), hb⟩
  have d2 : decide ((m : Int) < 64) = false := decide_eq_false (by omega)
  by_cases h2 : m < 16384
  · have HL := Lib.hid (show lng m = 2 by unfold lng; rw [if_neg h1, if_pos h2])
    have d3 : decide ((m : Int) < 16384) = true := decide_eq_true (by omega)
    clear h h1 h2
    go_enter Tryd.func14, Tryd.ntmps14
    go_wp2
    go_rounds 2
    go_ret
    exact ⟨ret1 (by rw [HL.out]; rfl), hb⟩
  have d3 : decide ((m : Int) < 16384) = false := decide_eq_false (by omega)
  by_cases h3 : m < 1073741824
  · have HL := Lib.hid (show lng m = 4 by unfold lng; rw [if_neg h1, if_neg h2, if_pos h3])
    have d4 : decide ((m : Int) < 1073741824) = true := decide_eq_true (by omega)
    clear h h1 h2 h3
    go_enter Tryd.func14, Tryd.ntmps14
    go_wp2
    go_rounds 3
    go_ret
    exact ⟨ret1 (by rw [HL.out]; rfl), hb⟩
  · have HL := Lib.hid (show lng m = 8 by unfold lng; rw [if_neg h1, if_neg h2, if_neg h3])
    have d4 : decide ((m : Int) < 1073741824) = false := decide_eq_false (by omega)
    clear h h1 h2 h3
    go_enter Tryd.func14, Tryd.ntmps14
    go_wp2
    go_rounds 4
    go_ret
    exact ⟨ret1 (by rw [HL.out]; rfl), hb⟩

/-- Three numbers, behind new memory. -/
def TbPost (p : Nat × Nat × Nat) (w : World) (e : Ending) (w' : World) : Prop :=
  e = .returned (.tuple #[.int .i64 (p.2.1 : Int), .int .i64 (p.2.2 : Int), .int .i64 (p.1 : Int)]) ∧ Below w.heap.size w w'

theorem lit_cell (w : World) (x : UInt8) (l : List UInt8) (hl : kk l = 2 ^ (x.toNat / 64)) :
    (w.alloc (.cells #[.int .i64 1, .int .i64 2, .int .i64 4, .int .i64 8] 3)).cell? ⟨w.heap.size, x.toNat / 64, none⟩ = some (.int .i64 (kk l : Int)) := by
  have hx := x.toNat_lt
  have h4 : x.toNat / 64 = 0 ∨ x.toNat / 64 = 1 ∨ x.toNat / 64 = 2 ∨ x.toNat / 64 = 3 := by omega
  unfold World.cell?
  simp only [heap_alloc_new]
  rw [hl]
  rcases h4 with h | h | h | h <;> rw [h] <;> rfl

set_option maxHeartbeats 4000000 in
set_option maxRecDepth 100000 in
theorem ctake_any (l : List UInt8) (A : Option Addr) (c : Nat) (w : World) (hA : Bs w w.heap.size A l) (hc : l.length ≤ c) (hlen : l.length ≤ 140737488355328) :
    Calls Tryd.prog 12 #[.slice A l.length c] w (TbPost (take l) w) := by
  by_cases h0 : l.length = 0
  · obtain rfl : l = [] := List.eq_nil_of_length_eq_zero h0
    have HP := Lib.hid take_nil
    clear hA
    go_enter Tryd.func12, Tryd.ntmps12
    go_wp2
    go_ret3
    rw [HP.out]
    exact ⟨rfl, Below.refl _ _⟩
  · have hpos : 0 < l.length := by omega
    have t0 : ((l.length : Int) == 0) = false := beq_eq_false_iff_ne.2 (by omega)
    have hb := (Below.refl w.heap.size w).alloc (Nat.le_refl _) (.cells #[.int .i64 1, .int .i64 2, .int .i64 4, .int .i64 8] 3)
    obtain ⟨ad, rfl, hadb, hcell⟩ := (hA.below hb).at_ hpos
    have hKv : kk l = 2 ^ (l[0].toNat / 64) := by unfold kk; rw [headD_eq l hpos]
    have hlc := lit_cell w _ l hKv
    rw [add_zero] at hcell
    have HC := Lib.hid (fun (k : Nat) (h : k < l.length) => by
      obtain ⟨ad', e, _, h''⟩ := (hA.below hb) hpos
      cases e
      exact h'' k h)
    generalize hx0 : l[0] = x at *
    have HX := Lib.hid hx0
    clear hx0 h0 hA hKv
    have hx := x.toNat_lt
    have hK := isK_pos (kk_isK l)
    have H0 := Lib.hid (num_zero l)
    have HS := Lib.hid (@take_short l)
    have HO := Lib.hid (@take_ok l (fun e => by rw [e] at hpos; simp at hpos))
    generalize kk l = K at *
    obtain ⟨hK1, hK8⟩ := hK
    by_cases hs : l.length < K
    · have HP := Lib.hid (HS.out hs)
      clear HS HO H0 hK1 hK8
      go_enter Tryd.func12, Tryd.ntmps12
      go_wp2
      go_ret3
      rw [HP.out]
      exact ⟨rfl, hb⟩
    · have hs' : K ≤ l.length := by omega
      have HP := Lib.hid (HO.out hs')
      have HN := Lib.hid (fun j h => num_succ l j h)
      have HL := Lib.hid (fun j h => num_lt l j h)
      clear HS HO hs
      go_enter Tryd.func12, Tryd.ntmps12
      go_wp2
      go_loop [6, 7] (fun v i => ∃ (j m : Nat), 1 ≤ j ∧ j ≤ K ∧ i = .int .i64 j ∧ m = num l (j - 1) ∧ v = .int .i64 (m : Int)) (fun _ i => K - (intOf i).toNat)
      case atStart => exact ⟨1, _, Nat.le_refl _, hK1, rfl, rfl, by rw [H0.out, headD_eq l hpos, HX.out]; rfl⟩
      case round =>
        obtain ⟨j, m, hj1, hj, rfl, hm, rfl⟩ := hrel
        by_cases hlt : j < K
        · have hcl := HC.out j (by omega)
          have HM := Lib.hid (HN.out (j - 1) (by omega))
          have hml := num_small (HL.out (j - 1) (by omega)) (show j - 1 ≤ 6 by omega)
          simp only [show j - 1 + 1 = j from by omega] at HM
          rw [← hm] at HM hml
          generalize l[j]'_ = y at *
          have hy := y.toNat_lt
          have hlj : j < l.length := by omega
          clear hm
          go_wp2
          go_round
          case rel => exact ⟨j + 1, m * 256 + y.toNat, by omega, by omega, by go_num, HM.out.symm, by go_num⟩
          case measure => simp [intOf]; omega
        · obtain rfl : j = K := by omega
          have HM := Lib.hid hm
          clear hm
          go_wp2
          go_ret3
          rw [HP.out, ← HM.out]
          exact ⟨rfl, hb⟩
end Go.Proofs.YtgmkbmfeaneaoaaDoor.VintRefW
