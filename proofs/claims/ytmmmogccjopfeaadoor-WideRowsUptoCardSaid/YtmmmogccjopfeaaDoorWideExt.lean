/-
  wide.extend: what it hands back. Conditions: in the statement.
-/
import Derived.Test.YtmmmogccjopfeaaDoorWideMore
import Derived.Test.YtmmmogccjopfeaaDoorWideRot
import Derived.Test.YtmmmogccjopfeaaDoorArrG
import Derived.Test.YtmmmogccjopfeaaDoorPhase
import Derived.Deep.DeepCutAuto
import Derived.Deep.WholeRow
namespace Go.Proofs.YtmmmogccjopfeaaDoor.WideExtW
open Go.RowKit BytesW CellsW LongsW ArrW ArrG WideM WideX WideTurnW WideRotW WideSched WideMore

/-- Eighty noughts. -/
theorem zero80 : ∃ zs : Array Value, zs = (lc (List.replicate 80 0)).toArray ∧ ¬ zs = #[] ∧ (∀ w, (zeroValue 57).run Tryd.prog w = .ok (.agg zs) w) :=
  ⟨_, rfl, by simp [lc], (zero_of_info (n := 80) (by kernel_rfl)).1⟩

set_option maxHeartbeats 4000000 in
set_option maxRecDepth 100000 in
theorem extend_any (ad : Addr) (l : List UInt8) (w : World) (hA : Bs w w.heap.size (some ad) l) (hl : l.length = 128) :
    Calls Tryd.prog 28 #[.pointer (some ad)] w fun e w' => e = .returned (.agg (lc (sched l)).toArray) ∧ Below w.heap.size w w' := by
  have HA := Lib.hid hA
  have Hl := Lib.hid hl
  obtain ⟨zs, hzs, hzn, hz⟩ := zero80
  have HZ := Lib.hid hzs
  clear hA hl hzs
  go_enter Tryd.func28, Tryd.ntmps28
  go_upto_region 2 with (fail)
  generalize hW : World.alloc _ _ = W
  obtain ⟨H0, H1, hbw, hsz⟩ := start2 hW
  clear hW
  have a0 : Arr W w.heap.size 57 (lc (List.replicate 80 0)) := by rw [HZ.out] at H0; exact H0
  have a1 : Arr W (w.heap.size + 1) 57 (lc (List.replicate 80 0)) := by rw [HZ.out] at H1; exact H1
  rw [← pw_zero l] at a1
  have HA1 := Lib.hid (HA.out.below hbw)
  have Ha0 := Lib.hid a0
  have Ha1 := Lib.hid a1
  have Hs := Lib.hid hsz
  have Hbw := Lib.hid hbw
  clear a0 a1 H0 H1 hbw hsz HA
  go_wp2
  go_loopw [12] (fun i wr => ∃ p : Nat, p ≤ 128 ∧ i = .int .i64 (p : Int) ∧ Arr wr (w.heap.size + 1) 57 (lc (pw l p)) ∧ W.grownBy wr (some (w.heap.size + 1))) (fun i _ => 128 - (intOf i).toNat)
  case atStart => exact ⟨0, by omega, rfl, Ha1.out, grownRefl _ _⟩
  case round =>
    obtain ⟨p, hp, rfl, a1, hg⟩ := hrel
    by_cases hlt : p < 128
    · have hpl : p < l.length := by rw [Hl.out]; exact hlt
      obtain ⟨ad', had, hadb, hcell⟩ := (bs_grown HA1.out hg (by omega) (by rw [Hs.out]; omega)).at_ hpl
      cases had
      obtain ⟨hx, hx2⟩ := pw_get l p hpl Hl.out
      have hset := pw_set l p
      have hq : p / 8 < (pw l p).length := by rw [pw_len]; omega
      have c1 := a1.cell (p / 8)
      rw [lc_getD _ _ hq] at c1
      have f1 := a1.frozen (p / 8)
      rw [hx2] at hset
      have A1 := Lib.hid a1
      have HSet := Lib.hid hset
      have HG := Lib.hid hg
      clear a1 hset hx2 hq hg
      generalize (pw l p).getD (p / 8) 0 = x at *
      generalize l[p] = y at *
      have ho : bits .or .u64 (IntKind.u64.wrap ((x : Int) * 256)) (IntKind.u64.wrap (y.toNat : Int)) = ((x * 256 + y.toNat : Nat) : Int) := by rw [u64_wrap, u64_wrap]; exact or_byte x y hx
      clear hx
      have ct : decide ((p : Int) < 128) = true := decide_eq_true (by omega)
      go_wp2
      go_quiet (fail)
      obtain ⟨w5, hw5⟩ : ∃ w5, wr.drewN nq = w5 := ⟨_, rfl⟩
      have A5 : Hid (Arr w5 (w.heap.size + 1) 57 (lc (pw l p))) := Lib.hid (by rw [← hw5]; exact A1.out.drewN _)
      have HG5 := Lib.hid (show W.grownBy w5 (some (w.heap.size + 1)) by rw [← hw5]; exact grownTrans HG.out (grownDrewN _ _ _))
      have c5 : w5.cell? ⟨w.heap.size + 1, p / 8, none⟩ = some (.int .u64 (x : Int)) := by rw [← hw5]; exact c1
      have f5 : w5.frozen? ⟨w.heap.size + 1, p / 8, none⟩ = false := by rw [← hw5]; exact f1
      rw [hw5]
      clear hw5 c1 f1 hcell A1 HG hz hzn
      go_wp2
      go_roundw
      case rel =>
        have b1 := A5.out.set (p / 8) (.int .u64 ((x * 256 + y.toNat : Nat) : Int))
        rw [lc_set, HSet.out] at b1
        exact ⟨p + 1, by omega, by go_num, b1, grownTrans HG5.out (grownSet _ _ _ _)⟩
      case measure => simp [intOf]; omega
    · obtain rfl : p = 128 := by omega
      rw [pw_all l Hl.out, full_start] at a1
      have ct : decide ((128 : Int) < 128) = false := rfl
      have A1 := Lib.hid a1
      have HG := Lib.hid hg
      clear a1 hg Ha1 hlt hp hzn hz HZ
      simp only [show ((128 : Nat) : Int) = 128 from rfl]
      go_wp2
      go_loopw [6] (fun i wr => ∃ k : Nat, 16 ≤ k ∧ k ≤ 80 ∧ i = .int .i64 (k : Int) ∧ Arr wr (w.heap.size + 1) 57 (lc (full l k)) ∧ W.grownBy wr (some (w.heap.size + 1))) (fun i _ => 80 - (intOf i).toNat)
      case atStart => exact ⟨16, by omega, by omega, rfl, A1.out, HG.out⟩
      case round =>
        clear A1 HG
        obtain ⟨k, hk1, hk2, rfl, a1, hg⟩ := hrel
        by_cases hlt : k < 80
        · have hfl := full_len l k hk1 hk2
          have c16 := a1.cell (k - 16)
          rw [lc_getD _ _ (by omega)] at c16
          have c7 := a1.cell (k - 7)
          rw [lc_getD _ _ (by omega)] at c7
          have c15 := a1.cell (k - 15)
          rw [lc_getD _ _ (by omega)] at c15
          have c2 := a1.cell (k - 2)
          rw [lc_getD _ _ (by omega)] at c2
          have fk := a1.frozen k
          have hst := full_set l k hk1 hlt
          have lx := full_lt l k (k - 15) hk1 (by omega)
          have ly := full_lt l k (k - 2) hk1 (by omega)
          have ck : ∃ u, wr.cell? ⟨w.heap.size + 1, k, none⟩ = some (.int .u64 (u : Int)) := ⟨_, by have := a1.cell k; rw [lc_getD _ _ (by omega)] at this; exact this⟩
          obtain ⟨u, hu⟩ := ck
          have A1 := Lib.hid a1
          have HSt := Lib.hid hst
          clear a1 hst hfl
          generalize (full l k).getD (k - 16) 0 = x16 at *
          generalize (full l k).getD (k - 7) 0 = x7 at *
          generalize (full l k).getD (k - 15) 0 = x at *
          generalize (full l k).getD (k - 2) 0 = y at *
          have e16 : IntKind.i64.wrap ((k : Int) - 16) = ((k - 16 : Nat) : Int) := by rw [IntWalk.i64_in _ (by omega)]; omega
          have e7 : IntKind.i64.wrap ((k : Int) - 7) = ((k - 7 : Nat) : Int) := by rw [IntWalk.i64_in _ (by omega)]; omega
          have e15 : IntKind.i64.wrap ((k : Int) - 15) = ((k - 15 : Nat) : Int) := by rw [IntWalk.i64_in _ (by omega)]; omega
          have e2 : IntKind.i64.wrap ((k : Int) - 2) = ((k - 2 : Nat) : Int) := by rw [IntWalk.i64_in _ (by omega)]; omega
          have ck80 : decide ((k : Int) < 80) = true := decide_eq_true (by omega)
          go_wp2
          go_quiet (fail)
          have C1 := Lib.hid (fun w => rotr_any 1 x 1 rfl (by decide) (by decide) lx w)
          have C8 := Lib.hid (fun w => rotr_any 8 x 8 rfl (by decide) (by decide) lx w)
          have C19 := Lib.hid (fun w => rotr_any 19 y 19 rfl (by decide) (by decide) ly w)
          have C61 := Lib.hid (fun w => rotr_any 61 y 61 rfl (by decide) (by decide) ly w)
          obtain ⟨r1, hr1, x1⟩ : ∃ r, r = rot 1 x ^^^ rot 8 x ∧ bits .xor .u64 (rot 1 x : Int) (rot 8 x : Int) = (r : Int) := ⟨_, rfl, Bits.xor_u64 _ _ (rot_lt 1 x (by decide) lx) (rot_lt 8 x (by decide) lx)⟩
          have lr1 : r1 < 18446744073709551616 := by rw [hr1]; exact xor_lt _ _ (rot_lt 1 x (by decide) lx) (rot_lt 8 x (by decide) lx)
          obtain ⟨s0, hs0, x2⟩ : ∃ r, r = ls0 x ∧ bits .xor .u64 (r1 : Int) ((x : Int) / 128) = (r : Int) := ⟨_, rfl, by
            have := Bits.xor_u64 r1 (x / 128) lr1 (Nat.lt_of_le_of_lt (Nat.div_le_self _ _) lx)
            rw [hr1] at this
            rw [Int.natCast_ediv] at this
            rw [hr1]
            exact this⟩
          obtain ⟨r2, hr2, x3⟩ : ∃ r, r = rot 19 y ^^^ rot 61 y ∧ bits .xor .u64 (rot 19 y : Int) (rot 61 y : Int) = (r : Int) := ⟨_, rfl, Bits.xor_u64 _ _ (rot_lt 19 y (by decide) ly) (rot_lt 61 y (by decide) ly)⟩
          have lr2 : r2 < 18446744073709551616 := by rw [hr2]; exact xor_lt _ _ (rot_lt 19 y (by decide) ly) (rot_lt 61 y (by decide) ly)
          obtain ⟨s1, hs1, x4⟩ : ∃ r, r = ls1 y ∧ bits .xor .u64 (r2 : Int) ((y : Int) / 64) = (r : Int) := ⟨_, rfl, by
            have := Bits.xor_u64 r2 (y / 64) lr2 (Nat.lt_of_le_of_lt (Nat.div_le_self _ _) ly)
            rw [hr2] at this
            rw [Int.natCast_ediv] at this
            rw [hr2]
            exact this⟩
          have HS0 := Lib.hid hs0
          have HS1 := Lib.hid hs1
          clear lr1 lr2 hr1 hr2 hs0 hs1 lx ly
          go_wp2_with fail
          refine (C1.out _).mono ?_
          rintro _ _ ⟨rfl, rfl⟩
          go_wp2_with fail
          refine (C8.out _).mono ?_
          rintro _ _ ⟨rfl, rfl⟩
          go_wp2_with fail
          refine (C19.out _).mono ?_
          rintro _ _ ⟨rfl, rfl⟩
          go_wp2_with fail
          refine (C61.out _).mono ?_
          rintro _ _ ⟨rfl, rfl⟩
          clear C1 C8 C19 C61
          obtain ⟨p1, hp1, y1⟩ : ∃ p1, p1 = (x16 + s0) % 18446744073709551616 ∧ IntKind.u64.wrap ((x16 : Int) + s0) = (p1 : Int) := ⟨_, rfl, wrap_add _ _⟩
          obtain ⟨p2, hp2, y2⟩ : ∃ p2, p2 = (p1 + x7) % 18446744073709551616 ∧ IntKind.u64.wrap ((p1 : Int) + (x7 : Int)) = (p2 : Int) := ⟨_, rfl, wrap_add _ _⟩
          obtain ⟨p3, hp3, y3⟩ : ∃ p3, p3 = nx x16 x7 x y ∧ IntKind.u64.wrap ((p2 : Int) + (s1 : Int)) = (p3 : Int) := ⟨_, rfl, by rw [wrap_add, hp2, hp1, HS0.out, HS1.out]; unfold nx; omega⟩
          have B1 := Lib.hid (fun n => by
            have b1 := (A1.out.drewN n).set k (.int .u64 (p3 : Int))
            rw [lc_set, hp3, HSt.out, ← hp3] at b1
            exact b1)
          have HG := Lib.hid hg
          clear hp1 hp2 hp3 HS0 HS1 hg A1 HSt
          have i16 : ((k - 16 : Nat) : Int) < 80 := by omega
          have i7 : ((k - 7 : Nat) : Int) < 80 := by omega
          have ik : (k : Int) < 80 := by omega
          go_upto_region 13 with (fail)
          refine Phase.wp_region_phases [([], [0, 1, 2, 3, 4, 5, 6, 7, 8, 9, 10, 11, 12, 13, 14], some 15)] (fun W => ∃ n, W = wr.drewN n) (by kernel_rfl) (by kernel_rfl) (fun _ _ d _ _ h => by cases d <;> exact h) ⟨nq + 1, rfl⟩ ?_
          refine Phase.g_alone rfl (Phase.p_nil ?_)
          repeat (refine Phase.q_step rfl (fun K hK => ?_); go_simp; refine hK _ ?_; clear hK K)
          refine Phase.q_nil ?_
          rintro _ ⟨n1, rfl⟩ K hK
          go_simp
          refine hK _ _ ⟨fun W => W = (wr.drewN n1).setCell ⟨w.heap.size + 1, k, none⟩ (.int .u64 (p3 : Int)), rfl, ?_⟩
          clear hK K c16 c7 c15 c2 hu fk y1 y2 y3 x1 x2 x3 x4
          refine Phase.g_nil ?_
          rintro _ rfl
          go_wp2
          go_roundw
          case rel => exact ⟨k + 1, by omega, by omega, by go_num, B1.out n1, grownTrans HG.out (grownTrans (grownDrewN wr n1 _) (grownSet _ _ _ _))⟩
          case measure => simp [intOf]; omega
        · obtain rfl : k = 80 := by omega
          rw [full_end] at a1
          have u64 : Tryd.prog.underlying 57 = some (.array 80 40) := by kernel_rfl
          have i64 : (Tryd.prog.info? 57).map (·.size) = some 80 := by kernel_rfl
          have U := Lib.hid u64
          have I := Lib.hid i64
          have A1 := Lib.hid a1
          have A0 := Lib.hid (arr_grown Ha0.out hg (by omega))
          have HG := Lib.hid hg
          have N1 : Hid ((lc (sched l)).length = 80) := Lib.hid (by rw [lc_length, sched, ext_length])
          have ct : decide ((80 : Int) < 80) = false := rfl
          clear u64 i64 a1 hg
          simp only [show ((80 : Nat) : Int) = 80 from rfl]
          go_wp2_with (first | (refine Arr.loadL A1.out rfl 57 (.tmp 3) rfl rfl U.out rfl I.out N1.out ?_) | (refine Arr.storeL A0.out rfl 57 (.tmp 2) (.tmp 73) rfl rfl (lc (sched l)) rfl I.out (by simp [lc]) N1.out (lc_one _) ?_))
          have AF := Lib.hid (A0.out.row (lc (sched l)))
          have HBF := Lib.hid (below_row (Hbw.out.trans (grownBelow HG.out (Nat.le_succ _) (by rw [Hs.out]; omega))) (Nat.le_refl _) (lc (sched l)).toArray)
          clear A1 A0 HG
          refine bodyPost_ret (v := .agg (lc (sched l)).toArray) (by exact AF.out.ret rfl _ rfl U.out rfl I.out N1.out) rfl ⟨rfl, HBF.out⟩
end Go.Proofs.YtmmmogccjopfeaaDoor.WideExtW
