/-
  hash.extend: what it hands back. Conditions: in the statement.
-/
import Derived.Test.YtnlhcogmccladaaDoorHashX
import Derived.Test.YtnlhcogmccladaaDoorHashRot
import Derived.Test.YtnlhcogmccladaaDoorKa
import Derived.Test.YtnlhcogmccladaaDoorKc
import Derived.Deep.DeepCutAuto
namespace Go.Proofs.YtnlhcogmccladaaDoor.HashExtW
open Go.RowKit BytesW CellsW WordsW ArrW HashM HashX HashTurnW HashRotW HashSched

theorem or_byte (x : Nat) (y : UInt8) (h : x < 16777216) : bits .or .u32 ((x : Int) * 256 % 4294967296) ((y.toNat : Int) % 4294967296) = ((x * 256 + y.toNat : Nat) : Int) := by
  have hy := y.toNat_lt
  have e : (x : Int) * 256 % 4294967296 = ((x * 256 : Nat) : Int) := by omega
  rw [e, show (y.toNat : Int) % 4294967296 = (y.toNat : Int) by omega, Bits.or_u32 _ _ (by omega) (by omega), ← Nat.mul_comm 256, ← Nat.two_pow_add_eq_or_of_lt (i := 8) (by omega)]

set_option maxHeartbeats 4000000 in
set_option maxRecDepth 100000 in
theorem extend_any (A : Option Addr) (l : List UInt8) (c : Nat) (w : World) (hA : Bs w w.heap.size A l) (hl : l.length = 64) :
    Calls Tryd.prog 58 #[.slice A l.length c] w fun e w' => e = .returned (.agg (wc (sched l)).toArray) ∧ Below w.heap.size w w' := by
  have HA := Lib.hid hA
  have Hl := Lib.hid hl
  have hl64 : l.length ≤ 64 := by omega
  clear hA hl
  go_enter Tryd.func58, Tryd.ntmps58
  go_upto_region 2 with (fail)
  generalize hW : World.alloc _ _ = W
  obtain ⟨H0, H1, hbw, hsz⟩ := start2 hW
  clear hW
  have a0 : Arr W w.heap.size 89 (wc (List.replicate 64 0)) := H0
  have a1 : Arr W (w.heap.size + 1) 89 (wc (List.replicate 64 0)) := H1
  rw [← pw_zero l] at a1
  have HA1 := Lib.hid (HA.out.below hbw)
  have Ha0 := Lib.hid a0
  have Ha1 := Lib.hid a1
  have Hs := Lib.hid hsz
  have Hbw := Lib.hid hbw
  clear a0 a1 H0 H1 hbw hsz HA
  go_wp2
  go_loopw [13] (fun i wr => ∃ p : Nat, p ≤ l.length ∧ i = .int .i64 (p : Int) ∧ Arr wr (w.heap.size + 1) 89 (wc (pw l p)) ∧ W.grownBy wr (some (w.heap.size + 1))) (fun i _ => l.length - (intOf i).toNat)
  case atStart => exact ⟨0, by omega, rfl, Ha1.out, grownRefl _ _⟩
  case round =>
    obtain ⟨p, hp, rfl, a1, hg⟩ := hrel
    by_cases hlt : p < l.length
    · obtain ⟨ad, had, hadb, hcell⟩ := (bs_grown HA1.out hg (by omega) (by rw [Hs.out]; omega)).at_ hlt
      subst had
      obtain ⟨hx, hx2⟩ := pw_get l p hlt Hl.out
      have hset := pw_set l p
      have hq : p / 4 < (pw l p).length := by rw [pw_len]; have := Hl.out; omega
      have c1 := a1.cell (p / 4)
      rw [wc_getD _ _ hq] at c1
      have f1 := a1.frozen (p / 4)
      rw [hx2] at hset
      have A1 := Lib.hid a1
      have HSet := Lib.hid hset
      clear a1 hset hx2 hq
      generalize (pw l p).getD (p / 4) 0 = x at *
      generalize l[p] = y at *
      have ho := or_byte x y hx
      clear hx
      go_wp2
      go_roundw
      case rel =>
        have b1 := A1.out.set (p / 4) (.int .u32 ((x * 256 + y.toNat : Nat) : Int))
        rw [wc_set, HSet.out] at b1
        exact ⟨p + 1, by omega, by go_num, b1, grownTrans hg (grownSet _ _ _ _)⟩
      case measure => simp [intOf]; omega
    · have e64 : p = 64 := by have := Hl.out; omega
      have h64 : l.length = 64 := Hl.out
      rw [e64, pw_all l Hl.out, full_start] at a1
      have ct : decide ((64 : Int) < (l.length : Int)) = false := by rw [h64]; rfl
      have A1 := Lib.hid a1
      have HG := Lib.hid hg
      subst e64
      clear a1 hg Ha1 hlt hp h64 hl64
      simp only [show ((64 : Nat) : Int) = 64 from rfl]
      go_wp2
      go_loopw [6] (fun i wr => ∃ k : Nat, 16 ≤ k ∧ k ≤ 64 ∧ i = .int .i64 (k : Int) ∧ Arr wr (w.heap.size + 1) 89 (wc (full l k)) ∧ W.grownBy wr (some (w.heap.size + 1))) (fun i _ => 64 - (intOf i).toNat)
      case atStart => exact ⟨16, by omega, by omega, rfl, A1.out, HG.out⟩
      case round =>
        clear A1 HG
        obtain ⟨k, hk1, hk2, rfl, a1, hg⟩ := hrel
        by_cases hlt : k < 64
        · have hfl := full_len l k hk1 hk2
          have c16 := a1.cell (k - 16)
          rw [wc_getD _ _ (by omega)] at c16
          have c7 := a1.cell (k - 7)
          rw [wc_getD _ _ (by omega)] at c7
          have c15 := a1.cell (k - 15)
          rw [wc_getD _ _ (by omega)] at c15
          have c2 := a1.cell (k - 2)
          rw [wc_getD _ _ (by omega)] at c2
          have fk := a1.frozen k
          have hst := full_set l k hk1 hlt
          have lx := full_lt l k (k - 15) hk1 (by omega)
          have ly := full_lt l k (k - 2) hk1 (by omega)
          have ck : ∃ u, wr.cell? ⟨w.heap.size + 1, k, none⟩ = some (.int .u32 (u : Int)) := ⟨_, by have := a1.cell k; rw [wc_getD _ _ (by omega)] at this; exact this⟩
          obtain ⟨u, hu⟩ := ck
          have A1 := Lib.hid a1
          have HSt := Lib.hid hst
          clear a1 hst hfl
          generalize (full l k).getD (k - 16) 0 = x16 at *
          generalize (full l k).getD (k - 7) 0 = x7 at *
          generalize (full l k).getD (k - 15) 0 = x at *
          generalize (full l k).getD (k - 2) 0 = y at *
          have e16 : IntKind.i64.wrap ((k : Int) - 16) = ((k - 16 : Nat) : Int) := by rw [IntWalk.i64_in _ (by omega)]; omega
          have e7 : IntKind.i64.wrap ((k : Int) - 7) = ((k - 7 : Nat) : Int) := by rw [IntWalk.i64_in _ (by omega)]; omega
          have e15 : IntKind.i64.wrap ((k : Int) - 15) = ((k - 15 : Nat) : Int) := by rw [IntWalk.i64_in _ (by omega)]; omega
          have e2 : IntKind.i64.wrap ((k : Int) - 2) = ((k - 2 : Nat) : Int) := by rw [IntWalk.i64_in _ (by omega)]; omega
          have ck64 : decide ((k : Int) < 64) = true := decide_eq_true (by omega)
          go_wp2
          go_quiet (fail)
          have C7 := Lib.hid (fun w => rotr_any 7 x 7 rfl (by decide) (by decide) lx w)
          have C18 := Lib.hid (fun w => rotr_any 18 x 18 rfl (by decide) (by decide) lx w)
          have C17 := Lib.hid (fun w => rotr_any 17 y 17 rfl (by decide) (by decide) ly w)
          have C19 := Lib.hid (fun w => rotr_any 19 y 19 rfl (by decide) (by decide) ly w)
          obtain ⟨r1, hr1, x1⟩ : ∃ r, r = rot 7 x ^^^ rot 18 x ∧ bits .xor .u32 (rot 7 x : Int) (rot 18 x : Int) = (r : Int) := ⟨_, rfl, Bits.xor_u32 _ _ (rot_lt 7 x (by decide) lx) (rot_lt 18 x (by decide) lx)⟩
          have lr1 : r1 < 4294967296 := by rw [hr1]; exact xor_small _ _ (rot_lt 7 x (by decide) lx) (rot_lt 18 x (by decide) lx)
          obtain ⟨s0, hs0, x2⟩ : ∃ r, r = ls0 x ∧ bits .xor .u32 (r1 : Int) ((x : Int) / 8) = (r : Int) := ⟨_, rfl, by
            have := Bits.xor_u32 r1 (x / 8) lr1 (Nat.lt_of_le_of_lt (Nat.div_le_self _ _) lx)
            rw [hr1] at this
            rw [Int.natCast_ediv] at this
            rw [hr1]
            exact this⟩
          obtain ⟨r2, hr2, x3⟩ : ∃ r, r = rot 17 y ^^^ rot 19 y ∧ bits .xor .u32 (rot 17 y : Int) (rot 19 y : Int) = (r : Int) := ⟨_, rfl, Bits.xor_u32 _ _ (rot_lt 17 y (by decide) ly) (rot_lt 19 y (by decide) ly)⟩
          have lr2 : r2 < 4294967296 := by rw [hr2]; exact xor_small _ _ (rot_lt 17 y (by decide) ly) (rot_lt 19 y (by decide) ly)
          obtain ⟨s1, hs1, x4⟩ : ∃ r, r = ls1 y ∧ bits .xor .u32 (r2 : Int) ((y : Int) / 1024) = (r : Int) := ⟨_, rfl, by
            have := Bits.xor_u32 r2 (y / 1024) lr2 (Nat.lt_of_le_of_lt (Nat.div_le_self _ _) ly)
            rw [hr2] at this
            rw [Int.natCast_ediv] at this
            rw [hr2]
            exact this⟩
          have HS0 := Lib.hid hs0
          have HS1 := Lib.hid hs1
          clear lr1 lr2 hr1 hr2 hs0 hs1 lx ly
          go_wp2_with fail
          refine (C7.out _).mono ?_
          rintro _ _ ⟨rfl, rfl⟩
          go_wp2_with fail
          refine (C18.out _).mono ?_
          rintro _ _ ⟨rfl, rfl⟩
          go_wp2_with fail
          refine (C17.out _).mono ?_
          rintro _ _ ⟨rfl, rfl⟩
          go_wp2_with fail
          refine (C19.out _).mono ?_
          rintro _ _ ⟨rfl, rfl⟩
          clear C7 C18 C17 C19
          obtain ⟨p1, hp1, y1⟩ : ∃ p1, p1 = (x16 + s0) % 4294967296 ∧ IntKind.u32.wrap ((x16 : Int) + s0) = (p1 : Int) := ⟨_, rfl, wrapn_add _ _⟩
          obtain ⟨p2, hp2, y2⟩ : ∃ p2, p2 = (p1 + x7) % 4294967296 ∧ IntKind.u32.wrap ((p1 : Int) + (x7 : Int)) = (p2 : Int) := ⟨_, rfl, wrapn_add _ _⟩
          obtain ⟨p3, hp3, y3⟩ : ∃ p3, p3 = nx x16 x7 x y ∧ IntKind.u32.wrap ((p2 : Int) + (s1 : Int)) = (p3 : Int) := ⟨_, rfl, by rw [wrapn_add, hp2, hp1, HS0.out, HS1.out]; unfold nx; omega⟩
          have B1 := Lib.hid (fun n => by
            have b1 := (A1.out.drewN n).set k (.int .u32 (p3 : Int))
            rw [wc_set, hp3, HSt.out, ← hp3] at b1
            exact b1)
          have HG := Lib.hid hg
          clear hp1 hp2 hp3 HS0 HS1 hg A1 HSt
          have i16 : ((k - 16 : Nat) : Int) < 64 := by omega
          have i7 : ((k - 7 : Nat) : Int) < 64 := by omega
          have ik : (k : Int) < 64 := by omega
          go_upto_region 13 with (fail)
          refine Phase.wp_region_phases [([], [0, 1, 2, 3, 4, 5, 6, 7, 8, 9, 10, 11, 12, 13, 14], some 15)] (fun W => ∃ n, W = wr.drewN n) (by kernel_rfl) (by kernel_rfl) (fun _ _ d _ _ h => by cases d <;> exact h) ⟨nq + 1, rfl⟩ ?_
          refine Phase.g_alone rfl (Phase.p_nil ?_)
          repeat (refine Phase.q_step rfl (fun K hK => ?_); go_simp; refine hK _ ?_; clear hK K)
          refine Phase.q_nil ?_
          rintro _ ⟨n1, rfl⟩ K hK
          go_simp
          refine hK _ _ ⟨fun W => W = (wr.drewN n1).setCell ⟨w.heap.size + 1, k, none⟩ (.int .u32 (p3 : Int)), rfl, ?_⟩
          clear hK K c16 c7 c15 c2 hu fk y1 y2 y3 x1 x2 x3 x4
          refine Phase.g_nil ?_
          rintro _ rfl
          go_wp2
          go_roundw
          case rel => exact ⟨k + 1, by omega, by omega, by go_num, B1.out n1, grownTrans HG.out (grownTrans (grownDrewN wr n1 _) (grownSet _ _ _ _))⟩
          case measure => simp [intOf]; omega
        · obtain rfl : k = 64 := by omega
          rw [full_end] at a1
          have u64 : Tryd.prog.underlying 89 = some (.array 64 58) := by kernel_rfl
          have i64 : (Tryd.prog.info? 89).map (·.size) = some 64 := by kernel_rfl
          have U := Lib.hid u64
          have I := Lib.hid i64
          have A1 := Lib.hid a1
          have A0 := Lib.hid (arr_grown Ha0.out hg (by omega))
          have HG := Lib.hid hg
          have N1 : Hid ((wc (sched l)).length = 64) := Lib.hid (by rw [wc_length, sched, ext_length])
          have ct : decide ((64 : Int) < 64) = false := rfl
          clear u64 i64 a1 hg
          simp only [show ((64 : Nat) : Int) = 64 from rfl]
          go_wp2_with (first | (refine Arr.loadL A1.out rfl 89 (.tmp 3) rfl rfl U.out rfl I.out N1.out ?_) | (refine Arr.storeL A0.out rfl 89 (.tmp 2) (.tmp 73) rfl rfl (wc (sched l)) rfl I.out (by simp [wc]) N1.out (wc_one _) ?_))
          have AF := Lib.hid (A0.out.row (wc (sched l)))
          have HBF := Lib.hid (below_row (Hbw.out.trans (grownBelow HG.out (Nat.le_succ _) (by rw [Hs.out]; omega))) (Nat.le_refl _) (wc (sched l)).toArray)
          clear A1 A0 HG
          refine bodyPost_ret (v := .agg (wc (sched l)).toArray) (by exact AF.out.ret rfl _ rfl U.out rfl I.out N1.out) rfl ⟨rfl, HBF.out⟩
end Go.Proofs.YtnlhcogmccladaaDoor.HashExtW
