/-
  ticketwardref.DMore: what it hands back; DBlock and DEnd at a state of eight words. Conditions: in each statement.
-/
import Derived.Test.YtfbgiobbkdbboaaDoorHashOnL
import Derived.Test.YtfbgiobbkdbboaaDoorHashRef
namespace Go.Proofs.YtfbgiobbkdbboaaDoor.HashDMoreW
open Go.RowKit BytesW CellsW WordsW ArrW HashM HashX HashMath HashCompW HashFinW HashRightW HashSumW HashSameW HashMoreW HashUseW HashBlockW HashProcW

theorem dblock_as (S : List Nat) (hS : Sm S) (A : Option Addr) (l : List UInt8) (c : Nat) (w : World) (hA : Bs w w.heap.size A l) (hl : l.length = 64) (hc : 64 ≤ c) (hT : TabK w) :
    Calls Tryd.prog 24 #[.agg (wc S).toArray, .slice A 64 c] w fun e w' => e = .returned (.agg (wc (block S l)).toArray) ∧ Below w.heap.size w w' := by
  obtain ⟨a, b, c0, d, e, f, g, i, rfl⟩ := eight8 hS.1
  have h := block_any a b c0 d e f g i A l c w hA hl (by omega) hT (HashEndW.small_of _ _ _ _ _ _ _ _ hS.2)
  rw [hl] at h
  exact h
theorem dend_as (S : List Nat) (hS : Sm S) (A : Option Addr) (l : List UInt8) (c long : Nat) (w : World) (hA : Bs w w.heap.size A l) (hT : TabK w) (hl : l.length ≤ 140737488351232) (hlong : long < 9223372036854775808) :
    Calls Tryd.prog 17 #[.agg (wc S).toArray, .slice A l.length c, .int .i64 (long : Int)] w fun e w' => e = .returned (.agg (Lib.byteCells (hend S l long)).toArray) ∧ Below w.heap.size w w' := by
  obtain ⟨a, b, c0, d, e, f, g, i, rfl⟩ := eight8 hS.1
  exact HashEndW.dend_any a b c0 d e f g i A l c long w hA hT (HashEndW.small_of _ _ _ _ _ _ _ _ hS.2) hl hlong
theorem build_two (S : List Nat) (long : Int) (h : S.length = 8) (w : World) : (Instr.build 27 #[(0, .agg (wc S).toArray), (1, .int .i64 long)]).run Tryd.prog w = .ok (.agg (hc S long (.slice none 0 0)).toArray) w := by
  obtain ⟨a, b, c, d, e, f, g, i, rfl⟩ := eight8 h
  kernel_rfl
theorem hc_set9 (S : List Nat) (long : Int) (u v : Value) (h : S.length = 8) : (hc S long u).set 9 v = hc S long v := by
  obtain ⟨a, b, c, d, e, f, g, i, rfl⟩ := eight8 h
  rfl
theorem not_ok {long : Int} {n : Nat} (h : ¬ (0 ≤ long ∧ long ≤ 1099511627776 ∧ (n : Int) = long % 64)) : okH long n = false := decide_eq_false h

set_option maxHeartbeats 8000000 in
set_option maxRecDepth 100000 in
theorem dmore_any (S : List Nat) (hS : Sm S) (long : Int) (A : Option Addr) (r : List UInt8) (c : Nat) (B : Option Addr) (b : List UInt8) (d : Nat) (w : World)
    (hA : Bs w w.heap.size A r) (hB : Bs w w.heap.size B b) (hb0 : b.length ≤ 140737488351232) (h1 : -9223372036854775808 ≤ long) (h2 : long < 9223372036854775808) (hT : TabK w) :
    Calls Tryd.prog 14 #[.agg (hc S long (.slice A r.length c)).toArray, .slice B b.length d] w fun e w' => MorePost (moreM S long r b) w e w' := by
  have HR := Lib.hid hT
  have ht0 : 1 < w.heap.size := World.block_lt_of_cell? _ _ (hT 0 (by decide))
  have HA := Lib.hid hA
  have HBb := Lib.hid hB
  obtain ⟨fs, u27⟩ := hash_struct
  have U27 := Lib.hid u27
  have N10 := Lib.hid (hc_len S long (.slice A r.length c) hS.1)
  clear hT hA hB u27
  go_enter Tryd.func14, Tryd.ntmps14
  go_upto_region 1 with (fail)
  generalize hW : World.alloc _ _ = W
  obtain ⟨H0, H1, hbw, hsz⟩ := start2 hW
  clear hW
  have a0 : Arr W w.heap.size 27 (hc S long (.slice A r.length c)) := H0
  have a1 : Arr W (w.heap.size + 1) 27 (hc (List.replicate 8 0) 0 (.slice none 0 0)) := H1
  have A0 := Lib.hid a0
  have A1 := Lib.hid a1
  have X0 := Lib.hid hbw
  have c8 := a0.cell 8
  rw [hc_8 S long _ hS.1] at c8
  have c9 := a0.cell 9
  rw [hc_9 S long _ hS.1] at c9
  have NZ := Lib.hid (show (hc (List.replicate 8 0) 0 (.slice none 0 0)).length = 10 from rfl)
  have OZ := Lib.hid (hc_one (List.replicate 8 0) 0 none 0 0)
  have HBz := Lib.hid (HashOnL.build_zero W)
  have HSZ := Lib.hid hsz
  clear a0 a1 H0 H1 hbw hsz
  by_cases p1 : long < 0
  · have q1 : decide (long < 0) = true := decide_eq_true p1
    have HNok := Lib.hid (not_ok (n := r.length) (long := long) (fun h => by omega))
    clear p1
    have HE := Lib.hid (show moreM S long r b = (List.replicate 8 0, 0, [], 1) by unfold moreM; rw [if_neg (by rw [HNok.out]; simp)])
    have AF := Lib.hid (A1.out.row (hc (List.replicate 8 0) 0 (.slice none 0 0)))
    have HBF := Lib.hid (below_row X0.out (show w.heap.size ≤ w.heap.size + 1 by omega) (hc (List.replicate 8 0) 0 (.slice none 0 0)).toArray)
    clear HNok
    go_wp2_with (first | (refine buildL rfl rfl rfl HBz.out ?_) | (refine Arr.storeL A1.out rfl 27 (.tmp 4) (.tmp 25) rfl rfl (hc (List.replicate 8 0) 0 (.slice none 0 0)) rfl hash_size NZ.out NZ.out OZ.out ?_))
    refine bodyPost_ret (v := .tuple #[.agg (hc (List.replicate 8 0) 0 (.slice none 0 0)).toArray, .int .i64 1]) (by exact AF.out.ret2 rfl _ rfl rfl U27.out rfl hash_size NZ.out) rfl ?_
    rw [HE.out]
    exact ⟨none, 0, rfl, Nat.le_refl _, Bs.nil _ _ _, HBF.out⟩
  · have q1 : decide (long < 0) = false := decide_eq_false p1
    obtain ⟨L, rfl⟩ : ∃ L : Nat, long = (L : Int) := ⟨long.toNat, by omega⟩
    by_cases p2 : (L : Int) > 1099511627776
    · have q2 : decide ((L : Int) > 1099511627776) = true := decide_eq_true p2
      have HNok := Lib.hid (not_ok (n := r.length) (long := (L : Int)) (fun h => by omega))
      clear p1 p2
      have HE := Lib.hid (show moreM S (L : Int) r b = (List.replicate 8 0, 0, [], 1) by unfold moreM; rw [if_neg (by rw [HNok.out]; simp)])
      have AF := Lib.hid (A1.out.row (hc (List.replicate 8 0) 0 (.slice none 0 0)))
      have HBF := Lib.hid (below_row X0.out (show w.heap.size ≤ w.heap.size + 1 by omega) (hc (List.replicate 8 0) 0 (.slice none 0 0)).toArray)
      clear HNok
      go_wp2_with (first | (refine buildL rfl rfl rfl HBz.out ?_) | (refine Arr.storeL A1.out rfl 27 (.tmp 4) (.tmp 25) rfl rfl (hc (List.replicate 8 0) 0 (.slice none 0 0)) rfl hash_size NZ.out NZ.out OZ.out ?_))
      refine bodyPost_ret (v := .tuple #[.agg (hc (List.replicate 8 0) 0 (.slice none 0 0)).toArray, .int .i64 1]) (by exact AF.out.ret2 rfl _ rfl rfl U27.out rfl hash_size NZ.out) rfl ?_
      rw [HE.out]
      exact ⟨none, 0, rfl, Nat.le_refl _, Bs.nil _ _ _, HBF.out⟩
    · have q2 : decide ((L : Int) > 1099511627776) = false := decide_eq_false p2
      have hL : L ≤ 1099511627776 := by omega
      by_cases p3 : (r.length : Int) = (L : Int) % 64
      · have q3 : ((r.length : Int) != (L : Int) % 64) = false := bne_eq_false_iff_eq.2 p3
        have hok : okH (L : Int) r.length = true := decide_eq_true ⟨by omega, by omega, p3⟩
        have HrL := Lib.hid (show r.length = L % 64 by omega)
        have hr64 : r.length < 64 := by omega
        clear p1 p2 p3
        by_cases hbig : 1099511627776 - (L : Int) < (b.length : Int)
        · have HE := Lib.hid (show moreM S (L : Int) r b = (List.replicate 8 0, 0, [], 4) by unfold moreM; rw [if_pos hok, if_pos hbig])
          have ct : decide ((L : Int) + (b.length : Int) > 1099511627776) = true := decide_eq_true (by omega)
          have AF := Lib.hid (A1.out.row (hc (List.replicate 8 0) 0 (.slice none 0 0)))
          have HBF := Lib.hid (below_row X0.out (show w.heap.size ≤ w.heap.size + 1 by omega) (hc (List.replicate 8 0) 0 (.slice none 0 0)).toArray)
          clear hok hbig
          go_wp2_with (first | (refine buildL rfl rfl rfl HBz.out ?_) | (refine Arr.storeL A1.out rfl 27 (.tmp 4) (.tmp 32) rfl rfl (hc (List.replicate 8 0) 0 (.slice none 0 0)) rfl hash_size NZ.out NZ.out OZ.out ?_))
          refine bodyPost_ret (v := .tuple #[.agg (hc (List.replicate 8 0) 0 (.slice none 0 0)).toArray, .int .i64 4]) (by exact AF.out.ret2 rfl _ rfl rfl U27.out rfl hash_size NZ.out) rfl ?_
          rw [HE.out]
          exact ⟨none, 0, rfl, Nat.le_refl _, Bs.nil _ _ _, HBF.out⟩
        · have HE := Lib.hid (show moreM S (L : Int) r b = (run S (r ++ b), (L : Int) + b.length, over (r ++ b), 0) by unfold moreM; rw [if_pos hok, if_neg hbig])
          have ct : decide ((L : Int) + (b.length : Int) > 1099511627776) = false := decide_eq_false (by omega)
          have hbl : b.length ≤ 1099511627776 := by omega
          have AP : Hid (Arr W w.heap.size 27 (wc S ++ [.int .i64 (L : Int), .slice A r.length c])) := Lib.hid A0.out
          have N8 := Lib.hid (show (wc S).length = 8 by rw [wc_length]; exact hS.1)
          have HBd := Lib.hid (build_two S ((L : Int) + (b.length : Int)) hS.1 W)
          have N6 := Lib.hid (hc_len S ((L : Int) + (b.length : Int)) (.slice none 0 0) hS.1)
          clear hok hbig
          go_upto_region 5 with (fail)
          go_upto_region 6 with (refine Arr.loadPartL AP.out rfl 25 (.tmp 33) rfl rfl arr8 rfl arr8_size N8.out ?_; go_upto_region 6 with (refine buildL rfl rfl rfl HBd.out ?_; go_upto_region 6 with (refine Arr.storeL (Arr.new W _ _) rfl 27 (.tmp 6) (.tmp 40) rfl rfl (hc S ((L : Int) + (b.length : Int)) (.slice none 0 0)) rfl hash_size (by rfl) N6.out (hc_one _ _ _ _ _) ?_)))
          generalize hw3 : World.setRow _ _ _ = w3
          obtain ⟨p6, b3, z3⟩ := filled hw3
          have X3 := Lib.hid (X0.out.trans (b3.mono X0.out.size))
          have P6 := Lib.hid p6
          have A03 := Lib.hid (A0.out.below b3 A0.out.lt)
          have A13 := Lib.hid (A1.out.below b3 A1.out.lt)
          obtain ⟨g6, hg6⟩ : ∃ g, W.heap.size = g := ⟨_, rfl⟩
          rw [hg6] at P6 z3 ⊢
          have hgw : w.heap.size + 2 ≤ g6 := by have := HSZ.out; omega
          clear c8 c9
          have c9 := (A03.out.alloc (.cells #[] 5)).cell 9
          rw [hc_9 S _ _ hS.1] at c9
          have hr0 := Row.empty w3.heap.size w3 (Nat.le_refl _)
          have bE := (Below.refl w3.heap.size w3).alloc (Nat.le_refl _) (.cells #[] 5)
          have HA3 := Lib.hid (((HA.out.below X3.out).more X3.out.size).below bE)
          have HB3 := Lib.hid (((HBb.out.below X3.out).more X3.out.size).below bE)
          have Z3 := Lib.hid z3
          have BE := Lib.hid bE
          clear b3 hw3 p6 z3 hg6 bE
          go_wp2_with (at_builtin; go_must (refine appN rfl (.tmp 41) (.tmp 43) rfl w3.heap.size w3.heap.size _ [] rfl hr0 A r c rfl HA3.out (by simp; omega) (by simp) ?_))
          intro v1 w4 hr1 hb4
          have BF := Lib.hid (BE.out.trans hb4)
          have HB4 := Lib.hid (HB3.out.below hb4)
          clear hr0 HA3 hb4 c9
          go_wp2_with (at_builtin; go_must (refine appN rfl (.tmp 44) (.tmp 45) rfl w3.heap.size w3.heap.size _ r rfl hr1 B b d rfl HB4.out (by omega) BF.out.size ?_))
          intro v2 w5 hr2 hb5
          have BG := Lib.hid (BF.out.trans hb5)
          obtain ⟨A7, c7, rfl, s7, hc7⟩ := hr2.form2
          have NE := Lib.hid (fun ad (e : A7 = some ad) => (row_blk hr2 ad e).1)
          obtain ⟨y, hy⟩ : ∃ y, r ++ b = y := ⟨_, rfl⟩
          rw [hy] at s7 hc7 ⊢
          have hyl : y.length < 2000000000000 := by rw [← hy, List.length_append]; omega
          have HY := Lib.hid hy
          have S7 := Lib.hid s7
          have X5 := Lib.hid (X3.out.trans (BG.out.mono X3.out.size))
          have P65 := Lib.hid (P6.out.below BG.out P6.out.lt)
          have A15 := Lib.hid (A13.out.below BG.out A13.out.lt)
          have HK5 := Lib.hid (HR.out.below X5.out)
          obtain ⟨n, hn⟩ : ∃ n : Int, (L : Int) + (b.length : Int) = n := ⟨_, rfl⟩
          rw [hn] at N6 HBd P6 P65 ⊢
          have HN := Lib.hid hn
          clear hr1 hr2 hb5 hy s7 hn HBd
          go_wp2
          go_loopw [7] (fun v wr => ∃ (i : Nat) (A1 : Option Addr) (c1 : Nat) (S1 : List Nat) (m : List UInt8), m = y.drop (64 * i) ∧ 64 * i ≤ y.length ∧ v = .slice A1 m.length c1 ∧ m.length ≤ c1 ∧ Bs w5 w5.heap.size A1 m ∧ Kin A7 A1 ∧ Arr wr g6 27 (hc S1 n (.slice none 0 0)) ∧ Sm S1 ∧ run S1 m = run S y ∧ w5.grownBy wr (some g6)) (fun v _ => HashEndW.sliceLen v)
          case atStart => exact ⟨0, A7, c7, S, y, by rw [Nat.mul_zero, List.drop_zero], by omega, rfl, hc7, S7.out, Kin.refl A7, P65.out, hS, rfl, grownRefl _ _⟩
          case round =>
            obtain ⟨i, A1, c1, S1, m, hm, hi, rfl, hc1, hb1, hkin, a6, hS1, hrun, hg⟩ := hrel
            have HK := Lib.hid hkin
            have hml : m.length = y.length - 64 * i := by rw [hm, List.length_drop]
            have HNE := Lib.hid (fun ad (e : A1 = some ad) => show ad.block ≠ g6 by
              obtain ⟨ad0, e0, hb0⟩ := hkin ad e
              have := NE.out ad0 e0
              rw [hb0]
              have := Z3.out
              omega)
            clear hkin
            by_cases hlt : 64 ≤ m.length
            · have ct : decide ((m.length : Int) > 63) = true := decide_eq_true (by omega)
              have HRun := Lib.hid hrun
              have HSm1 := Lib.hid hS1
              have HM := Lib.hid hm
              have HML := Lib.hid hml
              have N1 : Hid ((wc S1).length = 8) := Lib.hid (by rw [wc_length]; exact hS1.1)
              have h64 : (m.take 64).length = 64 := by rw [List.length_take]; omega
              have hTk : TabK wr := HashEndW.tab_grown HK5.out hg (by omega)
              have HC := Lib.hid (dblock_as S1 hS1 A1 (m.take 64) c1 wr.drew (((bs_keep hb1 hg HNE.out).take 64).drew) h64 (by omega) hTk)
              have HB1 := Lib.hid (hb1.cut 64 c1 hc1)
              have HNx := Lib.hid (run_next S1 m hlt)
              have A6r : Hid (Arr wr g6 27 (wc S1 ++ [.int .i64 n, .slice none 0 0])) := Lib.hid a6
              have A6 := Lib.hid (show Arr wr.drew g6 27 (wc S1 ++ [.int .i64 n, .slice none 0 0]) from a6.drew)
              have HG := Lib.hid (grownTrans hg (grownDrew wr _))
              have hml2 : (m.drop 64).length = m.length - 64 := List.length_drop
              have HML2 := Lib.hid hml2
              have HBl := Lib.hid (sm_block S1 (m.take 64) hS1.1)
              have N2 : Hid ((wc (block S1 (m.take 64))).length = 8) := Lib.hid (by rw [wc_length]; exact HBl.out.1)
              clear hS1 hm hml hb1 a6 h64 hg hml2 hrun hTk
              go_upto_region 8 with (fail)
              refine Phase.wp_region_phases [([], [0, 1, 2, 3], some 4), ([5], [], some 6)] (fun W => W = wr.drew) (by kernel_rfl) (by kernel_rfl) (fun _ _ d _ _ h => by cases d <;> exact h) rfl ?_
              refine Phase.g_alone rfl (Phase.p_nil ?_)
              refine Phase.q_step rfl (fun K hK => ?_)
              go_simp
              refine hK _ ?_
              clear hK K
              refine Phase.q_step rfl (fun K hK => want rfl ?_)
              refine Arr.loadPartQ (fun W (h : W = wr.drew) => by subst h; exact A6.out) 25 (.tmp 50) rfl rfl arr8 rfl arr8_size N1.out ?_
              refine hK _ ?_
              clear hK K
              refine Phase.q_step rfl (fun K hK => ?_)
              go_simp
              refine hK _ ?_
              clear hK K
              refine Phase.q_step rfl (fun K hK => ?_)
              go_simp
              rw [if_pos (show (64 : Int) ≤ (c1 : Int) by omega)]
              refine ⟨_, ⟨rfl, rfl⟩, hK _ ?_⟩
              clear hK K
              refine Phase.q_nil ?_
              rintro _ rfl K hK
              go_simp
              refine HC.out.mono ?_
              clear HC
              rintro e w9 ⟨rfl, hb9⟩
              refine hK _ _ ⟨fun W => W = w9, rfl, ?_⟩
              clear hK K
              have A9 := Lib.hid (A6.out.below hb9 A6.out.lt)
              have HG9 := Lib.hid (grownTrans HG.out (grownTrans (grownOf hb9) (grown_row w9 g6 (hc (block S1 (m.take 64)) n (.slice none 0 0)).toArray)))
              clear hb9 A6
              refine Phase.g_alone rfl ?_
              refine Phase.p_step rfl (fun K hK => ?_)
              go_simp
              refine hK _ ?_
              clear hK K
              refine Phase.p_nil (Phase.q_nil ?_)
              intro wz hz K hK
              rw [show wz = w9 from hz]
              refine want rfl ?_
              refine Arr.storePartO A9.out 25 (.tmp 55) (.tmp 54) rfl rfl (wc (block S1 (m.take 64))) rfl arr8_size N1.out N2.out (wc_one _) ?_
              have A10 := Lib.hid (A9.out.row (hc (block S1 (m.take 64)) n (.slice none 0 0)))
              obtain ⟨wx, hwx⟩ : ∃ x, w9.setRow g6 (hc (block S1 (m.take 64)) n (.slice none 0 0)).toArray = x := ⟨_, rfl⟩
              rw [hwx] at A10 HG9
              refine hK _ _ ⟨fun W => W = wx, hwx, ?_⟩
              clear hK K hwx A9 HG
              refine Phase.g_nil ?_
              intro wz hz
              rw [show wz = wx from hz]
              clear hz
              go_wp2
              go_roundw
              case rel => exact ⟨i + 1, _, c1 - 64, _, m.drop 64, by rw [HM.out, List.drop_drop, Nat.mul_succ], by have := HML.out; omega, by rw [HML2.out]; rfl, by rw [HML2.out]; omega, HB1.out, HK.out.cut 64 c1, A10.out, HBl.out, by rw [← HNx.out]; exact HRun.out, HG9.out⟩
              case measure => simp [HashEndW.sliceLen]; omega
            · have ct : decide ((m.length : Int) > 63) = false := decide_eq_false (by omega)
              have hS' : S1 = run S y := by rw [← hrun, run_stop _ _ (by omega)]
              have hov : m = over y := by rw [hm, over]; congr 1; omega
              have HS' := Lib.hid hS'
              have HOv := Lib.hid hov
              have N1 := Lib.hid (hc_len S1 n (.slice A1 m.length c1) hS1.1)
              have A1r := Lib.hid (arr_grown A15.out hg (by omega))
              have HB1 := Lib.hid (bs_keep hb1 hg HNE.out)
              have hgz := X5.out.trans (grownBelow hg (show w.heap.size ≤ g6 by omega) X5.out.size)
              have f9 := a6.frozen 9
              have e9 := a6.cell 9
              rw [hc_9 S1 _ _ hS1.1] at e9
              have a6' := a6.set 9 (.slice A1 m.length c1)
              rw [hc_set9 S1 _ _ _ hS1.1] at a6'
              have hgx := grownSet wr g6 9 (.slice A1 m.length c1)
              have HB2 := Lib.hid (bs_keep HB1.out hgx HNE.out)
              have A12 := Lib.hid (arr_grown A1r.out hgx (by omega))
              have HGX := Lib.hid (hgz.trans (grownBelow hgx (show w.heap.size ≤ g6 by omega) hgz.size))
              have A62 := Lib.hid a6'
              clear hb1 hg hrun hm hml a6 hS' hov hgz a6' hgx
              go_upto_region 11 with (fail)
              clear f9 e9
              generalize hwx : World.setCell _ _ _ = wx
              rw [hwx] at HB2 A12 HGX A62
              have AF := Lib.hid (A12.out.row (hc S1 n (.slice A1 m.length c1)))
              have HBF := Lib.hid (below_row HGX.out (show w.heap.size ≤ w.heap.size + 1 by omega) (hc S1 n (.slice A1 m.length c1)).toArray)
              have HBB := Lib.hid (bs_keep HB2.out (grown_row wx (w.heap.size + 1) (hc S1 n (.slice A1 m.length c1)).toArray) (fun ad e => by
                obtain ⟨ad0, e0, hb0⟩ := HK.out ad e
                have := NE.out ad0 e0
                have := Z3.out
                rw [hb0]
                omega))
              go_wp2_with (first | (refine Arr.loadL A62.out rfl 27 (.tmp 6) rfl rfl U27.out rfl hash_size N1.out ?_) | (refine Arr.storeL A12.out rfl 27 (.tmp 4) (.tmp 60) rfl rfl (hc S1 n (.slice A1 m.length c1)) rfl hash_size NZ.out N1.out (hc_one _ _ _ _ _) ?_))
              refine bodyPost_ret (v := .tuple #[.agg (hc S1 n (.slice A1 m.length c1)).toArray, .int .i64 0]) (by exact AF.out.ret2 rfl _ rfl rfl U27.out rfl hash_size N1.out) rfl ?_
              rw [HE.out, HY.out, HN.out, ← HS'.out, ← HOv.out]
              exact ⟨A1, c1, rfl, hc1, HBB.out, HBF.out⟩
      · have q3 : ((r.length : Int) != (L : Int) % 64) = true := by rw [bne_iff_ne]; exact p3
        have HNok := Lib.hid (not_ok (n := r.length) (long := (L : Int)) (fun h => p3 h.2.2))
        clear p1 p2 p3
        have HE := Lib.hid (show moreM S (L : Int) r b = (List.replicate 8 0, 0, [], 1) by unfold moreM; rw [if_neg (by rw [HNok.out]; simp)])
        have AF := Lib.hid (A1.out.row (hc (List.replicate 8 0) 0 (.slice none 0 0)))
        have HBF := Lib.hid (below_row X0.out (show w.heap.size ≤ w.heap.size + 1 by omega) (hc (List.replicate 8 0) 0 (.slice none 0 0)).toArray)
        clear HNok
        go_wp2_with (first | (refine buildL rfl rfl rfl HBz.out ?_) | (refine Arr.storeL A1.out rfl 27 (.tmp 4) (.tmp 25) rfl rfl (hc (List.replicate 8 0) 0 (.slice none 0 0)) rfl hash_size NZ.out NZ.out OZ.out ?_))
        refine bodyPost_ret (v := .tuple #[.agg (hc (List.replicate 8 0) 0 (.slice none 0 0)).toArray, .int .i64 1]) (by exact AF.out.ret2 rfl _ rfl rfl U27.out rfl hash_size NZ.out) rfl ?_
        rw [HE.out]
        exact ⟨none, 0, rfl, Nat.le_refl _, Bs.nil _ _ _, HBF.out⟩
end Go.Proofs.YtfbgiobbkdbboaaDoor.HashDMoreW
