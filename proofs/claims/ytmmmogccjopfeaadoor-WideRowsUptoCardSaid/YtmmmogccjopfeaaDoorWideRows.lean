/-
  wide.Rows and wide.Sum: what they hand back. Conditions: in each statement.
-/
import Derived.Test.YtmmmogccjopfeaaDoorWideEndF
import Derived.Test.YtmmmogccjopfeaaDoorRowsW
import Derived.Test.YtmmmogccjopfeaaDoorSConcat
namespace Go.Proofs.YtmmmogccjopfeaaDoor.WideRowsW
open Go.RowKit BytesW CellsW LongsW ArrW ArrG ArrL WideM WideX WideTurnW WideMore WideEndW WideCompW WideOctW WideAddW WideEndFW RowsW SConcatW

theorem total (ls : List (List UInt8)) (k : Nat) (h : k < ls.length) : (ls.take (k + 1)).flatten = (ls.take k).flatten ++ ls[k] ∧ (ls.take k).flatten.length + ls[k].length ≤ tot ls := by
  refine ⟨by rw [List.take_succ_eq_append_getElem h, List.flatten_append]; simp, ?_⟩
  rw [tot_flatten]
  exact (tot_take ls k h).2
theorem off_new {w : World} {g : Nat} {A : Option Addr} {l : List UInt8} (h : Bs w w.heap.size A l) (hg : w.heap.size ≤ g) : Off g A l := by
  intro h0 ad e
  obtain ⟨ad', e', hlt, _⟩ := h h0
  rw [e] at e'
  cases e'
  omega
/-- The message when its first rows have come. -/
def RelR (gm : Nat) (pre : List UInt8) (W wr : World) : Prop := ∃ R : List UInt8, R.length = 128 ∧ R.take (pre.length % 128) = over pre ∧ Arr wr gm 46 (mc (run IV pre) pre.length R) ∧ W.grownBy wr (some gm)

set_option maxHeartbeats 8000000 in
set_option maxRecDepth 100000 in
theorem rows_any (A : Option Addr) (ls : List (List UInt8)) (c : Nat) (w : World) (hA : Ms w w.heap.size A ls) (hl : ls.length ≤ 140737488355328) (ht : tot ls < 288230376151711744) (hT : TabR w) :
    Calls Tryd.prog 8 #[.slice A ls.length c] w fun e w' => e = .returned (.agg (Lib.byteCells (WideM.sum ls.flatten)).toArray) ∧ Below w.heap.size w w' := by
  have hTl := hT.lt
  have HA := Lib.hid hA
  have HT := Lib.hid hT
  obtain ⟨zs, hzs, hzn, hz, hi⟩ := zeroM
  have HZ := Lib.hid hzs
  have HI := Lib.hid hi
  clear hA hT hzs hi
  go_enter Tryd.func8, Tryd.ntmps8
  go_upto_region 1 with (fail)
  generalize hW : World.alloc _ _ = W0
  obtain ⟨r0, hb0, hs0⟩ := ArrG.start1 hW
  clear hW
  have AR0 : Hid (Arr W0 w.heap.size 24 (Lib.byteCells (List.replicate 64 0))) := Lib.hid r0
  have HB0 := Lib.hid hb0
  clear r0 hb0 hs0
  go_wp2_with fail
  refine (begin_any W0).mono ?_
  rintro e w2 ⟨rfl, b2⟩
  have HB2 := Lib.hid (HB0.out.trans (b2.mono HB0.out.size))
  have AR2 := Lib.hid (AR0.out.below b2 AR0.out.lt)
  have NB := Lib.hid (mc_len IV 0 (List.replicate 128 0) rfl (by simp))
  have OB := Lib.hid (mc_one IV 0 (List.replicate 128 0))
  have HM0 := Lib.hid (show mc IV 0 (List.replicate 128 0) = mc (run IV []) ([] : List UInt8).length (List.replicate 128 0) by rw [run_lt IV [] (by decide)]; rfl)
  obtain ⟨M, hM⟩ : ∃ M, mc IV 0 (List.replicate 128 0) = M := ⟨_, rfl⟩
  rw [hM] at NB OB HM0 ⊢
  clear b2 hM AR0 HB0
  go_upto_region 2 with (refine Arr.storeL (Arr.new w2 _ _) rfl 46 (.tmp 3) (.tmp 6) rfl rfl M rfl HI.out (by rw [HZ.out]; exact mc_len _ _ _ (by simp) (by simp)) NB.out OB.out ?_)
  generalize hw3 : World.setRow _ _ _ = W
  obtain ⟨a3, hb3, hs3⟩ := filled hw3
  obtain ⟨gm, hgm⟩ : ∃ gm, w2.heap.size = gm := ⟨_, rfl⟩
  have hg1 := AR2.out.lt
  rw [hgm] at a3 hs3 hg1 ⊢
  have Hg1 := Lib.hid hg1
  have HB3 := Lib.hid (HB2.out.trans (hb3.mono HB2.out.size))
  have AR3 := Lib.hid (AR2.out.below hb3 AR2.out.lt)
  rw [HM0.out] at a3
  have A3 := Lib.hid a3
  clear hw3 a3 hb3 hs3 hgm hg1 AR2 HB2 hz hzn HZ HI NB OB HM0
  go_wp2
  go_loopw [9] (fun v wr => ∃ k : Nat, k ≤ ls.length ∧ v = .int .i64 (k : Int) ∧ RelR gm (ls.take k).flatten W wr) (fun v _ => ls.length - (intOf v).toNat)
  case atStart => exact ⟨0, by omega, rfl, List.replicate 128 0, by simp, by simp [over], A3.out, grownRefl _ _⟩
  case round =>
    obtain ⟨k, hk, rfl, R, hR, hO, hm, hg⟩ := hrel
    have HR := Lib.hid hR
    have HO := Lib.hid hO
    have MK := Lib.hid hm
    have GK := Lib.hid hg
    have HWr := Lib.hid (HB3.out.trans (grownBelow hg (Nat.le_of_lt Hg1.out) HB3.out.size))
    have TW := Lib.hid (show TabR wr from HT.out.below HWr.out)
    clear hR hO hm hg
    by_cases hlt : k < ls.length
    · have ct : decide ((k : Int) < (ls.length : Int)) = true := decide_eq_true (by omega)
      obtain ⟨ad, a, ca, rfl, hadb, hcell, hbs, hca⟩ := HA.out.at_ hlt
      have hc1 := (HWr.out.cell (p := ad.add k) (by rw [add_block]; exact hadb)).trans hcell
      obtain ⟨e1, e2⟩ := total ls k hlt
      have HE1 := Lib.hid e1
      have hadd := add_any gm (ls.take k).flatten ls[k] R a ca wr MK.out HR.out HO.out ((hbs.below HWr.out).more HWr.out.size) hca (off_new hbs (Nat.le_of_lt Hg1.out)) (by omega) TW.out (by have := Hg1.out; omega)
      have HAdd := Lib.hid hadd
      clear hadd e1 e2 hcell
      generalize ls[k] = row at *
      go_wp2_with fail
      refine HAdd.out.mono ?_
      clear HAdd
      rintro _ w4 ⟨rfl, R4, h1, h2, h3, h4⟩
      have HRel := Lib.hid (show RelR gm (ls.take (k + 1)).flatten W w4 from ⟨R4, h1, by rw [HE1.out]; exact h2, by rw [HE1.out]; exact h3, grownTrans GK.out h4⟩)
      clear h1 h2 h3 h4 HE1
      go_wp2
      go_roundw
      case rel => exact ⟨k + 1, by omega, by go_num, HRel.out⟩
      case measure => simp [intOf]; omega
    · obtain rfl : k = ls.length := by omega
      have ct : decide ((ls.length : Int) < (ls.length : Int)) = false := decide_eq_false (by omega)
      have hend := end_any gm (ls.take ls.length).flatten R wr MK.out HR.out HO.out (by rw [tot_flatten, List.take_length]; omega) TW.out (by have := Hg1.out; omega)
      rw [List.take_length] at hend
      have HE := Lib.hid hend
      have ARk := Lib.hid (arr_grown AR3.out GK.out (by have := Hg1.out; omega))
      have HDl := Lib.hid (show (Lib.byteCells (WideM.sum ls.flatten)).length = 64 by rw [Lib.byteCells, List.length_map, sum_tail]; exact digest_len _ (sm_run _ _ sm_IV).1)
      have u64 : Tryd.prog.underlying 24 = some (.array 64 5) := by kernel_rfl
      have i64 : (Tryd.prog.info? 24).map (·.size) = some 64 := by kernel_rfl
      have U := Lib.hid u64
      have I := Lib.hid i64
      clear hend u64 i64
      obtain ⟨D, hD⟩ : ∃ D, WideM.sum ls.flatten = D := ⟨_, rfl⟩
      have HD := Lib.hid hD
      rw [hD] at HE HDl
      clear hD
      go_wp2_with fail
      refine HE.out.mono ?_
      clear HE
      rintro _ w5 ⟨rfl, g5⟩
      have AR5 := Lib.hid (arr_grown ARk.out g5 (by have := Hg1.out; omega))
      have HB5 := Lib.hid (HWr.out.trans (grownBelow g5 (Nat.le_of_lt Hg1.out) HWr.out.size))
      have AF := Lib.hid (AR5.out.row (Lib.byteCells D))
      have HBF := Lib.hid (below_row HB5.out (Nat.le_refl _) (Lib.byteCells D).toArray)
      clear g5 MK GK HR HO ARk
      go_wp2_with (refine Arr.storeL AR5.out rfl 24 (.tmp 2) (.tmp 16) rfl rfl (Lib.byteCells D) rfl I.out (by simp [Lib.byteCells]) HDl.out (bytes_one D) ?_)
      refine bodyPost_ret (v := .agg (Lib.byteCells D).toArray) (by exact AF.out.ret rfl _ rfl U.out rfl I.out HDl.out) rfl ⟨by rw [HD.out], HBF.out⟩

set_option maxHeartbeats 8000000 in
set_option maxRecDepth 100000 in
theorem sum_any (A : Option Addr) (l : List UInt8) (c : Nat) (w : World) (hA : Bs w w.heap.size A l) (hc : l.length ≤ c) (hl : l.length < 288230376151711744) (hT : TabR w) :
    Calls Tryd.prog 5 #[.slice A l.length c] w fun e w' => e = .returned (.agg (Lib.byteCells (WideM.sum l)).toArray) ∧ Below w.heap.size w w' := by
  have HA := Lib.hid hA
  have HT := Lib.hid hT
  clear hA hT
  go_enter Tryd.func5, Tryd.ntmps5
  go_upto_region 1 with (fail)
  generalize hW : World.alloc _ _ = W0
  obtain ⟨r0, hb0, hs0⟩ := ArrG.start1 hW
  clear hW
  have AR0 : Hid (Arr W0 w.heap.size 24 (Lib.byteCells (List.replicate 64 0))) := Lib.hid r0
  have HB0 := Lib.hid hb0
  clear r0 hb0 hs0
  go_wp2_with fail
  have hMs := Ms.laid W0 [.slice A l.length c] [l] #[.slice A l.length c] rfl (0, 0) rfl (fun k u x hu hx => by
    match k, hu, hx with
    | 0, hu, hx => simp at hu hx; subst hu; subst hx; exact ⟨A, c, rfl, hc, (HA.out.below HB0.out).more HB0.out.size⟩) (W0.alloc (.cells #[.slice A l.length c] 22)).heap.size (by simp)
  generalize hW1 : World.alloc _ _ = W1
  have b1 := (Below.refl W0.heap.size W0).alloc (Nat.le_refl _) (.cells #[.slice A l.length c] 22)
  rw [hW1] at b1 hMs
  have HB1 := Lib.hid (HB0.out.trans (b1.mono HB0.out.size))
  have AR1 := Lib.hid (AR0.out.below b1 AR0.out.lt)
  have hr := rows_any _ [l] 1 W1 hMs (by simp) (by simp [tot]; omega) (HT.out.below HB1.out)
  have HDl := Lib.hid (show (Lib.byteCells (WideM.sum l)).length = 64 by rw [Lib.byteCells, List.length_map, sum_tail]; exact digest_len _ (sm_run _ _ sm_IV).1)
  rw [show ([l] : List (List UInt8)).flatten = l by simp] at hr
  have HE := Lib.hid hr
  have u64 : Tryd.prog.underlying 24 = some (.array 64 5) := by kernel_rfl
  have i64 : (Tryd.prog.info? 24).map (·.size) = some 64 := by kernel_rfl
  have U := Lib.hid u64
  have I := Lib.hid i64
  clear hr b1 hMs hW1 AR0 u64 i64
  obtain ⟨D, hD⟩ : ∃ D, WideM.sum l = D := ⟨_, rfl⟩
  have HD := Lib.hid hD
  rw [hD] at HE HDl
  clear hD
  refine HE.out.mono ?_
  clear HE
  rintro _ w5 ⟨rfl, b5⟩
  have AR5 := Lib.hid (AR1.out.below b5 AR1.out.lt)
  have HB5 := Lib.hid (HB1.out.trans (b5.mono HB1.out.size))
  have AF := Lib.hid (AR5.out.row (Lib.byteCells D))
  have HBF := Lib.hid (below_row HB5.out (Nat.le_refl _) (Lib.byteCells D).toArray)
  clear b5
  go_wp2_with (refine Arr.storeL AR5.out rfl 24 (.tmp 2) (.tmp 5) rfl rfl (Lib.byteCells D) rfl I.out (by simp [Lib.byteCells]) HDl.out (bytes_one D) ?_)
  refine bodyPost_ret (v := .agg (Lib.byteCells D).toArray) (by exact AF.out.ret rfl _ rfl U.out rfl I.out HDl.out) rfl ⟨by rw [HD.out], HBF.out⟩
end Go.Proofs.YtmmmogccjopfeaaDoor.WideRowsW
