/-
  The walk of ticketwardkeep.HashOn: it returns true and writes nothing that was there. Conditions: the program's own table; a state of eight words; lengths that a slice has.
-/
import Derived.Test.YtfbgiobbkdbboaaDoorHashUse
import Derived.Test.YtfbgiobbkdbboaaDoorSClone
import Derived.BigGuard
namespace Go.Proofs.YtfbgiobbkdbboaaDoor.HashOnL
open Go.RowKit BytesW CellsW WordsW ArrW HashM HashX HashMath HashCompW HashFinW HashRightW HashSumW HashSameW HashMoreW HashUseW

/-- What More answers of a valid message: full, or the longer message. -/
theorem more_parts (S : List Nat) (hS : Sm S) (L : Nat) (r b : List UInt8) (hL : L ≤ 1099511627776) (hr : r.length = L % 64) :
    ∃ S' L' r' g, moreM S (L : Int) r b = (S', L', r', g) ∧ S'.length = 8 ∧ (g = 4 ∨ (g = 0 ∧ Sm S' ∧ L' = (L : Int) + b.length ∧ L + b.length ≤ 1099511627776 ∧ r'.length = (L + b.length) % 64)) := by
  unfold moreM
  rw [if_pos (okH_of hL hr)]
  split
  · exact ⟨_, _, _, _, rfl, rfl, .inl rfl⟩
  · rename_i h
    exact ⟨_, _, _, _, rfl, (sm_run _ _ hS).1, .inr ⟨rfl, sm_run _ _ hS, rfl, by omega, by rw [over_len, List.length_append]; omega⟩⟩
theorem build_zero (w : World) : (Instr.build 27 #[]).run Tryd.prog w = .ok (.agg (hc (List.replicate 8 0) 0 (.slice none 0 0)).toArray) w := by kernel_rfl

set_option maxHeartbeats 8000000 in
set_option maxRecDepth 100000 in
theorem walk (S : List Nat) (hS : Sm S) (long : Int) (A : Option Addr) (r : List UInt8) (c : Nat) (B : Option Addr) (b : List UInt8) (d : Nat) (w : World)
    (h1 : -9223372036854775808 ≤ long) (h2 : long < 9223372036854775808) (hA : Bs w w.heap.size A r) (hcr : r.length ≤ c) (hB : Bs w w.heap.size B b) (hdb : b.length ≤ d) (hb0 : b.length ≤ 140737488351232) (hT : TabR w) :
    Calls Tryd.prog 6 #[.agg (hc S long (.slice A r.length c)).toArray, .slice B b.length d] w fun e w' => e = .returned (.bool true) ∧ Below w.heap.size w w' := by
  have HR := Lib.hid hT
  have HA := Lib.hid hA
  have HBb := Lib.hid hB
  obtain ⟨fs, u27⟩ := hash_struct
  have U27 := Lib.hid u27
  have N10 := Lib.hid (hc_len S long (.slice A r.length c) hS.1)
  clear hT hA hB u27
  go_enter Tryd.func6, Tryd.ntmps6
  go_upto_region 1 with (fail)
  generalize hW : World.alloc _ _ = W
  obtain ⟨H0, hbw, hsz⟩ := start1 hW
  clear hW
  have a0 : Arr W w.heap.size 27 (hc S long (.slice A r.length c)) := H0
  have P2 := Lib.hid a0
  have X0 := Lib.hid hbw
  clear a0 H0 hbw hsz
  go_wp2_with fail
  refine (HashAliveW.alive_any W (HR.out.below X0.out)).mono ?_
  rintro e w1 ⟨rfl, b1⟩
  have X1 := Lib.hid (X0.out.trans (b1.mono X0.out.size))
  have P21 := Lib.hid (P2.out.below b1 P2.out.lt)
  have hmo := more_any S hS long A r c none [] 0 w1 ((HA.out.below X1.out).more X1.out.size) hcr (Bs.nil _ _ _) (Nat.le_refl _) h1 h2 (HR.out.below X1.out)
  simp only [List.length_nil] at hmo
  have HMo := Lib.hid hmo
  clear b1 hmo
  go_wp2_with (refine Arr.loadL P21.out rfl 27 (.tmp 2) rfl rfl U27.out rfl hash_size N10.out ?_)
  refine HMo.out.mono ?_
  clear HMo
  rintro e w2 hm2
  by_cases hok : okH long r.length = true
  · obtain ⟨L, rfl, hL, hrL⟩ := okH_nat hok
    have hm0 : moreM S (L : Int) r [] = (S, (L : Int), r, 0) := by
      unfold moreM
      rw [if_pos hok, if_neg (by simp; omega), List.append_nil, run_stop S r (by omega), over_small r (by omega)]
      simp
    rw [hm0] at hm2
    obtain ⟨A5, c5, rfl, hc5, s5, b2⟩ := hm2
    dsimp only at hc5 s5 ⊢
    have X2 := Lib.hid (X1.out.trans (b2.mono X1.out.size))
    have P22 := Lib.hid (P21.out.below b2 P21.out.lt)
    have S5 := Lib.hid s5
    have N5 := Lib.hid (hc_len S (L : Int) (.slice A5 r.length c5) hS.1)
    have HrL := Lib.hid hrL
    have hr64 : r.length < 64 := by omega
    clear b2 s5 hm0 hok hrL
    go_upto_region 4 with (refine Arr.storeL (Arr.new w2 _ _) rfl 27 (.tmp 5) (.tmp 19) rfl rfl (hc S (L : Int) (.slice A5 r.length c5)) rfl hash_size (by rfl) N5.out (hc_one _ _ _ _ _) ?_)
    generalize hw3 : World.setRow _ _ _ = w3
    obtain ⟨p5, b3, -⟩ := filled hw3
    have X3 := Lib.hid (X2.out.trans (b3.mono X2.out.size))
    have P23 := Lib.hid (P22.out.below b3 P22.out.lt)
    have S53 := Lib.hid ((S5.out.below b3).more b3.size)
    have P5 := Lib.hid p5
    obtain ⟨g5, hg5⟩ : ∃ g, w2.heap.size = g := ⟨_, rfl⟩
    rw [hg5] at P5 ⊢
    have c9 := P23.out.cell 9
    rw [hc_9 S _ _ hS.1] at c9
    have HCl := Lib.hid (SCloneW.clone_any A r c w3 ((HA.out.below X3.out).more X3.out.size) (by omega))
    clear b3 hw3 p5 hg5
    go_wp2_with fail
    refine HCl.out.mono ?_
    clear HCl c9
    rintro e w4 ⟨v7, rfl, r4, b4⟩
    obtain ⟨A7, c7, rfl, s7, hc7⟩ := r4.form2
    have X4 := Lib.hid (X3.out.trans (b4.mono X3.out.size))
    have P24 := Lib.hid (P23.out.below b4 P23.out.lt)
    have P54 := Lib.hid (P5.out.below b4 P5.out.lt)
    have S54 := Lib.hid ((S53.out.below b4).more b4.size)
    have S74 := Lib.hid s7
    have HEn := Lib.hid (end_ok S hS L A r c w4 ((HA.out.below X4.out).more X4.out.size) HrL.out hL (HR.out.below X4.out))
    clear b4 r4 s7
    go_wp2_with (refine Arr.loadL P24.out rfl 27 (.tmp 2) rfl rfl U27.out rfl hash_size N10.out ?_)
    refine HEn.out.mono ?_
    clear HEn
    rintro e w5 ⟨rfl, b5⟩
    have X5 := Lib.hid (X4.out.trans (b5.mono X4.out.size))
    have P25 := Lib.hid (P24.out.below b5 P24.out.lt)
    have P55 := Lib.hid (P54.out.below b5 P54.out.lt)
    have S55 := Lib.hid ((S54.out.below b5).more b5.size)
    have S75 := Lib.hid ((S74.out.below b5).more b5.size)
    obtain ⟨D, hD⟩ : ∃ D, hend S r L = D := ⟨_, rfl⟩
    have HDl := Lib.hid (show D.length = 32 by rw [← hD]; exact hend_len S hS r L)
    have HDe := Lib.hid hD
    rw [hD]
    have N32 := Lib.hid (show (Lib.byteCells D).length = 32 by rw [Lib.byteCells_length]; exact HDl.out)
    clear b5 hD
    go_upto_region 8 with (refine Arr.storeL (Arr.new w5 _ _) rfl 31 (.tmp 8) (.tmp 32) rfl rfl (Lib.byteCells D) rfl dig_size (by rfl) N32.out (bytes_one _) ?_)
    generalize hw6 : World.setRow _ _ _ = w6
    obtain ⟨p8, b6, -⟩ := filled hw6
    have X6 := Lib.hid (X5.out.trans (b6.mono X5.out.size))
    have P26 := Lib.hid (P25.out.below b6 P25.out.lt)
    have P56 := Lib.hid (P55.out.below b6 P55.out.lt)
    have S56 := Lib.hid ((S55.out.below b6).more b6.size)
    have S76 := Lib.hid ((S75.out.below b6).more b6.size)
    have P8 := Lib.hid p8
    obtain ⟨g8, hg8⟩ : ∃ g, w5.heap.size = g := ⟨_, rfl⟩
    rw [hg8] at P8 ⊢
    have hmo := more_any S hS (L : Int) A r c B b d w6 ((HA.out.below X6.out).more X6.out.size) hcr ((HBb.out.below X6.out).more X6.out.size) hdb h1 h2 (HR.out.below X6.out)
    obtain ⟨S', L', r', g, hm, hS8, hg⟩ := more_parts S hS L r b hL HrL.out
    rw [hm] at hmo
    have HMo := Lib.hid hmo
    have HG := Lib.hid hg
    have H8 := Lib.hid hS8
    clear b6 hw6 p8 hg8 hmo hm hg hS8
    go_wp2_with (refine Arr.loadL P26.out rfl 27 (.tmp 2) rfl rfl U27.out rfl hash_size N10.out ?_)
    refine HMo.out.mono ?_
    clear HMo
    rintro e w7 ⟨A10, c10, rfl, -, -, b7⟩
    dsimp only
    have X7 := Lib.hid (X6.out.trans (b7.mono X6.out.size))
    have P27 := Lib.hid (P26.out.below b7 P26.out.lt)
    have P57 := Lib.hid (P56.out.below b7 P56.out.lt)
    have P87 := Lib.hid (P8.out.below b7 P8.out.lt)
    have S57 := Lib.hid ((S56.out.below b7).more b7.size)
    have S77 := Lib.hid ((S76.out.below b7).more b7.size)
    have NX := Lib.hid (hc_len S' L' (.slice A10 r'.length c10) H8.out)
    clear b7
    go_upto_region 9 with (refine Arr.storeL (Arr.new w7 _ _) rfl 27 (.tmp 10) (.tmp 38) rfl rfl (hc S' L' (.slice A10 r'.length c10)) rfl hash_size (by rfl) NX.out (hc_one _ _ _ _ _) ?_)
    generalize hw8 : World.setRow _ _ _ = w8
    obtain ⟨p10, b8, -⟩ := filled hw8
    have X8 := Lib.hid (X7.out.trans (b8.mono X7.out.size))
    have P28 := Lib.hid (P27.out.below b8 P27.out.lt)
    have P58 := Lib.hid (P57.out.below b8 P57.out.lt)
    have P88 := Lib.hid (P87.out.below b8 P87.out.lt)
    have S58 := Lib.hid ((S57.out.below b8).more b8.size)
    have S78 := Lib.hid ((S77.out.below b8).more b8.size)
    have P10 := Lib.hid p10
    obtain ⟨g10, hg10⟩ : ∃ g, w7.heap.size = g := ⟨_, rfl⟩
    rw [hg10] at P10 ⊢
    have HEn := Lib.hid (end_ok S hS L A r c w8 ((HA.out.below X8.out).more X8.out.size) HrL.out hL (HR.out.below X8.out))
    clear b8 hw8 p10 hg10
    go_wp2_with (refine Arr.loadL P28.out rfl 27 (.tmp 2) rfl rfl U27.out rfl hash_size N10.out ?_)
    refine HEn.out.mono ?_
    clear HEn
    rintro e w9 ⟨rfl, b9⟩
    rw [HDe.out]
    have X9 := Lib.hid (X8.out.trans (b9.mono X8.out.size))
    have P29 := Lib.hid (P28.out.below b9 P28.out.lt)
    have P59 := Lib.hid (P58.out.below b9 P58.out.lt)
    have P89 := Lib.hid (P88.out.below b9 P88.out.lt)
    have P109 := Lib.hid (P10.out.below b9 P10.out.lt)
    have S59 := Lib.hid ((S58.out.below b9).more b9.size)
    have S79 := Lib.hid ((S78.out.below b9).more b9.size)
    clear b9
    go_upto_region 10 with (refine Arr.storeL (Arr.new w9 _ _) rfl 31 (.tmp 12) (.tmp 43) rfl rfl (Lib.byteCells D) rfl dig_size (by rfl) N32.out (bytes_one _) ?_)
    generalize hw10 : World.setRow _ _ _ = w10
    obtain ⟨p12, b10, -⟩ := filled hw10
    have X10 := Lib.hid (X9.out.trans (b10.mono X9.out.size))
    have P2a := Lib.hid (P29.out.below b10 P29.out.lt)
    have P5a := Lib.hid (P59.out.below b10 P59.out.lt)
    have P8a := Lib.hid (P89.out.below b10 P89.out.lt)
    have P10a := Lib.hid (P109.out.below b10 P109.out.lt)
    have S5a := Lib.hid ((S59.out.below b10).more b10.size)
    have S7a := Lib.hid ((S79.out.below b10).more b10.size)
    have P12 := Lib.hid p12
    obtain ⟨g12, hg12⟩ : ∃ g, w9.heap.size = g := ⟨_, rfl⟩
    rw [hg12] at P12 ⊢
    clear b10 hw10 p12 hg12
    have heq := eql_dig D HDl.out w10
    have HSa := Lib.hid (same_any S hS.1 (L : Int) A5 A r c5 c w10 S5a.out ((HA.out.below X10.out).more X10.out.size))
    go_wp2_with (first | (refine loadLg P8a.out rfl 31 (.tmp 8) rfl rfl dig rfl dig_size N32.out ?_) | (refine loadLg P12.out rfl 31 (.tmp 12) rfl rfl dig rfl dig_size N32.out ?_) | (refine loadLg P5a.out rfl 27 (.tmp 5) rfl rfl U27.out rfl hash_size N5.out ?_) | (refine loadLg P2a.out rfl 27 (.tmp 2) rfl rfl U27.out rfl hash_size N10.out ?_))
    refine HSa.out.mono ?_
    clear HSa heq
    rintro e w11 ⟨rfl, b11⟩
    have X11 := Lib.hid (X10.out.trans (b11.mono X10.out.size))
    have k7 := ((S7a.out.below b11).more b11.size).conv c7
    have kA := (((HA.out.below X10.out).more X10.out.size).below b11).conv c
    have P2b := Lib.hid (P2a.out.below b11 P2a.out.lt)
    have P10b := Lib.hid (P10a.out.below b11 P10a.out.lt)
    have c9 := P2b.out.cell 9
    rw [hc_9 S _ _ hS.1] at c9
    have c8 := P2b.out.cell 8
    rw [hc_8 S _ _ hS.1] at c8
    have d8 := P10b.out.cell 8
    rw [hc_8 S' _ _ H8.out] at d8
    clear b11
    rcases HG.out with rfl | ⟨rfl, hS', rfl, hLb, hr'⟩
    · clear HG
      go_wp2
      go_ret
      exact ⟨rfl, X11.out⟩
    · have HRi := Lib.hid (right_ok S' hS' (L + b.length) A10 r'.length c10 w11 hr' hLb)
      clear HG hr' hS'
      go_wp2_with (refine loadLg P10b.out rfl 27 (.tmp 10) rfl rfl U27.out rfl hash_size NX.out ?_)
      refine HRi.out.mono ?_
      clear HRi
      rintro e w12 ⟨rfl, b12⟩
      have X12 := Lib.hid (X11.out.trans (b12.mono X11.out.size))
      clear b12
      go_wp2
      go_ret
      exact ⟨rfl, X12.out⟩
  · have hm0 : moreM S long r [] = (List.replicate 8 0, 0, [], 1) := by
      unfold moreM
      rw [if_neg hok]
    rw [hm0] at hm2
    obtain ⟨A5, c5, rfl, hc5, s5, b2⟩ := hm2
    dsimp only at hc5 s5 ⊢
    have X2 := Lib.hid (X1.out.trans (b2.mono X1.out.size))
    have N5 := Lib.hid (hc_len (List.replicate 8 0) 0 (.slice A5 0 c5) rfl)
    simp only [List.length_nil]
    clear b2 s5 hm0 hok
    go_upto_region 4 with (refine Arr.storeL (Arr.new w2 _ _) rfl 27 (.tmp 5) (.tmp 19) rfl rfl (hc (List.replicate 8 0) 0 (.slice A5 0 c5)) rfl hash_size (by rfl) N5.out (hc_one _ _ _ _ _) ?_)
    generalize hw3 : World.setRow _ _ _ = w3
    obtain ⟨p5, b3, -⟩ := filled hw3
    have X3 := Lib.hid (X2.out.trans (b3.mono X2.out.size))
    have P5 := Lib.hid p5
    obtain ⟨g5, hg5⟩ : ∃ g, w2.heap.size = g := ⟨_, rfl⟩
    rw [hg5] at P5 ⊢
    have HBz := Lib.hid (build_zero w3)
    have hsa := same_any (List.replicate 8 0) rfl 0 A5 none [] c5 0 w3 (Bs.nil _ _ _) (Bs.nil _ _ _)
    simp only [List.length_nil] at hsa
    have HSa := Lib.hid hsa
    clear b3 hw3 p5 hg5 hsa
    go_wp2_with (first | (refine Arr.loadL P5.out rfl 27 (.tmp 5) rfl rfl U27.out rfl hash_size N5.out ?_) | (refine buildL rfl rfl rfl HBz.out ?_))
    refine HSa.out.mono ?_
    rintro e w4 ⟨rfl, b4⟩
    have X4 := Lib.hid (X3.out.trans (b4.mono X3.out.size))
    go_wp2
    go_ret
    exact ⟨rfl, X4.out⟩
end Go.Proofs.YtfbgiobbkdbboaaDoor.HashOnL
