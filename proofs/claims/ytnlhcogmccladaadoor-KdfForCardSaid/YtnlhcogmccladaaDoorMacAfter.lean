/-
  mac.hashAfter: what it hands back. Conditions: in the statement.
-/
import Derived.Test.YtnlhcogmccladaaDoorMacFn
namespace Go.Proofs.YtnlhcogmccladaaDoor.MacFnW
open Go.RowKit BytesW CellsW WordsW ArrW HashM HashX HashMath HashCompW HashProcW HashDigW HashFinW HashRightW HashSumW HashMoreW MacM

/-- The hash of a block and what follows it, as the program has it: of more than 2^40 bytes it is the hash of nothing. -/
def hafter (blk m : List UInt8) : List UInt8 := if m.length ≤ 1099511627712 then HashM.sum (blk ++ m) else hend (List.replicate 8 0) [] 0
theorem sm_zero : Sm (List.replicate 8 0) := ⟨rfl, fun x hx => by rw [List.eq_of_mem_replicate hx]; decide⟩
theorem hafter_len (blk m : List UInt8) : (hafter blk m).length = 32 := by
  unfold hafter
  split
  · exact sum_len _
  · exact hend_len _ sm_zero _ _
theorem more_first (blk : List UInt8) (h : blk.length = 64) : moreM IV 0 [] blk = (run IV blk, 64, [], 0) := by
  have e : over blk = [] := List.eq_nil_of_length_eq_zero (by rw [over_len, h])
  unfold moreM
  rw [if_pos (by decide), if_neg (by rw [h]; decide), List.nil_append, e, h]
  rfl
theorem more_second (S : List Nat) (m : List UInt8) : moreM S 64 [] m = if m.length ≤ 1099511627712 then (run S m, (64 : Int) + m.length, over m, 0) else (List.replicate 8 0, 0, [], 4) := by
  unfold moreM
  rw [if_pos (by decide)]
  by_cases h : m.length ≤ 1099511627712
  · rw [if_neg (by omega), if_pos h, List.nil_append]
  · rw [if_pos (by omega), if_neg h]
/-- What the second step hands on, and what End makes of it. -/
theorem after_parts (blk m : List UInt8) (hb : blk.length = 64) : ∃ S2 L2 r2 f2 e2, moreM (run IV blk) 64 [] m = (S2, L2, r2, f2) ∧ Sm S2 ∧ -9223372036854775808 ≤ L2 ∧ L2 < 9223372036854775808 ∧ endM S2 L2 r2 = (hafter blk m, e2) := by
  rw [more_second]
  unfold hafter
  by_cases h : m.length ≤ 1099511627712
  · rw [if_pos h, if_pos h]
    refine ⟨_, _, _, _, 0, rfl, sm_run _ _ (sm_run _ _ sm_IV), by omega, by omega, ?_⟩
    have hok : okH ((64 : Int) + m.length) (over m).length = true := decide_eq_true ⟨by omega, by omega, by rw [over_len]; omega⟩
    unfold endM
    rw [if_pos hok]
    have e1 : ((64 : Int) + m.length).toNat = (blk ++ m).length := by rw [List.length_append, hb]; omega
    have e2 : hend (run (run IV blk) m) (over m) (blk ++ m).length = HashM.sum (blk ++ m) := by
      unfold HashM.sum
      rw [← hend_run IV (blk ++ m) (blk ++ m).length, run_append m 1 blk IV hb, over_append m 1 blk hb]
    rw [e1, e2]
  · rw [if_neg h, if_neg h]
    exact ⟨_, _, _, _, 0, rfl, sm_zero, by decide, by decide, rfl⟩

theorem hc_not {S : List Nat} {long : Int} {A : Option Addr} {n c : Nat} {j : Nat} {x : Int} (h : (hc S long (.slice A n c))[j]? = some (.int .u8 x)) : False := by
  have hm := List.mem_of_getElem? h
  unfold hc at hm
  rcases List.mem_append.1 hm with h | h
  · simp [wc] at h
  · simp at h
/-- Bytes do not lie where a message lies. -/
theorem bs_ne {V : World} {B g : Nat} {t : TypeId} {A : Option Addr} {l : List UInt8} {S : List Nat} {long : Int} {A2 : Option Addr} {n c : Nat} (h : Bs V B A l) (ha : Arr V g t (hc S long (.slice A2 n c))) (h0 : 0 < l.length) : ∀ ad, A = some ad → ad.block ≠ g := by
  intro ad e hb
  obtain ⟨ad', e', _, hcl⟩ := h h0
  rw [e] at e'
  cases e'
  have h1 := hcl 0 h0
  rw [add_zero] at h1
  unfold Arr at ha
  unfold World.cell? at h1
  rw [hb, ha] at h1
  simp only at h1
  split at h1
  · cases h1
  · exact hc_not (by simpa using h1)

set_option maxHeartbeats 8000000 in
set_option maxRecDepth 100000 in
theorem after_any (blk : List UInt8) (B : Option Addr) (m : List UInt8) (d : Nat) (w : World) (hK : blk.length = 64) (hB : Bs w w.heap.size B m) (hd : m.length ≤ d) (hT : TabR w) :
    Calls Tryd.prog 29 #[.agg (Lib.byteCells blk).toArray, .slice B m.length d] w fun e w' => e = .returned (.agg (Lib.byteCells (hafter blk m)).toArray) ∧ Below w.heap.size w w' := by
  obtain ⟨fs, uH⟩ := hash_struct
  have UH := Lib.hid uH
  have HT := Lib.hid hT
  have HK := Lib.hid hK
  have HB := Lib.hid hB
  clear hT hB uH
  obtain ⟨S1, hS1⟩ : ∃ S1, run IV blk = S1 := ⟨_, rfl⟩
  have HSm := Lib.hid (show Sm S1 by rw [← hS1]; exact sm_run _ _ sm_IV)
  obtain ⟨S2, L2, r2, f2, e2, hm2, hSm2, hL1, hL2, hE⟩ := after_parts blk m hK
  rw [hS1] at hm2
  have HM2 := Lib.hid hm2
  have HSm2 := Lib.hid hSm2
  obtain ⟨D, hD⟩ : ∃ D, hafter blk m = D := ⟨_, rfl⟩
  have HDl := Lib.hid (show D.length = 32 by rw [← hD]; exact hafter_len _ _)
  rw [hD] at hE ⊢
  have HE := Lib.hid hE
  clear hK hm2 hSm2 hE hD
  go_enter Tryd.func29, Tryd.ntmps29
  go_upto_region 1 with (fail)
  generalize hW : World.alloc _ _ = W
  obtain ⟨H0, H1, hbw, hsz⟩ := start2 hW
  clear hW
  have a0 : Arr W w.heap.size 50 (Lib.byteCells blk) := H0
  have a1 : Arr W (w.heap.size + 1) 27 (Lib.byteCells (List.replicate 32 0)) := H1
  have A0 := Lib.hid a0
  have A1 := Lib.hid a1
  have HX := Lib.hid hbw
  have HSZ := Lib.hid hsz
  clear a0 a1 H0 H1 hbw hsz
  -- the first step's contract, at any world behind W
  have HM1 : Hid (∀ V : World, Below W.heap.size W V → Calls Tryd.prog 36 #[.agg (hc IV 0 (.slice none 0 0)).toArray, .slice (some ⟨w.heap.size, 0, none⟩) 64 64] V fun e w' => ∃ A' c', e = .returned (.tuple #[.agg (hc S1 64 (.slice A' 0 c')).toArray, .int .i64 0]) ∧ Below V.heap.size V w') := Lib.hid (fun V hV => by
    have h := more_any IV sm_IV 0 none [] 0 (some ⟨w.heap.size, 0, none⟩) blk 64 V (Bs.nil _ _ _) (Nat.le_refl _) (arr_bs (A0.out.below hV A0.out.lt) (Nat.lt_of_lt_of_le A0.out.lt hV.size)) (by rw [HK.out]; exact Nat.le_refl _) (by decide) (by decide) (HT.out.below (HX.out.trans (hV.mono HX.out.size)))
    rw [more_first blk HK.out, HK.out, hS1] at h
    refine h.mono ?_
    rintro e w' ⟨A', c', rfl, -, -, hb⟩
    exact ⟨A', c', rfl, hb⟩)
  clear hS1
  have NH := Lib.hid (hc_len S1 64 (.slice none 0 0) HSm.out.1)
  rename_i Kr hKr
  have H : ∀ (g : Nat) (A' : Option Addr) (c' : Nat) (V : World), g ≠ w.heap.size + 1 → w.heap.size ≤ g → Below W.heap.size W V → Arr V g 61 (hc S1 64 (.slice A' 0 c')) → ∀ (u9 u10 u11 u12 u13 u14 u15 u16 u17 u18 u19 u20 u21 u22 u23 u24 u25 u26 : Value), Kr { tmps := #[.agg (Lib.byteCells blk).toArray, .slice B m.length d, .pointer (some ⟨w.heap.size, 0, none⟩), undef, .pointer (some ⟨w.heap.size + 1, 0, none⟩), .pointer (some ⟨g, 0, none⟩), .int .i64 0, undef, undef, u9, u10, u11, u12, u13, u14, u15, u16, u17, u18, u19, u20, u21, u22, u23, u24, u25, u26], defers := [] } V := by
    intro g A' c' V hg1 hg2 hbV haV u9 u10 u11 u12 u13 u14 u15 u16 u17 u18 u19 u20 u21 u22 u23 u24 u25 u26
    refine hKr _ _ ?_
    have AG := Lib.hid haV
    have X1 := Lib.hid (HX.out.trans (hbV.mono HX.out.size))
    have A1V := Lib.hid (A1.out.below hbV A1.out.lt)
    have HG := Lib.hid (show w.heap.size ≤ g from hg2)
    have HG1 := Lib.hid hg1
    have N1 := Lib.hid (hc_len S1 64 (.slice A' 0 c') HSm.out.1)
    have hmo := more_any S1 HSm.out 64 A' [] c' B m d V (Bs.nil _ _ _) (Nat.zero_le _) ((HB.out.below X1.out).more X1.out.size) hd (by decide) (by decide) (HT.out.below X1.out)
    rw [HM2.out] at hmo
    have HMo := Lib.hid hmo
    clear haV hbV hg1 hg2 hmo
    go_wp2_with (refine Arr.loadL AG.out rfl 61 (.tmp 5) rfl rfl UH.out rfl hash_size N1.out ?_)
    refine HMo.out.mono ?_
    clear HMo
    rintro e V2 ⟨A2, c2, rfl, hc2, s2, b2⟩
    have AG2 := Lib.hid (AG.out.below b2 AG.out.lt)
    have A1V2 := Lib.hid (A1V.out.below b2 A1V.out.lt)
    have X2 := Lib.hid (X1.out.trans (b2.mono X1.out.size))
    have S2' := Lib.hid s2
    have NE := Lib.hid (bs_ne s2 AG2.out)
    have N2 := Lib.hid (hc_len S2 L2 (.slice A2 r2.length c2) HSm2.out.1)
    have O2 := Lib.hid (hc_one S2 L2 A2 r2.length c2)
    clear s2 b2
    go_upto_region 3 with (refine Arr.storeL AG2.out rfl 61 (.tmp 5) (.tmp 19) rfl rfl (hc S2 L2 (.slice A2 r2.length c2)) rfl hash_size N1.out N2.out O2.out ?_)
    generalize hV3 : World.setRow _ _ _ = V3
    have g3 := grown_row V2 g (hc S2 L2 (.slice A2 r2.length c2)).toArray
    have ag3 := AG2.out.row (hc S2 L2 (.slice A2 r2.length c2))
    rw [hV3] at g3 ag3
    have AG3 := Lib.hid ag3
    have S3 := Lib.hid (ArrG.bs_keep S2'.out g3 NE.out)
    have A1V3 := Lib.hid (arr_grown A1V2.out g3 (fun e => HG1.out e.symm))
    have X3 := Lib.hid (X2.out.trans (grownBelow g3 HG.out X2.out.size))
    have hen := end_any S2 HSm2.out L2 A2 r2 c2 V3 S3.out hL1 hL2 (HT.out.below X3.out)
    rw [HE.out] at hen
    have HEn := Lib.hid hen
    clear hV3 g3 ag3 hen
    go_wp2_with (refine Arr.loadL AG3.out rfl 61 (.tmp 5) rfl rfl UH.out rfl hash_size N2.out ?_)
    refine HEn.out.mono ?_
    clear HEn
    rintro e V4 ⟨rfl, b4⟩
    have A1V4 := Lib.hid (A1V3.out.below b4 A1V3.out.lt)
    have X4 := Lib.hid (X3.out.trans (b4.mono X3.out.size))
    have N32 := Lib.hid (show (Lib.byteCells D).length = 32 by rw [Lib.byteCells_length]; exact HDl.out)
    clear b4
    go_upto_region 4 with (refine Arr.storeL (Arr.new V4 _ _) rfl 27 (.tmp 7) (.tmp 24) rfl rfl (Lib.byteCells D) rfl dig_size (by rfl) N32.out (bytes_one _) ?_)
    generalize hw5 : World.setRow _ _ _ = V5
    obtain ⟨p7, b5, z5⟩ := filled hw5
    have P7 := Lib.hid p7
    have A1V5 := Lib.hid (A1V4.out.below b5 A1V4.out.lt)
    have X5 := Lib.hid (X4.out.trans (b5.mono X4.out.size))
    have AF := Lib.hid (A1V5.out.row (Lib.byteCells D))
    have HBF := Lib.hid (below_row X5.out (show w.heap.size ≤ w.heap.size + 1 by omega) (Lib.byteCells D).toArray)
    obtain ⟨g7, hg7⟩ : ∃ g, V4.heap.size = g := ⟨_, rfl⟩
    rw [hg7] at P7 ⊢
    clear b5 hw5 p7 hg7 z5
    go_wp2_with (first | (refine Arr.loadL P7.out rfl 27 (.tmp 7) rfl rfl dig rfl dig_size N32.out ?_) | (refine Arr.storeL A1V5.out rfl 27 (.tmp 4) (.tmp 26) rfl rfl (Lib.byteCells D) rfl dig_size (by rfl) N32.out (bytes_one _) ?_))
    refine bodyPost_ret (v := .agg (Lib.byteCells D).toArray) (by exact AF.out.ret rfl _ rfl dig rfl dig_size N32.out) rfl ⟨rfl, HBF.out⟩
  have HH := Lib.hid H
  clear H
  have hne := ab W
  have x0 := (Below.refl W.heap.size W).drew
  obtain ⟨V0, hV0⟩ : ∃ x, W.drew = x := ⟨_, rfl⟩
  refine wp_region_tree (.read 1 (.fork 0 (.fork 2 (.read 3 (.read 4 (.read 5 (.step 6 (.step 7 (.read 8 .done)))))) 6 (.step 2 (.read 3 (.read 4 (.read 5 (.step 7 (.read 8 .done))))))) 6 (.step 0 (.step 2 (.read 3 (.read 4 (.read 5 (.step 7 (.read 8 .done))))))))) (fun V => ∃ x : Ab W, V = x.val) (by kernel_rfl) (by kernel_rfl) (by decide) (fun _ _ d _ _ h => by cases d <;> exact h) (Cl.of (Below.refl _ _).drew) ?_
  rw [hV0] at x0 ⊢
  clear hV0
  refine tree_read rfl (fun K hK => ?_)
  go_simp
  refine hK _ ?_
  clear hK K
  refine tree_fork rfl rfl (Cl.of x0) (fun K hK => ?_) (fun K hK => ?_)
  · go_simp
    refine (begin_any V0).mono ?_
    rintro e V1 ⟨rfl, bV1⟩
    have x1 := x0.trans (bV1.mono x0.size)
    refine hK _ _ ⟨Cl.of x1, ?_⟩
    clear hK K
    refine tree_fork rfl rfl (Cl.of x1) (fun K hK => ?_) (fun K hK => ?_)
    · go_simp
      refine (HM1.out V1 x1).mono ?_
      rintro e V2 ⟨A', c', rfl, bV2⟩
      have x2 := x1.trans (bV2.mono x1.size)
      refine hK _ _ ⟨Cl.of x2, ?_⟩
      clear hK K
      refine tree_read rfl (fun K hK => ?_)
      go_simp
      refine hK _ ?_
      clear hK K
      refine tree_read rfl (fun K hK => ?_)
      go_simp
      refine hK _ ?_
      clear hK K
      refine tree_read rfl (fun K hK => ?_)
      go_simp
      refine hK _ ?_
      clear hK K
      refine tree_step rfl (Cl.of x2) (fun K hK => ?_)
      go_simp
      generalize hV3 : World.alloc _ _ = V3
      obtain ⟨qV3, bV3, -⟩ := start1 hV3
      have x3 := x2.trans (bV3.mono x2.size)
      have QV3 : Hid (Arr V3 V2.heap.size 61 (hc (List.replicate 8 0) 0 (.slice none 0 0))) := Lib.hid qV3
      refine hK _ _ ⟨Cl.of x3, ?_⟩
      clear hK K hV3 qV3
      have PZ := QV3.out
      have NZ1 := Lib.hid (hc_len S1 64 (.slice A' 0 c') HSm.out.1)
      have PR := PZ.row (hc S1 64 (.slice A' 0 c'))
      have HgW : W.heap.size ≤ V2.heap.size := x2.size
      have XR := below_row x3 HgW (hc S1 64 (.slice A' 0 c')).toArray
      refine tree_step rfl (Cl.of x3) (fun K hK => want rfl ?_)
      refine Arr.storeO PZ 61 (.tmp 5) (.tmp 13) rfl rfl (hc S1 64 (.slice A' 0 c')) rfl hash_size (by rfl) NZ1.out (hc_one _ _ _ _ _) ?_
      refine hK _ _ ⟨Cl.of XR, ?_⟩
      clear hK K
      refine tree_read rfl (fun K hK => ?_)
      go_simp
      refine hK _ ?_
      clear hK K
      refine tree_done ?_
      exact HH.out _ A' c' _ (by have := HSZ.out; omega) (by have := HX.out.size; omega) XR PR _ _ _ _ _ _ _ _ _ _ _ _ _ _ _ _ _ _ 
    · go_simp
      generalize hV2 : World.alloc _ _ = V2
      obtain ⟨qV2, bV2, -⟩ := start1 hV2
      have x2 := x1.trans (bV2.mono x1.size)
      have QV2 : Hid (Arr V2 V1.heap.size 61 (hc (List.replicate 8 0) 0 (.slice none 0 0))) := Lib.hid qV2
      refine hK _ _ ⟨Cl.of x2, ?_⟩
      clear hK K hV2 qV2
      refine tree_step rfl (Cl.of x2) (fun K hK => ?_)
      go_simp
      refine (HM1.out V2 x2).mono ?_
      rintro e V3 ⟨A', c', rfl, bV3⟩
      have x3 := x2.trans (bV3.mono x2.size)
      refine hK _ _ ⟨Cl.of x3, ?_⟩
      clear hK K
      refine tree_read rfl (fun K hK => ?_)
      go_simp
      refine hK _ ?_
      clear hK K
      refine tree_read rfl (fun K hK => ?_)
      go_simp
      refine hK _ ?_
      clear hK K
      refine tree_read rfl (fun K hK => ?_)
      go_simp
      refine hK _ ?_
      clear hK K
      have PZ := (QV2.out.below bV3 QV2.out.lt)
      have NZ1 := Lib.hid (hc_len S1 64 (.slice A' 0 c') HSm.out.1)
      have PR := PZ.row (hc S1 64 (.slice A' 0 c'))
      have HgW : W.heap.size ≤ V1.heap.size := x1.size
      have XR := below_row x3 HgW (hc S1 64 (.slice A' 0 c')).toArray
      refine tree_step rfl (Cl.of x3) (fun K hK => want rfl ?_)
      refine Arr.storeO PZ 61 (.tmp 5) (.tmp 13) rfl rfl (hc S1 64 (.slice A' 0 c')) rfl hash_size (by rfl) NZ1.out (hc_one _ _ _ _ _) ?_
      refine hK _ _ ⟨Cl.of XR, ?_⟩
      clear hK K
      refine tree_read rfl (fun K hK => ?_)
      go_simp
      refine hK _ ?_
      clear hK K
      refine tree_done ?_
      exact HH.out _ A' c' _ (by have := HSZ.out; omega) (by have := HX.out.size; omega) XR PR _ _ _ _ _ _ _ _ _ _ _ _ _ _ _ _ _ _ 
  · go_simp
    generalize hV1 : World.alloc _ _ = V1
    obtain ⟨qV1, bV1, -⟩ := start1 hV1
    have x1 := x0.trans (bV1.mono x0.size)
    have QV1 : Hid (Arr V1 V0.heap.size 61 (hc (List.replicate 8 0) 0 (.slice none 0 0))) := Lib.hid qV1
    refine hK _ _ ⟨Cl.of x1, ?_⟩
    clear hK K hV1 qV1
    refine tree_step rfl (Cl.of x1) (fun K hK => ?_)
    go_simp
    refine (begin_any V1).mono ?_
    rintro e V2 ⟨rfl, bV2⟩
    have x2 := x1.trans (bV2.mono x1.size)
    refine hK _ _ ⟨Cl.of x2, ?_⟩
    clear hK K
    refine tree_step rfl (Cl.of x2) (fun K hK => ?_)
    go_simp
    refine (HM1.out V2 x2).mono ?_
    rintro e V3 ⟨A', c', rfl, bV3⟩
    have x3 := x2.trans (bV3.mono x2.size)
    refine hK _ _ ⟨Cl.of x3, ?_⟩
    clear hK K
    refine tree_read rfl (fun K hK => ?_)
    go_simp
    refine hK _ ?_
    clear hK K
    refine tree_read rfl (fun K hK => ?_)
    go_simp
    refine hK _ ?_
    clear hK K
    refine tree_read rfl (fun K hK => ?_)
    go_simp
    refine hK _ ?_
    clear hK K
    have PZ := ((QV1.out.below bV2 QV1.out.lt).below bV3 (QV1.out.below bV2 QV1.out.lt).lt)
    have NZ1 := Lib.hid (hc_len S1 64 (.slice A' 0 c') HSm.out.1)
    have PR := PZ.row (hc S1 64 (.slice A' 0 c'))
    have HgW : W.heap.size ≤ V0.heap.size := x0.size
    have XR := below_row x3 HgW (hc S1 64 (.slice A' 0 c')).toArray
    refine tree_step rfl (Cl.of x3) (fun K hK => want rfl ?_)
    refine Arr.storeO PZ 61 (.tmp 5) (.tmp 13) rfl rfl (hc S1 64 (.slice A' 0 c')) rfl hash_size (by rfl) NZ1.out (hc_one _ _ _ _ _) ?_
    refine hK _ _ ⟨Cl.of XR, ?_⟩
    clear hK K
    refine tree_read rfl (fun K hK => ?_)
    go_simp
    refine hK _ ?_
    clear hK K
    refine tree_done ?_
    exact HH.out _ A' c' _ (by have := HSZ.out; omega) (by have := HX.out.size; omega) XR PR _ _ _ _ _ _ _ _ _ _ _ _ _ _ _ _ _ _ 
end Go.Proofs.YtnlhcogmccladaaDoor.MacFnW
