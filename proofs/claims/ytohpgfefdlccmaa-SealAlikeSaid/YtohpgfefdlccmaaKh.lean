/-
  Several texts in one: StreamW, StreamQuarter, StreamRounds, StreamRead, StreamProduce, StreamStart. What each holds stands at its head. Conditions: in each statement.
-/
import Derived.Test.YtohpgfefdlccmaaStreamStep
import Derived.Test.YtohpgfefdlccmaaStreamPut
import Derived.Deep.DeepCutAuto

/-
  Words and bytes as a variable's cells; math/bits.RotateLeft32 by a count from 1 to 31. Conditions: in each statement.
-/
namespace Go.Proofs.Ytohpgfefdlccmaa.StreamWW
open Go.RowKit BytesW CellsW WordsW ArrW HashM HashTurnW StreamM StreamStepW

theorem wc_one (l : List Nat) : ∀ v ∈ wc l, v.oneCell' = true := by
  intro v hv
  simp only [wc, List.mem_map] at hv
  obtain ⟨x, _, rfl⟩ := hv
  rfl
theorem wc_getD (S : List Nat) (k : Nat) (h : k < S.length) : (wc S)[k]? = some (.int .u32 ((S.getD k 0 : Nat) : Int)) := by
  unfold wc
  rw [List.getElem?_map, List.getElem?_eq_getElem h]
  simp [List.getD_eq_getElem?_getD, List.getElem?_eq_getElem h]
theorem wc_set (S : List Nat) (k x : Nat) : (wc S).set k (.int .u32 (x : Int)) = wc (S.set k x) := by unfold wc; rw [List.map_set]
theorem bs_getD (L : List UInt8) (k : Nat) (h : k < L.length) : (Lib.byteCells L)[k]? = some (.int .u8 ((L.getD k 0).toNat : Int)) := by
  unfold Lib.byteCells
  rw [List.getElem?_map, List.getElem?_eq_getElem h]
  simp [List.getD_eq_getElem?_getD, List.getElem?_eq_getElem h]
theorem bs_set (L : List UInt8) (k : Nat) (x : UInt8) : (Lib.byteCells L).set k (.int .u8 (x.toNat : Int)) = Lib.byteCells (L.set k x) := by simp [Lib.byteCells, List.map_set]

theorem low (n : Nat) (h2 : n ≤ 31) : bits .and .u64 (n : Int) 31 = (n : Int) := by
  have h : ∀ m : Fin 32, bits .and .u64 (m.val : Int) 31 = (m.val : Int) := by decide +kernel
  exact h ⟨n, by omega⟩

set_option maxHeartbeats 1000000 in
theorem left_any (n x : Nat) (h1n : 1 ≤ n) (hn : n ≤ 31) (hx : x < 4294967296) (m : Int) (hm : m = (n : Int)) (w : World) :
    Calls Try.prog 54 #[.int .u32 (x : Int), .int .i64 m] w fun e w' => e = .returned (.int .u32 (rotl n x : Int)) ∧ w = w' := by
  subst hm
  have e0 := low n hn
  have e2 : IntKind.u64.wrap (n : Int) = (n : Int) := by rw [IntKind.wrap_u64]; omega
  have e1 : IntKind.u64.wrap (32 - (n : Int)) = ((32 - n : Nat) : Int) := by rw [IntKind.wrap_u64]; omega
  have HT := Lib.hid (rotl_or n x h1n hn hx)
  obtain ⟨s, hs⟩ : ∃ s, 32 - n = s := ⟨_, rfl⟩
  rw [hs] at e1 HT
  have hs64 : s ≤ 31 := by omega
  clear hs
  go_enter Try.func54, Try.ntmps54
  go_wp2
  go_ret
  refine ⟨?_, rfl⟩
  rw [← HT.out]
  rfl
end Go.Proofs.Ytohpgfefdlccmaa.StreamWW

/-
  stream.quarter: what it makes of a variable of sixteen words. Conditions: in the statement.
-/
namespace Go.Proofs.Ytohpgfefdlccmaa.StreamQuarterW
open Go.RowKit BytesW CellsW WordsW ArrW ArrG HashM HashTurnW StreamM StreamStepW StreamWW

set_option maxHeartbeats 8000000 in
set_option maxRecDepth 100000 in
theorem quarter_any (g : Nat) (T : TypeId) (s : List Nat) (a b c d : Nat) (w : World) (hv : Arr w g T (wc s)) (hl : s.length = 16) (ho : Ok s) (ha : a < 16) (hb : b < 16) (hc : c < 16) (hd : d < 16) :
    Calls Try.prog 50 #[.pointer (some ⟨g, 0, none⟩), .int .i64 (a : Int), .int .i64 (b : Int), .int .i64 (c : Int), .int .i64 (d : Int)] w fun e w' => e = .returned (.tuple #[]) ∧ Arr w' g T (wc (quarter s a b c d)) ∧ w.grownBy w' (some g) := by
  have V0 := Lib.hid hv
  have L0 := Lib.hid hl
  have O0 := Lib.hid ho
  have G0 := Lib.hid (grownRefl w (some g))
  have ia : (a : Int) < 16 := by omega
  have ib : (b : Int) < 16 := by omega
  have ic : (c : Int) < 16 := by omega
  have id : (d : Int) < 16 := by omega
  obtain ⟨s0, hs0⟩ : ∃ s0, s = s0 := ⟨_, rfl⟩
  rw [hs0] at V0 L0 O0
  have HQ := Lib.hid hs0
  obtain ⟨w0, hw0⟩ : ∃ w0, w = w0 := ⟨_, rfl⟩
  clear hv hl ho hs0
  obtain ⟨z0, hz⟩ : ∃ z, (s0.getD a 0 + s0.getD b 0) % 4294967296 = z := ⟨_, rfl⟩
  obtain ⟨r0, hr⟩ : ∃ r, s0.set a z0 = r := ⟨_, rfl⟩
  obtain ⟨x0, hx⟩ : ∃ x, r0.getD d 0 ^^^ r0.getD a 0 = x := ⟨_, rfl⟩
  obtain ⟨s1, hs⟩ : ∃ S, r0.set d (rotl 16 x0) = S := ⟨_, rfl⟩
  have hE : stepM s0 a b d 16 = s1 := by unfold stepM; simp only [hz, hr, hx, hs]
  have OR0 : Hid (Ok r0) := Lib.hid (by rw [← hr]; exact O0.out.set a z0 (by omega))
  have X0 : Hid (x0 < 4294967296) := Lib.hid (by rw [← hx]; exact xor_lt _ _ (OR0.out.getD d) (OR0.out.getD a))
  have O1 : Hid (Ok s1) := Lib.hid (by rw [← hE]; exact stepM_ok O0.out _ _ _ _ (by decide))
  have L1 : Hid (s1.length = 16) := Lib.hid (by rw [← hE, stepM_len]; exact L0.out)
  have LR0 : Hid (r0.length = 16) := Lib.hid (by rw [← hr, List.length_set]; exact L0.out)
  have HE0 := Lib.hid hE
  have c1 := V0.out.cell a
  rw [wc_getD _ _ (by rw [L0.out]; omega)] at c1
  have c2 := V0.out.cell b
  rw [wc_getD _ _ (by rw [L0.out]; omega)] at c2
  have f1 := V0.out.frozen a
  have VR := V0.out.drew.set a (.int .u32 (z0 : Int))
  rw [wc_set, hr] at VR
  have GR := Lib.hid (grownTrans G0.out (grownTrans (grownDrew _ (some g)) (grownSet _ g a (.int .u32 (z0 : Int)))))
  have hX := Bits.xor_u32 (r0.getD d 0) (r0.getD a 0) (OR0.out.getD d) (OR0.out.getD a)
  rw [hx] at hX
  have HX := Lib.hid hX
  have HS := Lib.hid hs
  generalize s0.getD a 0 = p1 at *
  generalize s0.getD b 0 = p2 at *
  have wz : IntKind.u32.wrap ((p1 : Int) + (p2 : Int)) = (z0 : Int) := by rw [IntKind.wrap_u32]; omega
  have VR := Lib.hid VR
  clear hz hr hx hs hE hX
  subst hw0
  go_enter Try.func50, Try.ntmps50
  go_upto_region 0 with (fail)
  refine Phase.wp_region_phases [([], [0, 1, 2, 3, 4, 5, 6, 7, 8, 9, 10, 11, 12], some 13)] (fun W => W = (w).drew) (by kernel_rfl) (by kernel_rfl) (fun _ _ d _ _ h => by cases d <;> exact h) rfl ?_
  refine Phase.g_alone rfl (Phase.p_nil ?_)
  iterate 13 (refine Phase.q_step rfl (fun K hK => ?_); go_simp; refine hK _ ?_; clear hK K)
  refine Phase.q_nil ?_
  rintro _ rfl K hK
  go_simp
  obtain ⟨v0, hv⟩ : ∃ v, (w).drew.setCell ⟨g, a, none⟩ (.int .u32 (z0 : Int)) = v := ⟨_, rfl⟩
  rw [hv] at VR GR
  refine hK _ _ ⟨fun W => W = v0, hv, ?_⟩
  clear hK K c1 c2 f1 hv wz
  refine Phase.g_nil ?_
  intro wz hz
  rw [show wz = v0 from hz]
  clear hz
  have c1 := VR.out.cell d
  rw [wc_getD _ _ (by rw [LR0.out]; omega)] at c1
  have c2 := VR.out.cell a
  rw [wc_getD _ _ (by rw [LR0.out]; omega)] at c2
  have f1 := VR.out.frozen d
  have hX := HX.out
  generalize r0.getD d 0 = p1 at *
  generalize r0.getD a 0 = p2 at *
  have HC := Lib.hid (left_any 16 x0 (by decide) (by decide) X0.out 16 rfl v0.drew)
  have VS := VR.out.drew.set d (.int .u32 (rotl 16 x0 : Int))
  rw [wc_set, HS.out] at VS
  have GS := grownTrans GR.out (grownTrans (grownDrew _ (some g)) (grownSet _ g d (.int .u32 (rotl 16 x0 : Int))))
  have V1 := Lib.hid VS
  have G1 := Lib.hid GS
  clear VS GS VR GR HX HS
  go_upto_region 1 with (fail)
  refine Phase.wp_region_phases [([0, 1, 14], [2, 3, 4, 5, 6, 7, 8, 9, 10, 11, 12], some 13), ([], [15], some 16)] (fun W => W = v0.drew) (by kernel_rfl) (by kernel_rfl) (fun _ _ d _ _ h => by cases d <;> exact h) rfl ?_
  refine Phase.g_alone rfl ?_
  iterate 3 (refine Phase.p_step rfl (fun K hK => ?_); go_simp; refine hK _ ?_; clear hK K)
  refine Phase.p_nil ?_
  iterate 11 (refine Phase.q_step rfl (fun K hK => ?_); go_simp; refine hK _ ?_; clear hK K)
  refine Phase.q_nil ?_
  rintro _ rfl K hK
  go_simp
  refine HC.out.mono ?_
  rintro e wy ⟨rfl, rfl⟩
  refine hK _ _ ⟨fun W => W = v0.drew, rfl, ?_⟩
  clear hK K HC
  refine Phase.g_alone rfl (Phase.p_nil ?_)
  iterate 1 (refine Phase.q_step rfl (fun K hK => ?_); go_simp; refine hK _ ?_; clear hK K)
  refine Phase.q_nil ?_
  rintro _ rfl K hK
  go_simp
  obtain ⟨w1, hv⟩ : ∃ v, v0.drew.setCell ⟨g, d, none⟩ (.int .u32 (rotl 16 x0 : Int)) = v := ⟨_, rfl⟩
  rw [hv] at V1 G1
  refine hK _ _ ⟨fun W => W = w1, hv, ?_⟩
  clear hK K c1 c2 f1 hv hX
  refine Phase.g_nil ?_
  intro wz hz
  rw [show wz = w1 from hz]
  clear hz wz
  obtain ⟨z1, hz⟩ : ∃ z, (s1.getD c 0 + s1.getD d 0) % 4294967296 = z := ⟨_, rfl⟩
  obtain ⟨r1, hr⟩ : ∃ r, s1.set c z1 = r := ⟨_, rfl⟩
  obtain ⟨x1, hx⟩ : ∃ x, r1.getD b 0 ^^^ r1.getD c 0 = x := ⟨_, rfl⟩
  obtain ⟨s2, hs⟩ : ∃ S, r1.set b (rotl 12 x1) = S := ⟨_, rfl⟩
  have hE : stepM s1 c d b 12 = s2 := by unfold stepM; simp only [hz, hr, hx, hs]
  have OR1 : Hid (Ok r1) := Lib.hid (by rw [← hr]; exact O1.out.set c z1 (by omega))
  have X1 : Hid (x1 < 4294967296) := Lib.hid (by rw [← hx]; exact xor_lt _ _ (OR1.out.getD b) (OR1.out.getD c))
  have O2 : Hid (Ok s2) := Lib.hid (by rw [← hE]; exact stepM_ok O1.out _ _ _ _ (by decide))
  have L2 : Hid (s2.length = 16) := Lib.hid (by rw [← hE, stepM_len]; exact L1.out)
  have LR1 : Hid (r1.length = 16) := Lib.hid (by rw [← hr, List.length_set]; exact L1.out)
  have HE1 := Lib.hid hE
  have c1 := V1.out.cell c
  rw [wc_getD _ _ (by rw [L1.out]; omega)] at c1
  have c2 := V1.out.cell d
  rw [wc_getD _ _ (by rw [L1.out]; omega)] at c2
  have f1 := V1.out.frozen c
  have VR := V1.out.drew.set c (.int .u32 (z1 : Int))
  rw [wc_set, hr] at VR
  have GR := Lib.hid (grownTrans G1.out (grownTrans (grownDrew _ (some g)) (grownSet _ g c (.int .u32 (z1 : Int)))))
  have hX := Bits.xor_u32 (r1.getD b 0) (r1.getD c 0) (OR1.out.getD b) (OR1.out.getD c)
  rw [hx] at hX
  have HX := Lib.hid hX
  have HS := Lib.hid hs
  generalize s1.getD c 0 = p1 at *
  generalize s1.getD d 0 = p2 at *
  have wz : IntKind.u32.wrap ((p1 : Int) + (p2 : Int)) = (z1 : Int) := by rw [IntKind.wrap_u32]; omega
  have VR := Lib.hid VR
  clear hz hr hx hs hE hX
  go_upto_region 2 with (fail)
  refine Phase.wp_region_phases [([], [0, 1, 2, 3, 4, 5, 6, 7, 8, 9, 10, 11, 12], some 13)] (fun W => W = (w1).drew) (by kernel_rfl) (by kernel_rfl) (fun _ _ d _ _ h => by cases d <;> exact h) rfl ?_
  refine Phase.g_alone rfl (Phase.p_nil ?_)
  iterate 13 (refine Phase.q_step rfl (fun K hK => ?_); go_simp; refine hK _ ?_; clear hK K)
  refine Phase.q_nil ?_
  rintro _ rfl K hK
  go_simp
  obtain ⟨v1, hv⟩ : ∃ v, (w1).drew.setCell ⟨g, c, none⟩ (.int .u32 (z1 : Int)) = v := ⟨_, rfl⟩
  rw [hv] at VR GR
  refine hK _ _ ⟨fun W => W = v1, hv, ?_⟩
  clear hK K c1 c2 f1 hv wz
  refine Phase.g_nil ?_
  intro wz hz
  rw [show wz = v1 from hz]
  clear hz
  have c1 := VR.out.cell b
  rw [wc_getD _ _ (by rw [LR1.out]; omega)] at c1
  have c2 := VR.out.cell c
  rw [wc_getD _ _ (by rw [LR1.out]; omega)] at c2
  have f1 := VR.out.frozen b
  have hX := HX.out
  generalize r1.getD b 0 = p1 at *
  generalize r1.getD c 0 = p2 at *
  have HC := Lib.hid (left_any 12 x1 (by decide) (by decide) X1.out 12 rfl v1.drew)
  have VS := VR.out.drew.set b (.int .u32 (rotl 12 x1 : Int))
  rw [wc_set, HS.out] at VS
  have GS := grownTrans GR.out (grownTrans (grownDrew _ (some g)) (grownSet _ g b (.int .u32 (rotl 12 x1 : Int))))
  have V2 := Lib.hid VS
  have G2 := Lib.hid GS
  clear VS GS VR GR HX HS
  go_upto_region 3 with (fail)
  refine Phase.wp_region_phases [([0, 1, 14], [2, 3, 4, 5, 6, 7, 8, 9, 10, 11, 12], some 13), ([], [15], some 16)] (fun W => W = v1.drew) (by kernel_rfl) (by kernel_rfl) (fun _ _ d _ _ h => by cases d <;> exact h) rfl ?_
  refine Phase.g_alone rfl ?_
  iterate 3 (refine Phase.p_step rfl (fun K hK => ?_); go_simp; refine hK _ ?_; clear hK K)
  refine Phase.p_nil ?_
  iterate 11 (refine Phase.q_step rfl (fun K hK => ?_); go_simp; refine hK _ ?_; clear hK K)
  refine Phase.q_nil ?_
  rintro _ rfl K hK
  go_simp
  refine HC.out.mono ?_
  rintro e wy ⟨rfl, rfl⟩
  refine hK _ _ ⟨fun W => W = v1.drew, rfl, ?_⟩
  clear hK K HC
  refine Phase.g_alone rfl (Phase.p_nil ?_)
  iterate 1 (refine Phase.q_step rfl (fun K hK => ?_); go_simp; refine hK _ ?_; clear hK K)
  refine Phase.q_nil ?_
  rintro _ rfl K hK
  go_simp
  obtain ⟨w2, hv⟩ : ∃ v, v1.drew.setCell ⟨g, b, none⟩ (.int .u32 (rotl 12 x1 : Int)) = v := ⟨_, rfl⟩
  rw [hv] at V2 G2
  refine hK _ _ ⟨fun W => W = w2, hv, ?_⟩
  clear hK K c1 c2 f1 hv hX
  refine Phase.g_nil ?_
  intro wz hz
  rw [show wz = w2 from hz]
  clear hz wz
  obtain ⟨z2, hz⟩ : ∃ z, (s2.getD a 0 + s2.getD b 0) % 4294967296 = z := ⟨_, rfl⟩
  obtain ⟨r2, hr⟩ : ∃ r, s2.set a z2 = r := ⟨_, rfl⟩
  obtain ⟨x2, hx⟩ : ∃ x, r2.getD d 0 ^^^ r2.getD a 0 = x := ⟨_, rfl⟩
  obtain ⟨s3, hs⟩ : ∃ S, r2.set d (rotl 8 x2) = S := ⟨_, rfl⟩
  have hE : stepM s2 a b d 8 = s3 := by unfold stepM; simp only [hz, hr, hx, hs]
  have OR2 : Hid (Ok r2) := Lib.hid (by rw [← hr]; exact O2.out.set a z2 (by omega))
  have X2 : Hid (x2 < 4294967296) := Lib.hid (by rw [← hx]; exact xor_lt _ _ (OR2.out.getD d) (OR2.out.getD a))
  have O3 : Hid (Ok s3) := Lib.hid (by rw [← hE]; exact stepM_ok O2.out _ _ _ _ (by decide))
  have L3 : Hid (s3.length = 16) := Lib.hid (by rw [← hE, stepM_len]; exact L2.out)
  have LR2 : Hid (r2.length = 16) := Lib.hid (by rw [← hr, List.length_set]; exact L2.out)
  have HE2 := Lib.hid hE
  have c1 := V2.out.cell a
  rw [wc_getD _ _ (by rw [L2.out]; omega)] at c1
  have c2 := V2.out.cell b
  rw [wc_getD _ _ (by rw [L2.out]; omega)] at c2
  have f1 := V2.out.frozen a
  have VR := V2.out.drew.set a (.int .u32 (z2 : Int))
  rw [wc_set, hr] at VR
  have GR := Lib.hid (grownTrans G2.out (grownTrans (grownDrew _ (some g)) (grownSet _ g a (.int .u32 (z2 : Int)))))
  have hX := Bits.xor_u32 (r2.getD d 0) (r2.getD a 0) (OR2.out.getD d) (OR2.out.getD a)
  rw [hx] at hX
  have HX := Lib.hid hX
  have HS := Lib.hid hs
  generalize s2.getD a 0 = p1 at *
  generalize s2.getD b 0 = p2 at *
  have wz : IntKind.u32.wrap ((p1 : Int) + (p2 : Int)) = (z2 : Int) := by rw [IntKind.wrap_u32]; omega
  have VR := Lib.hid VR
  clear hz hr hx hs hE hX
  go_upto_region 4 with (fail)
  refine Phase.wp_region_phases [([], [0, 1, 2, 3, 4, 5, 6, 7, 8, 9, 10, 11, 12], some 13)] (fun W => W = (w2).drew) (by kernel_rfl) (by kernel_rfl) (fun _ _ d _ _ h => by cases d <;> exact h) rfl ?_
  refine Phase.g_alone rfl (Phase.p_nil ?_)
  iterate 13 (refine Phase.q_step rfl (fun K hK => ?_); go_simp; refine hK _ ?_; clear hK K)
  refine Phase.q_nil ?_
  rintro _ rfl K hK
  go_simp
  obtain ⟨v2, hv⟩ : ∃ v, (w2).drew.setCell ⟨g, a, none⟩ (.int .u32 (z2 : Int)) = v := ⟨_, rfl⟩
  rw [hv] at VR GR
  refine hK _ _ ⟨fun W => W = v2, hv, ?_⟩
  clear hK K c1 c2 f1 hv wz
  refine Phase.g_nil ?_
  intro wz hz
  rw [show wz = v2 from hz]
  clear hz
  have c1 := VR.out.cell d
  rw [wc_getD _ _ (by rw [LR2.out]; omega)] at c1
  have c2 := VR.out.cell a
  rw [wc_getD _ _ (by rw [LR2.out]; omega)] at c2
  have f1 := VR.out.frozen d
  have hX := HX.out
  generalize r2.getD d 0 = p1 at *
  generalize r2.getD a 0 = p2 at *
  have HC := Lib.hid (left_any 8 x2 (by decide) (by decide) X2.out 8 rfl v2.drew)
  have VS := VR.out.drew.set d (.int .u32 (rotl 8 x2 : Int))
  rw [wc_set, HS.out] at VS
  have GS := grownTrans GR.out (grownTrans (grownDrew _ (some g)) (grownSet _ g d (.int .u32 (rotl 8 x2 : Int))))
  have V3 := Lib.hid VS
  have G3 := Lib.hid GS
  clear VS GS VR GR HX HS
  go_upto_region 5 with (fail)
  refine Phase.wp_region_phases [([0, 1, 14], [2, 3, 4, 5, 6, 7, 8, 9, 10, 11, 12], some 13), ([], [15], some 16)] (fun W => W = v2.drew) (by kernel_rfl) (by kernel_rfl) (fun _ _ d _ _ h => by cases d <;> exact h) rfl ?_
  refine Phase.g_alone rfl ?_
  iterate 3 (refine Phase.p_step rfl (fun K hK => ?_); go_simp; refine hK _ ?_; clear hK K)
  refine Phase.p_nil ?_
  iterate 11 (refine Phase.q_step rfl (fun K hK => ?_); go_simp; refine hK _ ?_; clear hK K)
  refine Phase.q_nil ?_
  rintro _ rfl K hK
  go_simp
  refine HC.out.mono ?_
  rintro e wy ⟨rfl, rfl⟩
  refine hK _ _ ⟨fun W => W = v2.drew, rfl, ?_⟩
  clear hK K HC
  refine Phase.g_alone rfl (Phase.p_nil ?_)
  iterate 1 (refine Phase.q_step rfl (fun K hK => ?_); go_simp; refine hK _ ?_; clear hK K)
  refine Phase.q_nil ?_
  rintro _ rfl K hK
  go_simp
  obtain ⟨w3, hv⟩ : ∃ v, v2.drew.setCell ⟨g, d, none⟩ (.int .u32 (rotl 8 x2 : Int)) = v := ⟨_, rfl⟩
  rw [hv] at V3 G3
  refine hK _ _ ⟨fun W => W = w3, hv, ?_⟩
  clear hK K c1 c2 f1 hv hX
  refine Phase.g_nil ?_
  intro wz hz
  rw [show wz = w3 from hz]
  clear hz wz
  obtain ⟨z3, hz⟩ : ∃ z, (s3.getD c 0 + s3.getD d 0) % 4294967296 = z := ⟨_, rfl⟩
  obtain ⟨r3, hr⟩ : ∃ r, s3.set c z3 = r := ⟨_, rfl⟩
  obtain ⟨x3, hx⟩ : ∃ x, r3.getD b 0 ^^^ r3.getD c 0 = x := ⟨_, rfl⟩
  obtain ⟨s4, hs⟩ : ∃ S, r3.set b (rotl 7 x3) = S := ⟨_, rfl⟩
  have hE : stepM s3 c d b 7 = s4 := by unfold stepM; simp only [hz, hr, hx, hs]
  have OR3 : Hid (Ok r3) := Lib.hid (by rw [← hr]; exact O3.out.set c z3 (by omega))
  have X3 : Hid (x3 < 4294967296) := Lib.hid (by rw [← hx]; exact xor_lt _ _ (OR3.out.getD b) (OR3.out.getD c))
  have O4 : Hid (Ok s4) := Lib.hid (by rw [← hE]; exact stepM_ok O3.out _ _ _ _ (by decide))
  have L4 : Hid (s4.length = 16) := Lib.hid (by rw [← hE, stepM_len]; exact L3.out)
  have LR3 : Hid (r3.length = 16) := Lib.hid (by rw [← hr, List.length_set]; exact L3.out)
  have HE3 := Lib.hid hE
  have c1 := V3.out.cell c
  rw [wc_getD _ _ (by rw [L3.out]; omega)] at c1
  have c2 := V3.out.cell d
  rw [wc_getD _ _ (by rw [L3.out]; omega)] at c2
  have f1 := V3.out.frozen c
  have VR := V3.out.drew.set c (.int .u32 (z3 : Int))
  rw [wc_set, hr] at VR
  have GR := Lib.hid (grownTrans G3.out (grownTrans (grownDrew _ (some g)) (grownSet _ g c (.int .u32 (z3 : Int)))))
  have hX := Bits.xor_u32 (r3.getD b 0) (r3.getD c 0) (OR3.out.getD b) (OR3.out.getD c)
  rw [hx] at hX
  have HX := Lib.hid hX
  have HS := Lib.hid hs
  generalize s3.getD c 0 = p1 at *
  generalize s3.getD d 0 = p2 at *
  have wz : IntKind.u32.wrap ((p1 : Int) + (p2 : Int)) = (z3 : Int) := by rw [IntKind.wrap_u32]; omega
  have VR := Lib.hid VR
  clear hz hr hx hs hE hX
  go_upto_region 6 with (fail)
  refine Phase.wp_region_phases [([], [0, 1, 2, 3, 4, 5, 6, 7, 8, 9, 10, 11, 12], some 13)] (fun W => W = (w3).drew) (by kernel_rfl) (by kernel_rfl) (fun _ _ d _ _ h => by cases d <;> exact h) rfl ?_
  refine Phase.g_alone rfl (Phase.p_nil ?_)
  iterate 13 (refine Phase.q_step rfl (fun K hK => ?_); go_simp; refine hK _ ?_; clear hK K)
  refine Phase.q_nil ?_
  rintro _ rfl K hK
  go_simp
  obtain ⟨v3, hv⟩ : ∃ v, (w3).drew.setCell ⟨g, c, none⟩ (.int .u32 (z3 : Int)) = v := ⟨_, rfl⟩
  rw [hv] at VR GR
  refine hK _ _ ⟨fun W => W = v3, hv, ?_⟩
  clear hK K c1 c2 f1 hv wz
  refine Phase.g_nil ?_
  intro wz hz
  rw [show wz = v3 from hz]
  clear hz
  have c1 := VR.out.cell b
  rw [wc_getD _ _ (by rw [LR3.out]; omega)] at c1
  have c2 := VR.out.cell c
  rw [wc_getD _ _ (by rw [LR3.out]; omega)] at c2
  have f1 := VR.out.frozen b
  have hX := HX.out
  generalize r3.getD b 0 = p1 at *
  generalize r3.getD c 0 = p2 at *
  have HC := Lib.hid (left_any 7 x3 (by decide) (by decide) X3.out 7 rfl v3.drew)
  have VS := VR.out.drew.set b (.int .u32 (rotl 7 x3 : Int))
  rw [wc_set, HS.out] at VS
  have GS := grownTrans GR.out (grownTrans (grownDrew _ (some g)) (grownSet _ g b (.int .u32 (rotl 7 x3 : Int))))
  have V4 := Lib.hid VS
  have G4 := Lib.hid GS
  clear VS GS VR GR HX HS
  go_upto_region 7 with (fail)
  refine Phase.wp_region_phases [([0, 1, 14], [2, 3, 4, 5, 6, 7, 8, 9, 10, 11, 12], some 13), ([], [15], some 16)] (fun W => W = v3.drew) (by kernel_rfl) (by kernel_rfl) (fun _ _ d _ _ h => by cases d <;> exact h) rfl ?_
  refine Phase.g_alone rfl ?_
  iterate 3 (refine Phase.p_step rfl (fun K hK => ?_); go_simp; refine hK _ ?_; clear hK K)
  refine Phase.p_nil ?_
  iterate 11 (refine Phase.q_step rfl (fun K hK => ?_); go_simp; refine hK _ ?_; clear hK K)
  refine Phase.q_nil ?_
  rintro _ rfl K hK
  go_simp
  refine HC.out.mono ?_
  rintro e wy ⟨rfl, rfl⟩
  refine hK _ _ ⟨fun W => W = v3.drew, rfl, ?_⟩
  clear hK K HC
  refine Phase.g_alone rfl (Phase.p_nil ?_)
  iterate 1 (refine Phase.q_step rfl (fun K hK => ?_); go_simp; refine hK _ ?_; clear hK K)
  refine Phase.q_nil ?_
  rintro _ rfl K hK
  go_simp
  obtain ⟨w4, hv⟩ : ∃ v, v3.drew.setCell ⟨g, b, none⟩ (.int .u32 (rotl 7 x3 : Int)) = v := ⟨_, rfl⟩
  rw [hv] at V4 G4
  refine hK _ _ ⟨fun W => W = w4, hv, ?_⟩
  clear hK K c1 c2 f1 hv hX
  refine Phase.g_nil ?_
  intro wz hz
  rw [show wz = w4 from hz]
  clear hz wz
  go_wp2
  exact bodyPost_end (v := .tuple #[]) (results_none (by rfl) _ _ _) rfl ⟨rfl, by rw [HQ.out, show quarter s0 a b c d = s4 by unfold quarter; rw [HE0.out, HE1.out, HE2.out, HE3.out]]; exact V4.out, G4.out⟩
end Go.Proofs.Ytohpgfefdlccmaa.StreamQuarterW

/-
  stream.rounds: what it hands back. Conditions: in the statement.
-/
namespace Go.Proofs.Ytohpgfefdlccmaa.StreamRoundsW
open Go.RowKit BytesW CellsW WordsW ArrW ArrG HashM HashTurnW StreamM StreamStepW StreamWW StreamQuarterW

theorem words_u : Try.prog.underlying 50 = some (.array 16 48) := by kernel_rfl
theorem words_size : (Try.prog.info? 50).map (·.size) = some 16 := by kernel_rfl

set_option maxHeartbeats 8000000 in
set_option maxRecDepth 100000 in
theorem rounds_any (S : List Nat) (w : World) (hl : S.length = 16) (ho : Ok S) :
    Calls Try.prog 36 #[.agg (wc S).toArray] w fun e w' => e = .returned (.agg (wc (StreamM.rounds S 20)).toArray) ∧ Below w.heap.size w w' := by
  have HL := Lib.hid hl
  have HO := Lib.hid ho
  clear hl ho
  go_enter Try.func36, Try.ntmps36
  go_upto_region 1 with (fail)
  generalize hW : World.alloc _ _ = W
  obtain ⟨H0, H1, hbw, hsz⟩ := start2 hW
  clear hW
  have a0 : Arr W w.heap.size 50 (wc (StreamM.rounds S 0)) := H0
  have a1 : Arr W (w.heap.size + 1) 50 (wc (List.replicate 16 0)) := H1
  have A0 := Lib.hid a0
  have A1 := Lib.hid a1
  have HBW := Lib.hid hbw
  have HSZ := Lib.hid hsz
  clear a0 a1 H0 H1 hbw hsz
  obtain ⟨g, hg⟩ : ∃ g, w.heap.size = g := ⟨_, rfl⟩
  rw [hg] at A0 A1 HBW HSZ
  have HG := Lib.hid hg
  simp only [hg]
  clear hg
  go_wp2
  go_loopw [5] (fun vr wr => ∃ r : Nat, r ≤ 10 ∧ vr = .int .i64 (r : Int) ∧ Arr wr g 50 (wc (StreamM.rounds S (2 * r))) ∧ W.grownBy wr (some g)) (fun vr _ => 10 - (intOf vr).toNat)
  case atStart => exact ⟨0, by omega, rfl, A0.out, grownRefl _ _⟩
  case round =>
    obtain ⟨r, hr, rfl, ar, gr⟩ := hrel
    have AR := Lib.hid ar
    have GR := Lib.hid gr
    clear ar gr
    by_cases hlt : r < 10
    · have ct : decide ((r : Int) < 10) = true := decide_eq_true (by omega)
      obtain ⟨t, ht⟩ : ∃ t, 2 * r = t := ⟨_, rfl⟩
      rw [ht] at AR
      have HT := Lib.hid ht
      clear ht
      go_wp2
      go_loopw [7] (fun vq wx => ∃ q : Nat, q ≤ 4 ∧ vq = .int .i64 (q : Int) ∧ Arr wx g 50 (wc (parts (StreamM.rounds S t) t q)) ∧ W.grownBy wx (some g)) (fun vq _ => 4 - (intOf vq).toNat)
      case atStart => exact ⟨0, by omega, rfl, AR.out, GR.out⟩
      case round =>
        obtain ⟨q, hq, rfl, aq, gq⟩ := hrel
        have AQ := Lib.hid aq
        have GQ := Lib.hid gq
        clear aq gq
        by_cases hlq : q < 4
        · have cq : decide ((q : Int) < 4) = true := decide_eq_true (by omega)
          obtain ⟨s, hs⟩ : ∃ s, parts (StreamM.rounds S t) t q = s := ⟨_, rfl⟩
          have HNx := Lib.hid (show parts (StreamM.rounds S t) t (q + 1) = quarter s q (4 + q) (8 + q) (12 + q) by
            rw [parts, hs, StreamM.part, if_neg (by have := HT.out; omega)])
          have hL0 : s.length = 16 := by rw [← hs, parts_len, rounds_len]; exact HL.out
          have hO0 : Ok s := by rw [← hs]; exact parts_ok (rounds_ok HO.out t) t q
          rw [hs] at AQ
          have HQ := Lib.hid (quarter_any g 50 s q (4 + q) (8 + q) (12 + q) wr AQ.out hL0 hO0 (by omega) (by omega) (by omega) (by omega))
          clear hs hL0 hO0
          go_wp2_with fail
          refine HQ.out.mono ?_
          clear HQ
          rintro e x ⟨rfl, ax, gx⟩
          rw [← HNx.out] at ax
          have AX := Lib.hid ax
          have GX := Lib.hid (grownTrans GQ.out gx)
          clear ax gx HNx
          go_wp2
          go_roundw
          case rel => exact ⟨q + 1, by omega, by go_num, AX.out, GX.out⟩
          case measure => simp [intOf]; omega
        · obtain rfl : q = 4 := by omega
          have cq : decide (((4 : Nat) : Int) < 4) = false := rfl
          have hrn : parts (StreamM.rounds S t) t 4 = StreamM.rounds S (t + 1) := rfl
          rw [hrn] at AQ
          clear hrn AR GR
          go_wp2
          go_loopw [19] (fun vp wx => ∃ q : Nat, q ≤ 4 ∧ vp = .int .i64 (q : Int) ∧ Arr wx g 50 (wc (parts (StreamM.rounds S (t + 1)) (t + 1) q)) ∧ W.grownBy wx (some g)) (fun vp _ => 4 - (intOf vp).toNat)
          case atStart => exact ⟨0, by omega, rfl, AQ.out, GQ.out⟩
          case round =>
            obtain ⟨q, hq, rfl, aq, gq⟩ := hrel
            have AQ := Lib.hid aq
            have GQ := Lib.hid gq
            clear aq gq
            by_cases hlq : q < 4
            · have cq : decide ((q : Int) < 4) = true := decide_eq_true (by omega)
              obtain ⟨s, hs⟩ : ∃ s, parts (StreamM.rounds S (t + 1)) (t + 1) q = s := ⟨_, rfl⟩
              have HNx := Lib.hid (show parts (StreamM.rounds S (t + 1)) (t + 1) (q + 1) = quarter s q (4 + (q + 1) % 4) (8 + (q + 2) % 4) (12 + (q + 3) % 4) by
                rw [parts, hs, StreamM.part, if_pos (by have := HT.out; omega)])
              have hL0 : s.length = 16 := by rw [← hs, parts_len, rounds_len]; exact HL.out
              have hO0 : Ok s := by rw [← hs]; exact parts_ok (rounds_ok HO.out (t + 1)) (t + 1) q
              rw [hs] at AQ
              have HQ := Lib.hid (quarter_any g 50 s q (4 + (q + 1) % 4) (8 + (q + 2) % 4) (12 + (q + 3) % 4) wr AQ.out hL0 hO0 (by omega) (by omega) (by omega) (by omega))
              clear hs hL0 hO0
              go_wp2_with fail
              refine HQ.out.mono ?_
              clear HQ
              rintro e x ⟨rfl, ax, gx⟩
              rw [← HNx.out] at ax
              have AX := Lib.hid ax
              have GX := Lib.hid (grownTrans GQ.out gx)
              clear ax gx HNx
              go_wp2
              go_roundw
              case rel =>
                repeat apply Exists.intro
                exact ⟨⟨q + 1, by omega, by go_num, AX.out, GX.out⟩, rfl⟩
              case measure => simp [intOf]; omega
            · obtain rfl : q = 4 := by omega
              have cq : decide (((4 : Nat) : Int) < 4) = false := rfl
              have hrn : parts (StreamM.rounds S (t + 1)) (t + 1) 4 = StreamM.rounds S (2 * (r + 1)) := by
                rw [← HT.out]
                rfl
              rw [hrn] at AQ
              clear hrn
              go_wp2
              go_roundw
              case rel => exact ⟨r + 1, by omega, by go_num, AQ.out, GQ.out⟩
              case measure => simp [intOf]; omega
    · obtain rfl : r = 10 := by omega
      have ct : decide (((10 : Nat) : Int) < 10) = false := rfl
      rw [show 2 * 10 = 20 from rfl] at AR
      obtain ⟨Z, hZ⟩ : ∃ Z, StreamM.rounds S 20 = Z := ⟨_, rfl⟩
      have N1 := Lib.hid (show (wc Z).length = 16 by rw [wc_length, ← hZ, rounds_len]; exact HL.out)
      rw [hZ] at AR
      have HZ := Lib.hid hZ
      have A1F := Lib.hid (arr_grown A1.out GR.out (by omega))
      have HBX := Lib.hid (HBW.out.trans (grownBelow GR.out (Nat.le_refl _) (Nat.le_trans (Nat.le_of_eq HG.out.symm) HBW.out.size)))
      have AF := Lib.hid (A1F.out.row (wc Z))
      have HBF := Lib.hid (below_row HBX.out (show g ≤ g + 1 by omega) (wc Z).toArray)
      clear hlt hZ
      go_wp2_with (first | (refine Arr.loadL AR.out rfl 50 (.tmp 1) rfl rfl words_u rfl words_size N1.out ?_) | (refine Arr.storeL A1F.out rfl 50 (.tmp 2) (.tmp 38) rfl rfl (wc Z) rfl words_size (by rfl) N1.out (wc_one _) ?_))
      refine bodyPost_ret (v := .agg (wc Z).toArray) (by exact AF.out.ret rfl _ rfl words_u rfl words_size N1.out) rfl ⟨by rw [HZ.out], by rw [HG.out]; exact HBF.out⟩
end Go.Proofs.Ytohpgfefdlccmaa.StreamRoundsW

/-
  stream.read: what it makes of a part of a variable of sixteen words. Conditions: in the statement.
-/
namespace Go.Proofs.Ytohpgfefdlccmaa.StreamReadW
open Go.RowKit BytesW CellsW WordsW ArrW ArrG HashM HashTurnW StreamM StreamStepW StreamPutW StreamWW StreamRoundsW

theorem or_step (v y j : Nat) (hj : j ≤ 3) (hv : v < 2 ^ (8 * j)) (hy : y < 256) : bits .or .u32 (v : Int) ((y : Int) * 2 ^ (8 * j) % 4294967296) = ((v + 2 ^ (8 * j) * y : Nat) : Int) := by
  have hp : 2 ^ (8 * j) ≤ 2 ^ 24 := Nat.pow_le_pow_right (by decide) (by omega)
  have h24 : (2 : Nat) ^ 24 = 16777216 := by decide
  have hlt : y * 2 ^ (8 * j) < 4294967296 := by
    have h1 : y * 2 ^ (8 * j) ≤ 255 * 2 ^ (8 * j) := Nat.mul_le_mul_right _ (by omega)
    omega
  have e1 : (y : Int) * 2 ^ (8 * j) % 4294967296 = ((2 ^ (8 * j) * y : Nat) : Int) := by
    have e : (y : Int) * 2 ^ (8 * j) = ((y * 2 ^ (8 * j) : Nat) : Int) := by push_cast; rfl
    rw [e, Nat.mul_comm]
    rw [Nat.mul_comm] at hlt
    omega
  rw [e1, Bits.or_u32 _ _ (by omega) (by rw [Nat.mul_comm]; exact hlt), Nat.or_comm, ← Nat.two_pow_add_eq_or_of_lt hv, Nat.add_comm]
theorem val4_snoc (l : List UInt8) (y : UInt8) : val4 (l ++ [y]) = val4 l + 256 ^ l.length * y.toNat := by
  induction l with
  | nil => simp [val4]
  | cons x r ih =>
    rw [List.cons_append, val4, ih, val4, List.length_cons, Nat.pow_succ, Nat.mul_add, Nat.add_assoc]
    congr 2
    rw [Nat.mul_comm (256 ^ r.length) 256, Nat.mul_assoc]
theorem val4_next (b : List UInt8) (m j : Nat) (h : m + j < b.length) : val4 ((b.drop m).take (j + 1)) = val4 ((b.drop m).take j) + 2 ^ (8 * j) * b[m + j].toNat := by
  have h1 : j < (b.drop m).length := by rw [List.length_drop]; omega
  rw [List.take_succ_eq_append_getElem h1, val4_snoc, List.length_take, Nat.min_eq_left (by omega), List.getElem_drop, show (256 : Nat) = 2 ^ 8 from rfl, ← Nat.pow_mul]
theorem val4_take_lt (b : List UInt8) (m j : Nat) : val4 ((b.drop m).take j) < 2 ^ (8 * j) := by
  have h := val4_lt ((b.drop m).take j)
  have h2 : ((b.drop m).take j).length ≤ j := by rw [List.length_take]; omega
  have h3 : 256 ^ ((b.drop m).take j).length ≤ 256 ^ j := Nat.pow_le_pow_right (by decide) h2
  rw [show (2 : Nat) ^ (8 * j) = 256 ^ j by rw [show (256 : Nat) = 2 ^ 8 from rfl, ← Nat.pow_mul]]
  omega

/-- The first k words read. -/
def rdT (X : List Nat) (off : Nat) (b : List UInt8) (k : Nat) : List Nat := X.take off ++ lwords (b.take (4 * k)) ++ X.drop (off + k)
theorem rdT_zero (X : List Nat) (off : Nat) (b : List UInt8) : rdT X off b 0 = X := by simp [rdT, lwords]
theorem rd_pre (X : List Nat) (off : Nat) (b : List UInt8) (k : Nat) (h : off ≤ X.length) (hb : 4 * k ≤ b.length) : (X.take off ++ lwords (b.take (4 * k))).length = off + k := by
  rw [List.length_append, List.length_take, lwords_len, List.length_take]; omega
theorem rdT_len (X : List Nat) (off : Nat) (b : List UInt8) (k : Nat) (h : off + k ≤ X.length) (hb : 4 * k ≤ b.length) : (rdT X off b k).length = X.length := by
  unfold rdT
  rw [List.length_append, rd_pre X off b k (by omega) hb, List.length_drop]; omega
theorem rdT_at (X : List Nat) (off : Nat) (b : List UInt8) (k : Nat) (h : off + k < X.length) (hb : 4 * k ≤ b.length) : (rdT X off b k).getD (off + k) 0 = X.getD (off + k) 0 := by
  unfold rdT
  rw [List.getD_eq_getElem?_getD, List.getD_eq_getElem?_getD, List.getElem?_append_right (by rw [rd_pre X off b k (by omega) hb]; exact Nat.le_refl _), rd_pre X off b k (by omega) hb, Nat.sub_self, List.getElem?_drop, Nat.add_zero]
theorem rdT_set (X : List Nat) (off : Nat) (b : List UInt8) (k : Nat) (h : off + k < X.length) (hb : 4 * k + 4 ≤ b.length) : (rdT X off b k).set (off + k) (val4 ((b.drop (4 * k)).take 4)) = rdT X off b (k + 1) := by
  unfold rdT
  rw [lwords_more b k hb, List.set_append, if_neg (by rw [rd_pre X off b k (by omega) (by omega)]; omega), rd_pre X off b k (by omega) (by omega), Nat.sub_self, List.drop_eq_getElem_cons h, List.set_cons_zero, show off + (k + 1) = off + k + 1 by omega]
  simp only [List.append_assoc, List.singleton_append]
/-- .. and word k of its first j bytes. -/
def rdJ (X : List Nat) (off : Nat) (b : List UInt8) (k j : Nat) : List Nat := (rdT X off b k).set (off + k) (val4 ((b.drop (4 * k)).take j))
theorem rdJ_zero (X : List Nat) (off : Nat) (b : List UInt8) (k : Nat) (h : off + k < X.length) (hb : 4 * k ≤ b.length) (hz : X.getD (off + k) 0 = 0) : rdJ X off b k 0 = rdT X off b k := by
  unfold rdJ
  have h1 := rdT_at X off b k h hb
  have h2 := rdT_len X off b k (by omega) hb
  rw [hz] at h1
  rw [show val4 ((b.drop (4 * k)).take 0) = 0 by simp [val4]]
  apply List.ext_getElem
  · simp
  · intro i h3 h4
    rw [List.getElem_set]
    split
    · rename_i e
      subst e
      rw [List.getD_eq_getElem?_getD, List.getElem?_eq_getElem h4] at h1
      exact h1.symm
    · rfl

set_option maxHeartbeats 8000000 in
set_option maxRecDepth 100000 in
theorem read_any (g off n c : Nat) (ad : Addr) (had : ∀ k, ad.add k = ⟨g, off + k, none⟩) (T : TypeId) (X : List Nat) (A : Option Addr) (b : List UInt8) (c' : Nat) (w : World) (hv : Arr w g T (wc X)) (hX : off + n ≤ X.length) (hXl : X.length ≤ 1000) (hz : ∀ k, k < n → X.getD (off + k) 0 = 0) (hb : b.length = 4 * n) (hA : Bs w w.heap.size A b) (hne : 0 < b.length → ∀ a, A = some a → a.block ≠ g) :
    Calls Try.prog 35 #[.slice (some ad) n c, .slice A b.length c'] w fun e w' => e = .returned (.tuple #[]) ∧ Arr w' g T (wc (X.take off ++ lwords b ++ X.drop (off + n))) ∧ w.grownBy w' (some g) := by
  have HAd := Lib.hid had
  have HV := Lib.hid hv
  have HX := Lib.hid hX
  have HXl := Lib.hid hXl
  have HZ := Lib.hid hz
  have HB := Lib.hid hb
  have HA := Lib.hid hA
  have HN := Lib.hid hne
  have hn1 : n ≤ 1000 := by omega
  clear had hv hX hXl hz hb hA hne
  go_enter Try.func35, Try.ntmps35
  go_wp2
  go_loopw [8] (fun vk wr => ∃ k : Nat, k ≤ n ∧ vk = .int .i64 (k : Int) ∧ Arr wr g T (wc (rdT X off b k)) ∧ w.grownBy wr (some g)) (fun vk _ => n - (intOf vk).toNat)
  case atStart => exact ⟨0, by omega, rfl, by rw [rdT_zero]; exact HV.out, grownRefl _ _⟩
  case round =>
    obtain ⟨k, hk, rfl, ak, gk⟩ := hrel
    have AK := Lib.hid ak
    have GK := Lib.hid gk
    clear ak gk
    by_cases hlt : k < n
    · have ct : decide ((k : Int) < (n : Int)) = true := decide_eq_true (by omega)
      go_wp2
      go_loopw [11] (fun vj wx => ∃ j : Nat, j ≤ 4 ∧ vj = .int .i64 (j : Int) ∧ Arr wx g T (wc (rdJ X off b k j)) ∧ w.grownBy wx (some g)) (fun vj _ => 4 - (intOf vj).toNat)
      case atStart => exact ⟨0, by omega, rfl, by rw [rdJ_zero X off b k (by have := HX.out; omega) (by have := HB.out; omega) (HZ.out k hlt)]; exact AK.out, GK.out⟩
      case round =>
        obtain ⟨j, hj, rfl, aj, gj⟩ := hrel
        have AJ := Lib.hid aj
        have GJ := Lib.hid gj
        clear aj gj
        by_cases hlj : j < 4
        · have cj : decide ((j : Int) < 4) = true := decide_eq_true (by omega)
          have hpb : 4 * k + j < b.length := by have := HB.out; omega
          have HNx := Lib.hid (show rdJ X off b k (j + 1) = (rdJ X off b k j).set (off + k) (val4 ((b.drop (4 * k)).take (j + 1))) by unfold rdJ; rw [List.set_set])
          have hvn := val4_next b (4 * k) j hpb
          have hlen : (rdJ X off b k j).length = X.length := by unfold rdJ; rw [List.length_set, rdT_len X off b k (by have := HX.out; omega) (by have := HB.out; omega)]
          have hat : (rdJ X off b k j).getD (off + k) 0 = val4 ((b.drop (4 * k)).take j) := by
            unfold rdJ
            rw [List.getD_eq_getElem?_getD, List.getElem?_set_self (by rw [rdT_len X off b k (by have := HX.out; omega) (by have := HB.out; omega)]; have := HX.out; omega)]
            rfl
          have co := AJ.out.cell (off + k)
          rw [wc_getD _ _ (by rw [hlen]; have := HX.out; omega), hat, ← HAd.out k] at co
          have fo := AJ.out.frozen (off + k)
          rw [← HAd.out k] at fo
          have hvl := val4_take_lt b (4 * k) j
          obtain ⟨ab, rfl, _, cb⟩ := (bs_keep HA.out GJ.out HN.out).at_ hpb
          obtain ⟨m, hm⟩ : ∃ m, 4 * k = m := ⟨_, rfl⟩
          obtain ⟨v, hv⟩ : ∃ v, val4 ((b.drop (4 * k)).take j) = v := ⟨_, rfl⟩
          obtain ⟨y, hy⟩ : ∃ y, b[4 * k + j].toNat = y := ⟨_, rfl⟩
          have hy256 : y < 256 := by rw [← hy]; exact (b[4 * k + j]).toNat_lt
          obtain ⟨v2, hv2⟩ : ∃ v2, val4 ((b.drop (4 * k)).take (j + 1)) = v2 := ⟨_, rfl⟩
          rw [hy, hv, hv2] at hvn
          rw [hy] at cb
          rw [hv] at co hvl
          rw [hv2] at HNx
          have hor := or_step v y j (by omega) hvl hy256
          rw [← hvn] at hor
          rw [hm] at cb
          obtain ⟨p, hp⟩ : ∃ p, m + j = p := ⟨_, rfl⟩
          rw [hp] at cb
          have e1 : IntKind.i64.wrap (4 * (k : Int)) = (m : Int) := by rw [IntWalk.i64_in _ (by omega)]; omega
          have e2 : IntKind.i64.wrap ((m : Int) + (j : Int)) = (p : Int) := by rw [IntWalk.i64_in _ (by omega)]; omega
          have ip : (p : Int) < (b.length : Int) := by omega
          obtain ⟨sh, hsh⟩ : ∃ sh, 8 * j = sh := ⟨_, rfl⟩
          have wsh : IntKind.i64.wrap (8 * (j : Int)) = (sh : Int) := by rw [IntWalk.i64_in _ (by omega)]; omega
          rw [hsh] at hor
          have hsm : sh ≤ 24 := by omega
          have ik : (k : Int) < (n : Int) := by omega
          have wy : IntKind.u32.wrap (y : Int) = (y : Int) := by rw [IntKind.wrap_u32]; omega
          have hor' : bits .or .u32 (v : Int) (IntKind.u32.wrap ((y : Int) * 2 ^ sh)) = (v2 : Int) := by rw [IntKind.wrap_u32]; exact hor
          have HOr := Lib.hid hor'
          have an := AJ.out.drew.set (off + k) (.int .u32 (v2 : Int))
          rw [wc_set, ← HNx.out, ← HAd.out k] at an
          have gn := grownTrans GJ.out (grownTrans (grownDrew wr (some g)) (grownSet wr.drew g (off + k) (.int .u32 (v2 : Int))))
          rw [← HAd.out k] at gn
          have AN := Lib.hid an
          have GN := Lib.hid gn
          clear hm hv hy hv2 hvn hp hsh hat hlen hvl hor an gn hpb hor'
          go_upto_region 6 with (fail)
          refine Phase.wp_region_phases [([], [0, 1, 2, 3, 4, 5, 6, 7, 8, 9, 10, 11, 12, 13, 14, 15, 16], some 17)] (fun W => W = wr.drew) (by kernel_rfl) (by kernel_rfl) (fun _ _ d _ _ h => by cases d <;> exact h) rfl ?_
          refine Phase.g_alone rfl (Phase.p_nil ?_)
          iterate 17 (refine Phase.q_step rfl (fun K hK => ?_); go_simp; refine hK _ ?_; clear hK K)
          refine Phase.q_nil ?_
          rintro _ rfl K hK
          go_simp
          rw [HOr.out]
          obtain ⟨w2, hw2⟩ : ∃ x, wr.drew.setCell (ad.add k) (.int .u32 (v2 : Int)) = x := ⟨_, rfl⟩
          rw [hw2] at AN GN
          refine hK _ _ ⟨fun W => W = w2, hw2, ?_⟩
          clear hK K hw2 co fo cb
          refine Phase.g_nil ?_
          intro wz hz
          rw [show wz = w2 from hz]
          clear hz
          go_wp2
          go_roundw
          case rel => exact ⟨j + 1, by omega, by go_num, AN.out, GN.out⟩
          case measure => simp [intOf]; omega
        · obtain rfl : j = 4 := by omega
          have cj : decide (((4 : Nat) : Int) < 4) = false := rfl
          have HNx := Lib.hid (rdT_set X off b k (by have := HX.out; omega) (by have := HB.out; omega))
          have AF := Lib.hid (show Arr wr g T (wc (rdT X off b (k + 1))) by rw [← HNx.out]; exact AJ.out)
          clear AK GK AJ HNx
          go_wp2
          go_roundw
          case rel => exact ⟨k + 1, by omega, by go_num, AF.out, GJ.out⟩
          case measure => simp [intOf]; omega
    · obtain rfl : k = n := by omega
      have ct : decide ((k : Int) < (k : Int)) = false := decide_eq_false (by omega)
      have hE : rdT X off b k = X.take off ++ lwords b ++ X.drop (off + k) := by unfold rdT; rw [show b.take (4 * k) = b from List.take_of_length_le (by have := HB.out; omega)]
      rw [hE] at AK
      clear hE
      go_wp2
      exact bodyPost_end (v := .tuple #[]) (results_none (by rfl) _ _ _) rfl ⟨rfl, AK.out, GK.out⟩
end Go.Proofs.Ytohpgfefdlccmaa.StreamReadW

/-
  stream.produce: what it hands back. Conditions: in the statement.
-/
namespace Go.Proofs.Ytohpgfefdlccmaa.StreamProduceW
open Go.RowKit BytesW CellsW WordsW ArrW ArrG HashM HashTurnW StreamM StreamStepW StreamWW StreamQuarterW StreamRoundsW

theorem a64 : Try.prog.underlying 52 = some (.array 64 5) := by kernel_rfl
theorem a64_size : (Try.prog.info? 52).map (·.size) = some 64 := by kernel_rfl

/-- The first n bytes written. -/
def outT (s was : List Nat) (n : Nat) : List UInt8 := (List.range n).map (byteAt s was) ++ List.replicate (64 - n) 0
theorem outT_len (s was : List Nat) (n : Nat) (h : n ≤ 64) : (outT s was n).length = 64 := by simp [outT]; omega
theorem outT_set (s was : List Nat) (n : Nat) (h : n < 64) : (outT s was n).set n (byteAt s was n) = outT s was (n + 1) := by
  unfold outT
  rw [List.set_append, if_neg (by simp), List.length_map, List.length_range, Nat.sub_self, show 64 - n = (64 - (n + 1)) + 1 by omega, List.replicate_succ, List.set_cons_zero, List.range_succ, List.map_append, List.append_assoc]
  rfl
theorem outT_all (s was : List Nat) : outT s was 64 = (List.range 64).map (byteAt s was) := by simp [outT]

set_option maxHeartbeats 8000000 in
set_option maxRecDepth 100000 in
theorem produce_any (S : List Nat) (w : World) (hl : S.length = 16) (ho : Ok S) :
    Calls Try.prog 27 #[.agg (wc S).toArray] w fun e w' => e = .returned (.agg (Lib.byteCells ((List.range 64).map (byteAt (StreamM.rounds S 20) S))).toArray) ∧ Below w.heap.size w w' := by
  have HL := Lib.hid hl
  have HO := Lib.hid ho
  have NS := Lib.hid (show (wc S).length = 16 by rw [wc_length]; exact hl)
  clear hl ho
  go_enter Try.func27, Try.ntmps27
  go_upto_region 2 with (fail)
  generalize hW : World.alloc _ _ = W
  obtain ⟨H0, H1, H2, hbw, hsz⟩ := start3 hW
  clear hW
  have a0 : Arr W w.heap.size 50 (wc S) := H0
  have a1 : Arr W (w.heap.size + 1) 52 (Lib.byteCells (List.replicate 64 0)) := H1
  have a2 : Arr W (w.heap.size + 2) 52 (Lib.byteCells (List.replicate 64 0)) := H2
  have A0 := Lib.hid a0
  have A1 := Lib.hid a1
  have A2 := Lib.hid a2
  have HBW := Lib.hid hbw
  have HSZ := Lib.hid hsz
  clear a0 a1 a2 H0 H1 H2 hbw hsz
  obtain ⟨g, hg⟩ : ∃ g, w.heap.size = g := ⟨_, rfl⟩
  have HBw : Hid (Below g w W) := Lib.hid (by rw [← hg]; exact HBW.out)
  rw [hg] at A0 A1 A2 HSZ
  have HG := Lib.hid hg
  simp only [hg]
  have HR := Lib.hid (rounds_any S W HL.out HO.out)
  clear hg HBW
  go_wp2_with (refine Arr.loadL A0.out rfl 50 (.tmp 1) rfl rfl words_u rfl words_size NS.out ?_)
  refine HR.out.mono ?_
  clear HR
  rintro e w1 ⟨rfl, b1⟩
  obtain ⟨Z, hZ⟩ : ∃ Z, StreamM.rounds S 20 = Z := ⟨_, rfl⟩
  have HLZ := Lib.hid (show Z.length = 16 by rw [← hZ, rounds_len]; exact HL.out)
  have HZ := Lib.hid hZ
  rw [hZ]
  have A01 := Lib.hid (A0.out.below b1 A0.out.lt)
  have A11 := Lib.hid (A1.out.below b1 A1.out.lt)
  have a2 := A2.out.below b1 A2.out.lt
  rw [show List.replicate 64 0 = outT Z S 0 from rfl] at a2
  have A21 := Lib.hid a2
  have HB1 := Lib.hid (HBw.out.trans (b1.mono (show g ≤ W.heap.size by have := HSZ.out; omega)))
  have HZ1 := Lib.hid (show g + 3 ≤ w1.heap.size by have := HSZ.out; have := b1.size; omega)
  clear hZ b1 a2 A0 A1 A2 HBw HSZ
  go_wp2
  go_loopw [9] (fun vk wr => ∃ k : Nat, k ≤ 16 ∧ vk = .int .i64 (k : Int) ∧ Arr wr (g + 2) 52 (Lib.byteCells (outT Z S (4 * k))) ∧ w1.grownBy wr (some (g + 2))) (fun vk _ => 16 - (intOf vk).toNat)
  case atStart => exact ⟨0, by omega, rfl, A21.out, grownRefl _ _⟩
  case round =>
    obtain ⟨k, hk, rfl, ak, gk⟩ := hrel
    have AK := Lib.hid ak
    have GK := Lib.hid gk
    clear ak gk
    by_cases hlt : k < 16
    · have ct : decide ((k : Int) < 16) = true := decide_eq_true (by omega)
      have c1 := (arr_grown A01.out GK.out (by omega)).cell k
      rw [wc_getD S k (by rw [HL.out]; exact hlt)] at c1
      have cz := wc_getD Z k (by rw [HLZ.out]; exact hlt)
      obtain ⟨x1, hx1⟩ : ∃ x, Z.getD k 0 = x := ⟨_, rfl⟩
      obtain ⟨x2, hx2⟩ : ∃ x, S.getD k 0 = x := ⟨_, rfl⟩
      rw [hx1] at cz
      rw [hx2] at c1
      have hix : ∀ u : World, (Instr.index 50 (.agg (wc Z).toArray) (.int .i64 (k : Int))).run Try.prog u = .ok (.int .u32 (x1 : Int)) u :=
        fun u => run_index_arr u 50 48 16 (wc Z).toArray k _ _ words_u Try.underlying48 rfl (by kernel_rfl) hlt (by simpa using cz)
      obtain ⟨z, hz⟩ : ∃ z, (x1 + x2) % 4294967296 = z := ⟨_, rfl⟩
      have wz1 : IntKind.u32.wrap ((x1 : Int) + (x2 : Int)) = (z : Int) := by rw [IntKind.wrap_u32]; omega
      have HY : Hid (∀ j, j < 4 → byteAt Z S (4 * k + j) = UInt8.ofNat (z / 2 ^ (8 * j))) := Lib.hid (fun j hj => by
        unfold byteAt
        rw [show (4 * k + j) / 4 = k by omega, show (4 * k + j) % 4 = j by omega, hx1, hx2, hz])
      have hc9 : (wr.cell? ⟨g, k, none⟩) = some (.int .u32 (x2 : Int)) := c1
      clear hx1 hx2 hz cz c1
      go_wp2
      go_loopw [18] (fun vj wx => ∃ j : Nat, j ≤ 4 ∧ vj = .int .i64 (j : Int) ∧ Arr wx (g + 2) 52 (Lib.byteCells (outT Z S (4 * k + j))) ∧ w1.grownBy wx (some (g + 2))) (fun vj _ => 4 - (intOf vj).toNat)
      case atStart => exact ⟨0, by omega, rfl, AK.out, GK.out⟩
      case round =>
        obtain ⟨j, hj, rfl, aj, gj⟩ := hrel
        have AJ := Lib.hid aj
        have GJ := Lib.hid gj
        clear aj gj
        by_cases hlj : j < 4
        · have cj : decide ((j : Int) < 4) = true := decide_eq_true (by omega)
          obtain ⟨m, hm⟩ : ∃ m, 4 * k = m := ⟨_, rfl⟩
          obtain ⟨p, hp⟩ : ∃ p, m + j = p := ⟨_, rfl⟩
          have e1 : IntKind.i64.wrap (4 * (k : Int)) = (m : Int) := by rw [IntWalk.i64_in _ (by omega)]; omega
          have e2 : IntKind.i64.wrap ((m : Int) + (j : Int)) = (p : Int) := by rw [IntWalk.i64_in _ (by omega)]; omega
          have hp64 : p < 64 := by omega
          have ip : (p : Int) < 64 := by omega
          obtain ⟨sh, hsh⟩ : ∃ sh, 8 * j = sh := ⟨_, rfl⟩
          have wsh : IntKind.i64.wrap (8 * (j : Int)) = (sh : Int) := by rw [IntWalk.i64_in _ (by omega)]; omega
          obtain ⟨y, hy⟩ : ∃ y, byteAt Z S p = y := ⟨_, rfl⟩
          have hy2 := HY.out j hlj
          rw [hm, hp, hy, hsh] at hy2
          have wy : IntKind.u8.wrap ((z : Int) / 2 ^ sh) = (y.toNat : Int) := by
            rw [hy2, UInt8.toNat_ofNat', IntKind.wrap_u8]
            push_cast
            rfl
          have wy' : IntKind.u8.wrap ((z : Int) / 2 ^ (min sh 32)) = (y.toNat : Int) := by rw [Nat.min_eq_left (by omega)]; exact wy
          rw [hm, hp] at AJ
          have hs := outT_set Z S p hp64
          rw [hy] at hs
          have co := AJ.out.cell p
          rw [bs_getD _ p (by rw [outT_len Z S p (by omega)]; exact hp64)] at co
          have fo := AJ.out.frozen p
          have an := AJ.out.set p (.int .u8 (y.toNat : Int))
          rw [bs_set, hs] at an
          have AN := Lib.hid an
          have GN := Lib.hid (grownTrans GJ.out (grownSet wr (g + 2) p (.int .u8 (y.toNat : Int))))
          have HP := Lib.hid (show p + 1 = 4 * k + (j + 1) by omega)
          generalize (outT Z S p).getD p 0 = old at co
          clear hm hp hsh hy hy2 hs an
          go_wp2
          go_roundw
          case rel => exact ⟨j + 1, by omega, by go_num, by rw [← HP.out]; exact AN.out, GN.out⟩
          case measure => simp [intOf]; omega
        · obtain rfl : j = 4 := by omega
          have cj : decide (((4 : Nat) : Int) < 4) = false := rfl
          clear AK GK hc9 hix wz1
          go_wp2
          go_roundw
          case rel => exact ⟨k + 1, by omega, by go_num, AJ.out, GJ.out⟩
          case measure => simp [intOf]; omega
    · obtain rfl : k = 16 := by omega
      have ct : decide (((16 : Nat) : Int) < 16) = false := rfl
      rw [show 4 * 16 = 64 from rfl, outT_all] at AK
      obtain ⟨R, hR⟩ : ∃ R, (List.range 64).map (byteAt Z S) = R := ⟨_, rfl⟩
      have N1 := Lib.hid (show (Lib.byteCells R).length = 64 by rw [Lib.byteCells_length, ← hR, List.length_map, List.length_range])
      rw [hR] at AK
      have HRr := Lib.hid (show (List.range 64).map (byteAt (StreamM.rounds S 20) S) = R by rw [HZ.out]; exact hR)
      have A1F := Lib.hid (arr_grown A11.out GK.out (by omega))
      have HBX := Lib.hid (HB1.out.trans (grownBelow GK.out (show g ≤ g + 2 by omega) (by have := HZ1.out; omega)))
      have AF := Lib.hid (A1F.out.row (Lib.byteCells R))
      have HBF := Lib.hid (below_row HBX.out (show g ≤ g + 1 by omega) (Lib.byteCells R).toArray)
      clear hlt hR
      go_wp2_with (first | (refine Arr.loadL AK.out rfl 52 (.tmp 3) rfl rfl a64 rfl a64_size N1.out ?_) | (refine Arr.storeL A1F.out rfl 52 (.tmp 2) (.tmp 33) rfl rfl (Lib.byteCells R) rfl a64_size (by rfl) N1.out (bytes_one _) ?_))
      refine bodyPost_ret (v := .agg (Lib.byteCells R).toArray) (by exact AF.out.ret rfl _ rfl a64 rfl a64_size N1.out) rfl ⟨by rw [HRr.out], by rw [HG.out]; exact HBF.out⟩
end Go.Proofs.Ytohpgfefdlccmaa.StreamProduceW

/-
  stream.start: what it hands back. Conditions: in the statement.
-/
namespace Go.Proofs.Ytohpgfefdlccmaa.StreamStartW
open Go.RowKit BytesW CellsW WordsW ArrW ArrG HashM HashTurnW StreamM StreamStepW StreamPutW StreamWW StreamRoundsW StreamReadW

theorem sigma_words : lwords sigma = [1634760805, 857760878, 2036477234, 1797285236] := by decide +kernel

/-- The words as they are laid, one part behind the other. -/
def st0 : List Nat := [1634760805, 857760878, 2036477234, 1797285236, 0, 0, 0, 0, 0, 0, 0, 0, 0, 0, 0, 0]
def st1 (key : List UInt8) : List Nat := st0.take 4 ++ lwords key ++ st0.drop 12
theorem st1_len (key : List UInt8) (h : key.length = 32) : (st1 key).length = 16 := by unfold st1; rw [List.length_append, List.length_append, lwords_len, h]; rfl
theorem st1_eq (key : List UInt8) : st1 key = lwords sigma ++ lwords key ++ [0, 0, 0, 0] := by rw [sigma_words]; rfl
def st2 (key : List UInt8) (n : Int) : List Nat := (st1 key).set 12 (n % 4294967296).toNat
theorem st2_len (key : List UInt8) (n : Int) (h : key.length = 32) : (st2 key n).length = 16 := by unfold st2; rw [List.length_set, st1_len key h]
theorem st2_eq (key : List UInt8) (n : Int) (h : key.length = 32) : st2 key n = lwords sigma ++ lwords key ++ [(n % 4294967296).toNat] ++ [0, 0, 0] := by
  have hl : (lwords sigma ++ lwords key).length = 12 := by rw [List.length_append, lwords_len, lwords_len, h]; rfl
  unfold st2
  rw [st1_eq, List.set_append, if_neg (by omega), hl]
  simp
theorem st3_eq (key nonce : List UInt8) (n : Int) (h : key.length = 32) : (st2 key n).take 13 ++ lwords nonce ++ (st2 key n).drop (13 + 3) = StreamM.start key nonce n := by
  have hl : (lwords sigma ++ lwords key ++ [(n % 4294967296).toNat]).length = 13 := by rw [List.length_append, List.length_append, lwords_len, lwords_len, h]; rfl
  have h16 := st2_len key n h
  rw [List.drop_of_length_le (show (st2 key n).length ≤ 13 + 3 by omega), List.append_nil, st2_eq key n h, List.take_append_of_le_length (by omega), List.take_of_length_le (by omega)]
  rfl

set_option maxHeartbeats 8000000 in
set_option maxRecDepth 100000 in
theorem start_any (A : Option Addr) (key : List UInt8) (c : Nat) (A' : Option Addr) (nonce : List UInt8) (c' : Nat) (n : Int) (w : World) (hA : Bs w w.heap.size A key) (hk : key.length = 32) (hB : Bs w w.heap.size A' nonce) (hn : nonce.length = 12) :
    Calls Try.prog 26 #[.slice A key.length c, .slice A' nonce.length c', .int .i64 n] w fun e w' => e = .returned (.agg (wc (StreamM.start key nonce n)).toArray) ∧ Below w.heap.size w w' := by
  have HA := Lib.hid hA
  have HB := Lib.hid hB
  have HK := Lib.hid hk
  have HN := Lib.hid hn
  clear hA hB hk hn
  go_enter Try.func26, Try.ntmps26
  go_upto_region 1 with (fail)
  generalize hW : World.alloc _ _ = W
  obtain ⟨H0, hbw, hsz⟩ := start1 hW
  clear hW
  have a0 : Arr W w.heap.size 50 (wc (List.replicate 16 0)) := H0
  have A0 := Lib.hid a0
  have HBW := Lib.hid hbw
  have HSZ := Lib.hid hsz
  clear a0 H0 hbw hsz
  obtain ⟨g, hg⟩ : ∃ g, w.heap.size = g := ⟨_, rfl⟩
  have HBw : Hid (Below g w W) := Lib.hid (by rw [← hg]; exact HBW.out)
  rw [hg] at A0 HSZ HA HB
  have HG := Lib.hid hg
  simp only [hg]
  clear hg HBW
  have N0 := Lib.hid (show (wc st0).length = 16 by rfl)
  go_upto_region 2 with (refine Arr.storeL (Arr.new W _ _) rfl 50 (.tmp 7) (.tmp 8) rfl rfl (wc st0) rfl words_size (by rfl) N0.out (wc_one _) ?_)
  generalize hw2 : World.setRow _ _ _ = w2
  obtain ⟨a2, b2, z2⟩ := filled hw2
  rw [HSZ.out] at a2 b2 z2 ⊢
  have A1 := Lib.hid a2
  have A02 := Lib.hid (A0.out.below b2 (Nat.lt_succ_self g))
  have HB2 := Lib.hid (HBw.out.trans (b2.mono (Nat.le_succ g)))
  have HZ2 := Lib.hid z2
  clear a2 b2 z2 hw2 A0 HBw
  have hr := read_any (g + 1) 4 8 12 ⟨g + 1, 4, none⟩ (fun k => by unfold Addr.add; split <;> simp_all) 50 st0 A key c w2 A1.out (by decide) (by decide) (by decide) (by rw [HK.out]) ((HA.out.below HB2.out).more (by have := HZ2.out; omega)) (fun h0 a e => by
    obtain ⟨a', e', hlt, _⟩ := HA.out h0
    rw [e] at e'
    cases e'
    omega)
  have HR := Lib.hid hr
  clear hr
  go_wp2_with fail
  refine HR.out.mono ?_
  clear HR
  rintro e w3 ⟨rfl, a3, g3⟩
  have A3 := Lib.hid (show Arr w3 (g + 1) 50 (wc (st1 key)) from a3)
  have A03 := Lib.hid (arr_grown A02.out g3 (by omega))
  have HB3 := Lib.hid (HB2.out.trans (grownBelow g3 (Nat.le_succ g) (by have := HZ2.out; omega)))
  have HZ3 := Lib.hid (show g + 2 ≤ w3.heap.size by have := HZ2.out; have := g3.size; omega)
  clear a3 g3 A1 A02 HB2
  obtain ⟨N, hN⟩ : ∃ N, (n % 4294967296).toNat = N := ⟨_, rfl⟩
  have eN : IntKind.u32.wrap n = (N : Int) := by rw [IntKind.wrap_u32, ← hN]; omega
  have co := A3.out.cell 12
  rw [wc_getD _ _ (by rw [st1_len key HK.out]; decide)] at co
  have fo := A3.out.frozen 12
  have a4 := A3.out.set 12 (.int .u32 (N : Int))
  have hs2 : (st1 key).set 12 N = st2 key n := by rw [← hN]; rfl
  rw [wc_set, hs2] at a4
  have A4 := Lib.hid a4
  have G4 := Lib.hid (grownSet w3 (g + 1) 12 (.int .u32 (N : Int)))
  generalize (st1 key).getD 12 0 = old at co
  clear a4 hs2 hN
  go_upto_region 4 with (fail)
  obtain ⟨w4, hw4⟩ : ∃ x, w3.setCell ⟨g + 1, 12, none⟩ (.int .u32 (N : Int)) = x := ⟨_, rfl⟩
  rw [hw4] at A4 G4 ⊢
  have A04 := Lib.hid (arr_grown A03.out G4.out (by omega))
  have HB4 := Lib.hid (HB3.out.trans (grownBelow G4.out (Nat.le_succ g) (by have := HZ3.out; omega)))
  have HZ4 := Lib.hid (show g + 2 ≤ w4.heap.size by have := HZ3.out; have := G4.out.size; omega)
  clear co fo eN hw4 A03 HB3 A3 G4
  have hr := read_any (g + 1) 13 3 3 ⟨g + 1, 13, none⟩ (fun k => by unfold Addr.add; split <;> simp_all) 50 (st2 key n) A' nonce c' w4 A4.out (by rw [st2_len key n HK.out]; decide) (by rw [st2_len key n HK.out]; decide) (fun k hk => by
      have hl : (lwords sigma ++ lwords key ++ [(n % 4294967296).toNat]).length = 13 := by rw [List.length_append, List.length_append, lwords_len, lwords_len, HK.out]; rfl
      rw [st2_eq key n HK.out, List.getD_eq_getElem?_getD, List.getElem?_append_right (by omega), hl, Nat.add_sub_cancel_left]
      match k, hk with
      | 0, _ => rfl
      | 1, _ => rfl
      | 2, _ => rfl) (by rw [HN.out]) ((HB.out.below HB4.out).more (by have := HZ4.out; omega)) (fun h0 a e => by
    obtain ⟨a', e', hlt, _⟩ := HB.out h0
    rw [e] at e'
    cases e'
    omega)
  rw [st3_eq key nonce n HK.out] at hr
  have HR := Lib.hid hr
  clear hr
  go_wp2_with fail
  refine HR.out.mono ?_
  clear HR
  rintro e w5 ⟨rfl, a5, g5⟩
  obtain ⟨Z, hZ⟩ : ∃ Z, StreamM.start key nonce n = Z := ⟨_, rfl⟩
  have N1 := Lib.hid (show (wc Z).length = 16 by rw [wc_length, ← hZ]; exact start_len key nonce n HK.out HN.out)
  rw [hZ] at a5
  have HZ := Lib.hid hZ
  have A5 := Lib.hid a5
  have A05 := Lib.hid (arr_grown A04.out g5 (by omega))
  have HB5 := Lib.hid (HB4.out.trans (grownBelow g5 (Nat.le_succ g) (by have := HZ4.out; omega)))
  have AF := Lib.hid (A05.out.row (wc Z))
  have HBF := Lib.hid (below_row HB5.out (Nat.le_refl g) (wc Z).toArray)
  clear a5 g5 hZ
  go_wp2_with (first | (refine Arr.loadL A5.out rfl 50 (.tmp 7) rfl rfl words_u rfl words_size N1.out ?_) | (refine Arr.storeL A05.out rfl 50 (.tmp 6) (.tmp 18) rfl rfl (wc Z) rfl words_size (by rfl) N1.out (wc_one _) ?_))
  refine bodyPost_ret (v := .agg (wc Z).toArray) (by exact AF.out.ret rfl _ rfl words_u rfl words_size N1.out) rfl ⟨by rw [HZ.out], by rw [HG.out]; exact HBF.out⟩
end Go.Proofs.Ytohpgfefdlccmaa.StreamStartW
