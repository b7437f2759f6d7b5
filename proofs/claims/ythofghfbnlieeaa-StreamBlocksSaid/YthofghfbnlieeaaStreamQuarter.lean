/-
  stream.quarter: what it makes of a variable of sixteen words. Conditions: in the statement.
-/
import Derived.Test.YthofghfbnlieeaaStreamW
namespace Go.Proofs.Ythofghfbnlieeaa.StreamQuarterW
open Go.RowKit BytesW CellsW WordsW ArrW ArrG HashM HashTurnW StreamM StreamStepW StreamWW

set_option maxHeartbeats 8000000 in
set_option maxRecDepth 100000 in
theorem quarter_any (g : Nat) (T : TypeId) (s : List Nat) (a b c d : Nat) (w : World) (hv : Arr w g T (wc s)) (hl : s.length = 16) (ho : Ok s) (ha : a < 16) (hb : b < 16) (hc : c < 16) (hd : d < 16) :
    Calls Try.prog 25 #[.pointer (some ⟨g, 0, none⟩), .int .i64 (a : Int), .int .i64 (b : Int), .int .i64 (c : Int), .int .i64 (d : Int)] w fun e w' => e = .returned (.tuple #[]) ∧ Arr w' g T (wc (quarter s a b c d)) ∧ w.grownBy w' (some g) := by
  have V0 := Lib.hid hv
  have L0 := Lib.hid hl
  have O0 := Lib.hid ho
  have G0 := Lib.hid (grownRefl w (some g))
  have ia : (a : Int) < 16 := by omega
  have ib : (b : Int) < 16 := by omega
  have ic : (c : Int) < 16 := by omega
  have id : (d : Int) < 16 := by omega
  obtain ⟨s0, hs0⟩ : ∃ s0, s = s0 := ⟨_, rfl⟩
  rw [hs0] at V0 L0 O0
  have HQ := Lib.hid hs0
  obtain ⟨w0, hw0⟩ : ∃ w0, w = w0 := ⟨_, rfl⟩
  clear hv hl ho hs0
  obtain ⟨z0, hz⟩ : ∃ z, (s0.getD a 0 + s0.getD b 0) % 4294967296 = z := ⟨_, rfl⟩
  obtain ⟨r0, hr⟩ : ∃ r, s0.set a z0 = r := ⟨_, rfl⟩
  obtain ⟨x0, hx⟩ : ∃ x, r0.getD d 0 ^^^ r0.getD a 0 = x := ⟨_, rfl⟩
  obtain ⟨s1, hs⟩ : ∃ S, r0.set d (rotl 16 x0) = S := ⟨_, rfl⟩
  have hE : stepM s0 a b d 16 = s1 := by unfold stepM; simp only [hz, hr, hx, hs]
  have OR0 : Hid (Ok r0) := Lib.hid (by rw [← hr]; exact O0.out.set a z0 (by omega))
  have X0 : Hid (x0 < 4294967296) := Lib.hid (by rw [← hx]; exact xor_lt _ _ (OR0.out.getD d) (OR0.out.getD a))
  have O1 : Hid (Ok s1) := Lib.hid (by rw [← hE]; exact stepM_ok O0.out _ _ _ _ (by decide))
  have L1 : Hid (s1.length = 16) := Lib.hid (by rw [← hE, stepM_len]; exact L0.out)
  have LR0 : Hid (r0.length = 16) := Lib.hid (by rw [← hr, List.length_set]; exact L0.out)
  have HE0 := Lib.hid hE
  have c1 := V0.out.cell a
  rw [wc_getD _ _ (by rw [L0.out]; omega)] at c1
  have c2 := V0.out.cell b
  rw [wc_getD _ _ (by rw [L0.out]; omega)] at c2
  have f1 := V0.out.frozen a
  have VR := V0.out.drew.set a (.int .u32 (z0 : Int))
  rw [wc_set, hr] at VR
  have GR := Lib.hid (grownTrans G0.out (grownTrans (grownDrew _ (some g)) (grownSet _ g a (.int .u32 (z0 : Int)))))
  have hX := Bits.xor_u32 (r0.getD d 0) (r0.getD a 0) (OR0.out.getD d) (OR0.out.getD a)
  rw [hx] at hX
  have HX := Lib.hid hX
  have HS := Lib.hid hs
  generalize s0.getD a 0 = p1 at *
  generalize s0.getD b 0 = p2 at *
  have wz : IntKind.u32.wrap ((p1 : Int) + (p2 : Int)) = (z0 : Int) := by rw [IntKind.wrap_u32]; omega
  have VR := Lib.hid VR
  clear hz hr hx hs hE hX
  subst hw0
  go_enter Try.func25, Try.ntmps25
  go_upto_region 0 with (fail)
  refine Phase.wp_region_phases [([], [0, 1, 2, 3, 4, 5, 6, 7, 8, 9, 10, 11, 12], some 13)] (fun W => W = (w).drew) (by kernel_rfl) (by kernel_rfl) (fun _ _ d _ _ h => by cases d <;> exact h) rfl ?_
  refine Phase.g_alone rfl (Phase.p_nil ?_)
  iterate 13 (refine Phase.q_step rfl (fun K hK => ?_); go_simp; refine hK _ ?_; clear hK K)
  refine Phase.q_nil ?_
  rintro _ rfl K hK
  go_simp
  obtain ⟨v0, hv⟩ : ∃ v, (w).drew.setCell ⟨g, a, none⟩ (.int .u32 (z0 : Int)) = v := ⟨_, rfl⟩
  rw [hv] at VR GR
  refine hK _ _ ⟨fun W => W = v0, hv, ?_⟩
  clear hK K c1 c2 f1 hv wz
  refine Phase.g_nil ?_
  intro wz hz
  rw [show wz = v0 from hz]
  clear hz
  have c1 := VR.out.cell d
  rw [wc_getD _ _ (by rw [LR0.out]; omega)] at c1
  have c2 := VR.out.cell a
  rw [wc_getD _ _ (by rw [LR0.out]; omega)] at c2
  have f1 := VR.out.frozen d
  have hX := HX.out
  generalize r0.getD d 0 = p1 at *
  generalize r0.getD a 0 = p2 at *
  have HC := Lib.hid (left_any 16 x0 (by decide) (by decide) X0.out 16 rfl v0.drew)
  have VS := VR.out.drew.set d (.int .u32 (rotl 16 x0 : Int))
  rw [wc_set, HS.out] at VS
  have GS := grownTrans GR.out (grownTrans (grownDrew _ (some g)) (grownSet _ g d (.int .u32 (rotl 16 x0 : Int))))
  have V1 := Lib.hid VS
  have G1 := Lib.hid GS
  clear VS GS VR GR HX HS
  go_upto_region 1 with (fail)
  refine Phase.wp_region_phases [([0, 1, 14], [2, 3, 4, 5, 6, 7, 8, 9, 10, 11, 12], some 13), ([], [15], some 16)] (fun W => W = v0.drew) (by kernel_rfl) (by kernel_rfl) (fun _ _ d _ _ h => by cases d <;> exact h) rfl ?_
  refine Phase.g_alone rfl ?_
  iterate 3 (refine Phase.p_step rfl (fun K hK => ?_); go_simp; refine hK _ ?_; clear hK K)
  refine Phase.p_nil ?_
  iterate 11 (refine Phase.q_step rfl (fun K hK => ?_); go_simp; refine hK _ ?_; clear hK K)
  refine Phase.q_nil ?_
  rintro _ rfl K hK
  go_simp
  refine HC.out.mono ?_
  rintro e wy ⟨rfl, rfl⟩
  refine hK _ _ ⟨fun W => W = v0.drew, rfl, ?_⟩
  clear hK K HC
  refine Phase.g_alone rfl (Phase.p_nil ?_)
  iterate 1 (refine Phase.q_step rfl (fun K hK => ?_); go_simp; refine hK _ ?_; clear hK K)
  refine Phase.q_nil ?_
  rintro _ rfl K hK
  go_simp
  obtain ⟨w1, hv⟩ : ∃ v, v0.drew.setCell ⟨g, d, none⟩ (.int .u32 (rotl 16 x0 : Int)) = v := ⟨_, rfl⟩
  rw [hv] at V1 G1
  refine hK _ _ ⟨fun W => W = w1, hv, ?_⟩
  clear hK K c1 c2 f1 hv hX
  refine Phase.g_nil ?_
  intro wz hz
  rw [show wz = w1 from hz]
  clear hz wz
  obtain ⟨z1, hz⟩ : ∃ z, (s1.getD c 0 + s1.getD d 0) % 4294967296 = z := ⟨_, rfl⟩
  obtain ⟨r1, hr⟩ : ∃ r, s1.set c z1 = r := ⟨_, rfl⟩
  obtain ⟨x1, hx⟩ : ∃ x, r1.getD b 0 ^^^ r1.getD c 0 = x := ⟨_, rfl⟩
  obtain ⟨s2, hs⟩ : ∃ S, r1.set b (rotl 12 x1) = S := ⟨_, rfl⟩
  have hE : stepM s1 c d b 12 = s2 := by unfold stepM; simp only [hz, hr, hx, hs]
  have OR1 : Hid (Ok r1) := Lib.hid (by rw [← hr]; exact O1.out.set c z1 (by omega))
  have X1 : Hid (x1 < 4294967296) := Lib.hid (by rw [← hx]; exact xor_lt _ _ (OR1.out.getD b) (OR1.out.getD c))
  have O2 : Hid (Ok s2) := Lib.hid (by rw [← hE]; exact stepM_ok O1.out _ _ _ _ (by decide))
  have L2 : Hid (s2.length = 16) := Lib.hid (by rw [← hE, stepM_len]; exact L1.out)
  have LR1 : Hid (r1.length = 16) := Lib.hid (by rw [← hr, List.length_set]; exact L1.out)
  have HE1 := Lib.hid hE
  have c1 := V1.out.cell c
  rw [wc_getD _ _ (by rw [L1.out]; omega)] at c1
  have c2 := V1.out.cell d
  rw [wc_getD _ _ (by rw [L1.out]; omega)] at c2
  have f1 := V1.out.frozen c
  have VR := V1.out.drew.set c (.int .u32 (z1 : Int))
  rw [wc_set, hr] at VR
  have GR := Lib.hid (grownTrans G1.out (grownTrans (grownDrew _ (some g)) (grownSet _ g c (.int .u32 (z1 : Int)))))
  have hX := Bits.xor_u32 (r1.getD b 0) (r1.getD c 0) (OR1.out.getD b) (OR1.out.getD c)
  rw [hx] at hX
  have HX := Lib.hid hX
  have HS := Lib.hid hs
  generalize s1.getD c 0 = p1 at *
  generalize s1.getD d 0 = p2 at *
  have wz : IntKind.u32.wrap ((p1 : Int) + (p2 : Int)) = (z1 : Int) := by rw [IntKind.wrap_u32]; omega
  have VR := Lib.hid VR
  clear hz hr hx hs hE hX
  go_upto_region 2 with (fail)
  refine Phase.wp_region_phases [([], [0, 1, 2, 3, 4, 5, 6, 7, 8, 9, 10, 11, 12], some 13)] (fun W => W = (w1).drew) (by kernel_rfl) (by kernel_rfl) (fun _ _ d _ _ h => by cases d <;> exact h) rfl ?_
  refine Phase.g_alone rfl (Phase.p_nil ?_)
  iterate 13 (refine Phase.q_step rfl (fun K hK => ?_); go_simp; refine hK _ ?_; clear hK K)
  refine Phase.q_nil ?_
  rintro _ rfl K hK
  go_simp
  obtain ⟨v1, hv⟩ : ∃ v, (w1).drew.setCell ⟨g, c, none⟩ (.int .u32 (z1 : Int)) = v := ⟨_, rfl⟩
  rw [hv] at VR GR
  refine hK _ _ ⟨fun W => W = v1, hv, ?_⟩
  clear hK K c1 c2 f1 hv wz
  refine Phase.g_nil ?_
  intro wz hz
  rw [show wz = v1 from hz]
  clear hz
  have c1 := VR.out.cell b
  rw [wc_getD _ _ (by rw [LR1.out]; omega)] at c1
  have c2 := VR.out.cell c
  rw [wc_getD _ _ (by rw [LR1.out]; omega)] at c2
  have f1 := VR.out.frozen b
  have hX := HX.out
  generalize r1.getD b 0 = p1 at *
  generalize r1.getD c 0 = p2 at *
  have HC := Lib.hid (left_any 12 x1 (by decide) (by decide) X1.out 12 rfl v1.drew)
  have VS := VR.out.drew.set b (.int .u32 (rotl 12 x1 : Int))
  rw [wc_set, HS.out] at VS
  have GS := grownTrans GR.out (grownTrans (grownDrew _ (some g)) (grownSet _ g b (.int .u32 (rotl 12 x1 : Int))))
  have V2 := Lib.hid VS
  have G2 := Lib.hid GS
  clear VS GS VR GR HX HS
  go_upto_region 3 with (fail)
  refine Phase.wp_region_phases [([0, 1, 14], [2, 3, 4, 5, 6, 7, 8, 9, 10, 11, 12], some 13), ([], [15], some 16)] (fun W => W = v1.drew) (by kernel_rfl) (by kernel_rfl) (fun _ _ d _ _ h => by cases d <;> exact h) rfl ?_
  refine Phase.g_alone rfl ?_
  iterate 3 (refine Phase.p_step rfl (fun K hK => ?_); go_simp; refine hK _ ?_; clear hK K)
  refine Phase.p_nil ?_
  iterate 11 (refine Phase.q_step rfl (fun K hK => ?_); go_simp; refine hK _ ?_; clear hK K)
  refine Phase.q_nil ?_
  rintro _ rfl K hK
  go_simp
  refine HC.out.mono ?_
  rintro e wy ⟨rfl, rfl⟩
  refine hK _ _ ⟨fun W => W = v1.drew, rfl, ?_⟩
  clear hK K HC
  refine Phase.g_alone rfl (Phase.p_nil ?_)
  iterate 1 (refine Phase.q_step rfl (fun K hK => ?_); go_simp; refine hK _ ?_; clear hK K)
  refine Phase.q_nil ?_
  rintro _ rfl K hK
  go_simp
  obtain ⟨w2, hv⟩ : ∃ v, v1.drew.setCell ⟨g, b, none⟩ (.int .u32 (rotl 12 x1 : Int)) = v := ⟨_, rfl⟩
  rw [hv] at V2 G2
  refine hK _ _ ⟨fun W => W = w2, hv, ?_⟩
  clear hK K c1 c2 f1 hv hX
  refine Phase.g_nil ?_
  intro wz hz
  rw [show wz = w2 from hz]
  clear hz wz
  obtain ⟨z2, hz⟩ : ∃ z, (s2.getD a 0 + s2.getD b 0) % 4294967296 = z := ⟨_, rfl⟩
  obtain ⟨r2, hr⟩ : ∃ r, s2.set a z2 = r := ⟨_, rfl⟩
  obtain ⟨x2, hx⟩ : ∃ x, r2.getD d 0 ^^^ r2.getD a 0 = x := ⟨_, rfl⟩
  obtain ⟨s3, hs⟩ : ∃ S, r2.set d (rotl 8 x2) = S := ⟨_, rfl⟩
  have hE : stepM s2 a b d 8 = s3 := by unfold stepM; simp only [hz, hr, hx, hs]
  have OR2 : Hid (Ok r2) := Lib.hid (by rw [← hr]; exact O2.out.set a z2 (by omega))
  have X2 : Hid (x2 < 4294967296) := Lib.hid (by rw [← hx]; exact xor_lt _ _ (OR2.out.getD d) (OR2.out.getD a))
  have O3 : Hid (Ok s3) := Lib.hid (by rw [← hE]; exact stepM_ok O2.out _ _ _ _ (by decide))
  have L3 : Hid (s3.length = 16) := Lib.hid (by rw [← hE, stepM_len]; exact L2.out)
  have LR2 : Hid (r2.length = 16) := Lib.hid (by rw [← hr, List.length_set]; exact L2.out)
  have HE2 := Lib.hid hE
  have c1 := V2.out.cell a
  rw [wc_getD _ _ (by rw [L2.out]; omega)] at c1
  have c2 := V2.out.cell b
  rw [wc_getD _ _ (by rw [L2.out]; omega)] at c2
  have f1 := V2.out.frozen a
  have VR := V2.out.drew.set a (.int .u32 (z2 : Int))
  rw [wc_set, hr] at VR
  have GR := Lib.hid (grownTrans G2.out (grownTrans (grownDrew _ (some g)) (grownSet _ g a (.int .u32 (z2 : Int)))))
  have hX := Bits.xor_u32 (r2.getD d 0) (r2.getD a 0) (OR2.out.getD d) (OR2.out.getD a)
  rw [hx] at hX
  have HX := Lib.hid hX
  have HS := Lib.hid hs
  generalize s2.getD a 0 = p1 at *
  generalize s2.getD b 0 = p2 at *
  have wz : IntKind.u32.wrap ((p1 : Int) + (p2 : Int)) = (z2 : Int) := by rw [IntKind.wrap_u32]; omega
  have VR := Lib.hid VR
  clear hz hr hx hs hE hX
  go_upto_region 4 with (fail)
  refine Phase.wp_region_phases [([], [0, 1, 2, 3, 4, 5, 6, 7, 8, 9, 10, 11, 12], some 13)] (fun W => W = (w2).drew) (by kernel_rfl) (by kernel_rfl) (fun _ _ d _ _ h => by cases d <;> exact h) rfl ?_
  refine Phase.g_alone rfl (Phase.p_nil ?_)
  iterate 13 (refine Phase.q_step rfl (fun K hK => ?_); go_simp; refine hK _ ?_; clear hK K)
  refine Phase.q_nil ?_
  rintro _ rfl K hK
  go_simp
  obtain ⟨v2, hv⟩ : ∃ v, (w2).drew.setCell ⟨g, a, none⟩ (.int .u32 (z2 : Int)) = v := ⟨_, rfl⟩
  rw [hv] at VR GR
  refine hK _ _ ⟨fun W => W = v2, hv, ?_⟩
  clear hK K c1 c2 f1 hv wz
  refine Phase.g_nil ?_
  intro wz hz
  rw [show wz = v2 from hz]
  clear hz
  have c1 := VR.out.cell d
  rw [wc_getD _ _ (by rw [LR2.out]; omega)] at c1
  have c2 := VR.out.cell a
  rw [wc_getD _ _ (by rw [LR2.out]; omega)] at c2
  have f1 := VR.out.frozen d
  have hX := HX.out
  generalize r2.getD d 0 = p1 at *
  generalize r2.getD a 0 = p2 at *
  have HC := Lib.hid (left_any 8 x2 (by decide) (by decide) X2.out 8 rfl v2.drew)
  have VS := VR.out.drew.set d (.int .u32 (rotl 8 x2 : Int))
  rw [wc_set, HS.out] at VS
  have GS := grownTrans GR.out (grownTrans (grownDrew _ (some g)) (grownSet _ g d (.int .u32 (rotl 8 x2 : Int))))
  have V3 := Lib.hid VS
  have G3 := Lib.hid GS
  clear VS GS VR GR HX HS
  go_upto_region 5 with (fail)
  refine Phase.wp_region_phases [([0, 1, 14], [2, 3, 4, 5, 6, 7, 8, 9, 10, 11, 12], some 13), ([], [15], some 16)] (fun W => W = v2.drew) (by kernel_rfl) (by kernel_rfl) (fun _ _ d _ _ h => by cases d <;> exact h) rfl ?_
  refine Phase.g_alone rfl ?_
  iterate 3 (refine Phase.p_step rfl (fun K hK => ?_); go_simp; refine hK _ ?_; clear hK K)
  refine Phase.p_nil ?_
  iterate 11 (refine Phase.q_step rfl (fun K hK => ?_); go_simp; refine hK _ ?_; clear hK K)
  refine Phase.q_nil ?_
  rintro _ rfl K hK
  go_simp
  refine HC.out.mono ?_
  rintro e wy ⟨rfl, rfl⟩
  refine hK _ _ ⟨fun W => W = v2.drew, rfl, ?_⟩
  clear hK K HC
  refine Phase.g_alone rfl (Phase.p_nil ?_)
  iterate 1 (refine Phase.q_step rfl (fun K hK => ?_); go_simp; refine hK _ ?_; clear hK K)
  refine Phase.q_nil ?_
  rintro _ rfl K hK
  go_simp
  obtain ⟨w3, hv⟩ : ∃ v, v2.drew.setCell ⟨g, d, none⟩ (.int .u32 (rotl 8 x2 : Int)) = v := ⟨_, rfl⟩
  rw [hv] at V3 G3
  refine hK _ _ ⟨fun W => W = w3, hv, ?_⟩
  clear hK K c1 c2 f1 hv hX
  refine Phase.g_nil ?_
  intro wz hz
  rw [show wz = w3 from hz]
  clear hz wz
  obtain ⟨z3, hz⟩ : ∃ z, (s3.getD c 0 + s3.getD d 0) % 4294967296 = z := ⟨_, rfl⟩
  obtain ⟨r3, hr⟩ : ∃ r, s3.set c z3 = r := ⟨_, rfl⟩
  obtain ⟨x3, hx⟩ : ∃ x, r3.getD b 0 ^^^ r3.getD c 0 = x := ⟨_, rfl⟩
  obtain ⟨s4, hs⟩ : ∃ S, r3.set b (rotl 7 x3) = S := ⟨_, rfl⟩
  have hE : stepM s3 c d b 7 = s4 := by unfold stepM; simp only [hz, hr, hx, hs]
  have OR3 : Hid (Ok r3) := Lib.hid (by rw [← hr]; exact O3.out.set c z3 (by omega))
  have X3 : Hid (x3 < 4294967296) := Lib.hid (by rw [← hx]; exact xor_lt _ _ (OR3.out.getD b) (OR3.out.getD c))
  have O4 : Hid (Ok s4) := Lib.hid (by rw [← hE]; exact stepM_ok O3.out _ _ _ _ (by decide))
  have L4 : Hid (s4.length = 16) := Lib.hid (by rw [← hE, stepM_len]; exact L3.out)
  have LR3 : Hid (r3.length = 16) := Lib.hid (by rw [← hr, List.length_set]; exact L3.out)
  have HE3 := Lib.hid hE
  have c1 := V3.out.cell c
  rw [wc_getD _ _ (by rw [L3.out]; omega)] at c1
  have c2 := V3.out.cell d
  rw [wc_getD _ _ (by rw [L3.out]; omega)] at c2
  have f1 := V3.out.frozen c
  have VR := V3.out.drew.set c (.int .u32 (z3 : Int))
  rw [wc_set, hr] at VR
  have GR := Lib.hid (grownTrans G3.out (grownTrans (grownDrew _ (some g)) (grownSet _ g c (.int .u32 (z3 : Int)))))
  have hX := Bits.xor_u32 (r3.getD b 0) (r3.getD c 0) (OR3.out.getD b) (OR3.out.getD c)
  rw [hx] at hX
  have HX := Lib.hid hX
  have HS := Lib.hid hs
  generalize s3.getD c 0 = p1 at *
  generalize s3.getD d 0 = p2 at *
  have wz : IntKind.u32.wrap ((p1 : Int) + (p2 : Int)) = (z3 : Int) := by rw [IntKind.wrap_u32]; omega
  have VR := Lib.hid VR
  clear hz hr hx hs hE hX
  go_upto_region 6 with (fail)
  refine Phase.wp_region_phases [([], [0, 1, 2, 3, 4, 5, 6, 7, 8, 9, 10, 11, 12], some 13)] (fun W => W = (w3).drew) (by kernel_rfl) (by kernel_rfl) (fun _ _ d _ _ h => by cases d <;> exact h) rfl ?_
  refine Phase.g_alone rfl (Phase.p_nil ?_)
  iterate 13 (refine Phase.q_step rfl (fun K hK => ?_); go_simp; refine hK _ ?_; clear hK K)
  refine Phase.q_nil ?_
  rintro _ rfl K hK
  go_simp
  obtain ⟨v3, hv⟩ : ∃ v, (w3).drew.setCell ⟨g, c, none⟩ (.int .u32 (z3 : Int)) = v := ⟨_, rfl⟩
  rw [hv] at VR GR
  refine hK _ _ ⟨fun W => W = v3, hv, ?_⟩
  clear hK K c1 c2 f1 hv wz
  refine Phase.g_nil ?_
  intro wz hz
  rw [show wz = v3 from hz]
  clear hz
  have c1 := VR.out.cell b
  rw [wc_getD _ _ (by rw [LR3.out]; omega)] at c1
  have c2 := VR.out.cell c
  rw [wc_getD _ _ (by rw [LR3.out]; omega)] at c2
  have f1 := VR.out.frozen b
  have hX := HX.out
  generalize r3.getD b 0 = p1 at *
  generalize r3.getD c 0 = p2 at *
  have HC := Lib.hid (left_any 7 x3 (by decide) (by decide) X3.out 7 rfl v3.drew)
  have VS := VR.out.drew.set b (.int .u32 (rotl 7 x3 : Int))
  rw [wc_set, HS.out] at VS
  have GS := grownTrans GR.out (grownTrans (grownDrew _ (some g)) (grownSet _ g b (.int .u32 (rotl 7 x3 : Int))))
  have V4 := Lib.hid VS
  have G4 := Lib.hid GS
  clear VS GS VR GR HX HS
  go_upto_region 7 with (fail)
  refine Phase.wp_region_phases [([0, 1, 14], [2, 3, 4, 5, 6, 7, 8, 9, 10, 11, 12], some 13), ([], [15], some 16)] (fun W => W = v3.drew) (by kernel_rfl) (by kernel_rfl) (fun _ _ d _ _ h => by cases d <;> exact h) rfl ?_
  refine Phase.g_alone rfl ?_
  iterate 3 (refine Phase.p_step rfl (fun K hK => ?_); go_simp; refine hK _ ?_; clear hK K)
  refine Phase.p_nil ?_
  iterate 11 (refine Phase.q_step rfl (fun K hK => ?_); go_simp; refine hK _ ?_; clear hK K)
  refine Phase.q_nil ?_
  rintro _ rfl K hK
  go_simp
  refine HC.out.mono ?_
  rintro e wy ⟨rfl, rfl⟩
  refine hK _ _ ⟨fun W => W = v3.drew, rfl, ?_⟩
  clear hK K HC
  refine Phase.g_alone rfl (Phase.p_nil ?_)
  iterate 1 (refine Phase.q_step rfl (fun K hK => ?_); go_simp; refine hK _ ?_; clear hK K)
  refine Phase.q_nil ?_
  rintro _ rfl K hK
  go_simp
  obtain ⟨w4, hv⟩ : ∃ v, v3.drew.setCell ⟨g, b, none⟩ (.int .u32 (rotl 7 x3 : Int)) = v := ⟨_, rfl⟩
  rw [hv] at V4 G4
  refine hK _ _ ⟨fun W => W = w4, hv, ?_⟩
  clear hK K c1 c2 f1 hv hX
  refine Phase.g_nil ?_
  intro wz hz
  rw [show wz = w4 from hz]
  clear hz wz
  go_wp2
  exact bodyPost_end (v := .tuple #[]) (results_none (by rfl) _ _ _) rfl ⟨rfl, by rw [HQ.out, show quarter s0 a b c d = s4 by unfold quarter; rw [HE0.out, HE1.out, HE2.out, HE3.out]]; exact V4.out, G4.out⟩
end Go.Proofs.Ythofghfbnlieeaa.StreamQuarterW
