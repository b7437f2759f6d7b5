/-
  ticketwardref.HBlock's second function of its own: one word added, mixed and turned. Conditions: in the statement.
-/
import Derived.Test.YtohpgfefdlccmaaKg
import Derived.Test.YtohpgfefdlccmaaWordsG
import Derived.Test.YtohpgfefdlccmaaKc
import Derived.Test.YtohpgfefdlccmaaHashTurnM
import Derived.Deep.DeepCutAuto
namespace Go.Proofs.Ytohpgfefdlccmaa.StreamStepW
open Go.RowKit BytesW CellsW WordsW ArrW ArrG HashM HashTurnW StreamM

theorem rotl_or (n x : Nat) (h1 : 1 ≤ n) (h2 : n ≤ 31) (hx : x < 4294967296) : bits .or .u32 ((x : Int) * 2 ^ n % 4294967296) ((x : Int) / 2 ^ (32 - n)) = (rotl n x : Int) := by
  have h := turn_or (32 - n) x (by omega) (by omega) hx
  rw [show 32 - (32 - n) = n by omega] at h
  have hb : x * 2 ^ n % 4294967296 < 4294967296 := Nat.mod_lt _ (by decide)
  have ha : x / 2 ^ (32 - n) < 4294967296 := Nat.lt_of_le_of_lt (Nat.div_le_self _ _) hx
  have e1 : ((x : Int) * 2 ^ n % 4294967296) = ((x * 2 ^ n % 4294967296 : Nat) : Int) := by rw [Int.natCast_emod, Int.natCast_mul, Int.natCast_pow]; rfl
  have e2 : ((x : Int) / 2 ^ (32 - n)) = ((x / 2 ^ (32 - n) : Nat) : Int) := by rw [Int.natCast_ediv, Int.natCast_pow]; rfl
  rw [e1, e2, Bits.or_u32 _ _ hb ha, Nat.or_comm]
  rw [Bits.or_u32 _ _ ha hb] at h
  unfold rotl
  exact h

set_option maxHeartbeats 4000000 in
set_option maxRecDepth 100000 in
theorem step_any (B g r c : Nat) (s : List Nat) (ta fa oa turn : Nat) (w : World) (hv : Arr w g 59 [.slice (some ⟨r, 0, none⟩) 16 c]) (hs : URow B w (.slice (some ⟨r, 0, none⟩) 16 c) s) (hl : s.length = 16) (ho : Ok s) (hne : g ≠ r)
    (h1 : ta < 16) (h2 : fa < 16) (h3 : oa < 16) (h4 : 1 ≤ turn) (h5 : turn ≤ 31) :
    Calls Try.prog 47 #[.int .i64 (ta : Int), .int .i64 (fa : Int), .int .i64 (oa : Int), .int .i64 (turn : Int), .pointer (some ⟨g, 0, none⟩)] w fun e w' => e = .returned (.tuple #[]) ∧ URow B w' (.slice (some ⟨r, 0, none⟩) 16 c) (stepM s ta fa oa turn) ∧ w.grownBy w' (some r) := by
  have HV := Lib.hid hv
  have HS := Lib.hid hs
  have HL := Lib.hid hl
  have HO := Lib.hid ho
  have HN := Lib.hid hne
  obtain ⟨z, hz⟩ : ∃ z, (s.getD ta 0 + s.getD fa 0) % 4294967296 = z := ⟨_, rfl⟩
  obtain ⟨s1, hs1⟩ : ∃ s1, s.set ta z = s1 := ⟨_, rfl⟩
  obtain ⟨x, hx⟩ : ∃ x, s1.getD oa 0 ^^^ s1.getD ta 0 = x := ⟨_, rfl⟩
  have HE := Lib.hid (show stepM s ta fa oa turn = s1.set oa (rotl turn x) by unfold stepM; simp only [hz, hs1, hx])
  have ho1 : Ok s1 := by rw [← hs1]; exact ho.set ta z (by omega)
  have hxl : x < 4294967296 := by rw [← hx]; exact xor_lt _ _ (ho1.getD oa) (ho1.getD ta)
  have HL1 := Lib.hid (show s1.length = 16 by rw [← hs1, List.length_set]; exact hl)
  have HX := Lib.hid hx
  have HZ := Lib.hid hz
  have HS1 := Lib.hid hs1
  have HO1 := Lib.hid ho1
  have cg : w.cell? ⟨g, 0, none⟩ = some (.slice (some ⟨r, 0, none⟩) 16 c) := hv.cell 0
  obtain ⟨r', er, -, -, -, -, hcl, hfz⟩ := hs.place (by omega)
  obtain ⟨rfl⟩ : r' = r := by cases er; rfl
  have c1 := hcl ta (by omega)
  have c2 := hcl fa (by omega)
  have f1 := hfz ta
  have i1 : (ta : Int) < 16 := by omega
  have i2 : (fa : Int) < 16 := by omega
  have i3 : (oa : Int) < 16 := by omega
  have e1 : s[ta]'(by omega) = s.getD ta 0 := by rw [List.getD_eq_getElem?_getD, List.getElem?_eq_getElem (by omega)]; rfl
  have e2 : s[fa]'(by omega) = s.getD fa 0 := by rw [List.getD_eq_getElem?_getD, List.getElem?_eq_getElem (by omega)]; rfl
  rw [e1] at c1
  rw [e2] at c2
  obtain ⟨x1, hx1⟩ : ∃ x1, s.getD ta 0 = x1 := ⟨_, rfl⟩
  obtain ⟨x2, hx2⟩ : ∃ x2, s.getD fa 0 = x2 := ⟨_, rfl⟩
  rw [hx1] at c1 hz
  rw [hx2] at c2 hz
  have wz : IntKind.u32.wrap ((x1 : Int) + (x2 : Int)) = (z : Int) := by rw [IntKind.wrap_u32]; omega
  clear hv hs hl ho hne hs1 hx ho1 er hcl hfz e1 e2 hx1 hx2
  go_enter Try.func47, Try.ntmps47
  go_upto_region 0 with (fail)
  refine Phase.wp_region_phases [([], [0, 1, 2, 3, 4, 5, 6, 7, 8, 9], some 10)] (fun W => W = w.drew) (by kernel_rfl) (by kernel_rfl) (fun _ _ d _ _ h => by cases d <;> exact h) rfl ?_
  refine Phase.g_alone rfl (Phase.p_nil ?_)
  iterate 10 (refine Phase.q_step rfl (fun K hK => ?_); go_simp; refine hK _ ?_; clear hK K)
  refine Phase.q_nil ?_
  rintro _ rfl K hK
  go_simp
  have s1r := (HS.out.set HL.out ta z).drew
  have g1 := grownTrans (grownSet w r ta (.int .u32 (z : Int))) (grownDrew _ (some r))
  rw [HS1.out] at s1r
  obtain ⟨w1, hw1⟩ : ∃ w1, (w.setCell ⟨r, ta, none⟩ (.int .u32 (z : Int))).drew = w1 := ⟨_, rfl⟩
  rw [hw1] at s1r g1
  refine hK _ _ ⟨fun W => W = w1, hw1, ?_⟩
  have S1 := Lib.hid s1r
  have G1 := Lib.hid g1
  clear hK K c1 c2 f1 hw1 cg wz hz
  refine Phase.g_nil ?_
  intro wz hz
  rw [show wz = w1 from hz]
  clear hz
  have hv1 := arr_grown HV.out g1 HN.out
  have cg : w1.cell? ⟨g, 0, none⟩ = some (.slice (some ⟨r, 0, none⟩) 16 c) := hv1.cell 0
  obtain ⟨r', er, -, -, -, -, hcl, hfz⟩ := s1r.place (by rw [HL1.out]; decide)
  obtain ⟨rfl⟩ : r' = r := by cases er; rfl
  have c1 := hcl oa (by rw [HL1.out]; exact h3)
  have c2 := hcl ta (by rw [HL1.out]; exact h1)
  have f1 := hfz oa
  have e1 : s1[oa]'(by rw [HL1.out]; exact h3) = s1.getD oa 0 := by rw [List.getD_eq_getElem?_getD, List.getElem?_eq_getElem (by rw [HL1.out]; exact h3)]; rfl
  have e2 : s1[ta]'(by rw [HL1.out]; exact h1) = s1.getD ta 0 := by rw [List.getD_eq_getElem?_getD, List.getElem?_eq_getElem (by rw [HL1.out]; exact h1)]; rfl
  rw [e1] at c1
  rw [e2] at c2
  have hX := Bits.xor_u32 (s1.getD oa 0) (s1.getD ta 0) (HO1.out.getD oa) (HO1.out.getD ta)
  rw [HX.out] at hX
  obtain ⟨y1, hy1⟩ : ∃ y, s1.getD oa 0 = y := ⟨_, rfl⟩
  obtain ⟨y2, hy2⟩ : ∃ y, s1.getD ta 0 = y := ⟨_, rfl⟩
  rw [hy1] at c1 hX
  rw [hy2] at c2 hX
  have HT := Lib.hid (rotl_or turn x h4 h5 hxl)
  clear hv1 s1r g1 er hcl hfz e1 e2 hy1 hy2
  go_upto_region 1 with (fail)
  refine Phase.wp_region_phases [([], [0, 1, 2, 3, 4, 5, 6, 7, 8, 9], none)] (fun W => W = w1.drew) (by kernel_rfl) (by kernel_rfl) (fun _ _ d _ _ h => by cases d <;> exact h) rfl ?_
  refine Phase.g_quiet (Phase.p_nil ?_)
  iterate 10 (refine Phase.q_step rfl (fun K hK => ?_); go_simp; refine hK _ ?_; clear hK K)
  refine Phase.q_nil (Phase.g_nil ?_)
  rintro _ rfl
  have cg2 : w1.drew.cell? ⟨g, 0, none⟩ = some (.slice (some ⟨r, 0, none⟩) 16 c) := cg
  have c12 : w1.drew.cell? ⟨r, oa, none⟩ = some (.int .u32 (y1 : Int)) := c1
  have f12 : w1.drew.frozen? ⟨r, oa, none⟩ = false := f1
  have S2 := Lib.hid (S1.out.drew)
  have G2 := Lib.hid (grownTrans G1.out (grownDrew w1 (some r)))
  obtain ⟨w2, hw2⟩ : ∃ w2, w1.drew = w2 := ⟨_, rfl⟩
  rw [hw2] at cg2 c12 f12 S2 G2 ⊢
  have e1 : IntKind.i64.wrap (32 - (turn : Int)) = ((32 - turn : Nat) : Int) := by rw [IntWalk.i64_in _ (by omega)]; omega
  clear hw2 cg c1 c2 f1 hX S1 G1
  go_upto_region 2 with (fail)
  refine Phase.wp_region_phases [([], [0, 1, 2, 3, 4, 5, 6, 7, 8, 9, 10], some 11)] (fun W => W = w2.drew) (by kernel_rfl) (by kernel_rfl) (fun _ _ d _ _ h => by cases d <;> exact h) rfl ?_
  refine Phase.g_alone rfl (Phase.p_nil ?_)
  iterate 11 (refine Phase.q_step rfl (fun K hK => ?_); go_simp; refine hK _ ?_; clear hK K)
  refine Phase.q_nil ?_
  rintro _ rfl K hK
  go_simp
  have hT : bits .or .u32 (IntKind.u32.wrap ((x : Int) * 2 ^ turn)) ((x : Int) / 2 ^ (32 - turn)) = (rotl turn x : Int) := by rw [IntKind.wrap_u32]; exact HT.out
  rw [hT]
  have s3 := (S2.out.set HL1.out oa (rotl turn x)).drew
  rw [← HE.out] at s3
  have g3 := grownTrans G2.out (grownTrans (grownSet w2 r oa (.int .u32 (rotl turn x : Int))) (grownDrew _ (some r)))
  obtain ⟨w3, hw3⟩ : ∃ w3, (w2.setCell ⟨r, oa, none⟩ (.int .u32 (rotl turn x : Int))).drew = w3 := ⟨_, rfl⟩
  rw [hw3] at s3 g3
  refine hK _ _ ⟨fun W => W = w3, hw3, ?_⟩
  have S3 := Lib.hid s3
  have G3 := Lib.hid g3
  clear hK K hw3 cg2 c12 f12 s3 g3 hT
  refine Phase.g_nil ?_
  intro wz hz
  rw [show wz = w3 from hz]
  clear hz
  go_wp2
  exact bodyPost_end (v := .tuple #[]) (results_none (by rfl) _ _ _) rfl ⟨rfl, S3.out, G3.out⟩
end Go.Proofs.Ytohpgfefdlccmaa.StreamStepW
