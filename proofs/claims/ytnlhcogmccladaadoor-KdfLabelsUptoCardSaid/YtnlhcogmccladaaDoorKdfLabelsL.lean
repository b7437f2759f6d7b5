/-
  The walk of ticketwardlaw.KdfLabels: it returns true and writes nothing that was there. Conditions: the tables; bulk at most 1048576.
-/
import Derived.Test.YtnlhcogmccladaaDoorKdfSum
import Derived.Test.YtnlhcogmccladaaDoorKdfLabel
import Derived.Test.YtnlhcogmccladaaDoorKd
namespace Go.Proofs.YtnlhcogmccladaaDoor.KdfLabelsL
open Go.RowKit BytesW CellsW WordsW ArrW HashX HashCompW HashSumW HashSameW HashFinW HashBlockW HashRefW MacM MacRefW KdfM KdfSumW KdfRefW KdfLabelW DigsW RowsW

theorem wf_i64 {n : Int} (h : (Lit.int .i64 n).wf = true) : -9223372036854775808 ≤ n ∧ n < 9223372036854775808 := by
  have hx : -9223372036854775808 ≤ n ∧ n ≤ 9223372036854775807 := by simpa [Lit.wf, IntKind.min, IntKind.max, IntKind.signed, IntKind.bits] using h
  omega
def total (rs : List (List UInt8)) : Nat := rs.foldr (fun r n => r.length + n) 0
theorem total_le (ls : List (List UInt8)) (p : List UInt8) (h : p ∈ ls) : p.length ≤ total ls := by
  induction ls with
  | nil => exact absurd h (by simp)
  | cons x r ih =>
    have e : total (x :: r) = x.length + total r := rfl
    rcases List.mem_cons.1 h with h | h
    · rw [h, e]; omega
    · have := ih h; omega

/-- The salt of input k. -/
def saltAt (R : List (List UInt8)) (k : Nat) : List UInt8 := if k = 0 then [] else nextSalt (R.getD (k - 1) [])
theorem steps_at (ps : List (List UInt8)) (k : Nat) (h : k < ps.length) (h' : k < (steps ps).length) : (steps ps)[k] = extract (saltAt (steps ps) k) (fillZ ps[k]) := by
  unfold saltAt
  by_cases h0 : k = 0
  · subst h0
    rw [if_pos rfl]
    cases ps with
    | nil => exact absurd h (by simp)
    | cons p ps => rfl
  · rw [if_neg h0]
    obtain ⟨i, rfl⟩ : ∃ i, k = i + 1 := ⟨k - 1, by omega⟩
    rw [show i + 1 - 1 = i by omega]
    have hi : i < (steps ps).length := by omega
    have e := stepsF_succ ps [] i ((steps ps)[i]) (List.getElem?_eq_getElem hi) ps[i + 1] (List.getElem?_eq_getElem h)
    have e2 : (steps ps)[i + 1]? = some ((steps ps)[i + 1]) := List.getElem?_eq_getElem h'
    rw [List.getD_eq_getElem?_getD, List.getElem?_eq_getElem hi]
    exact Option.some.inj (e2.symm.trans e)

set_option maxHeartbeats 8000000 in
set_option maxRecDepth 100000 in
theorem walk (a0 : Option Addr) (l0 : List UInt8) (c0 : Nat) (lab : List UInt8) (a2 : Option Addr) (ctx : List UInt8) (c2 : Nat) (n : Int) (a4 : Option Addr) (ps : List (List UInt8)) (c4 : Nat) (w : World) (hA : Bs w w.heap.size a0 l0) (hc0 : l0.length ≤ c0) (hl0 : l0.length ≤ 1048576) (hlab : lab.length ≤ 1048576) (hB : Bs w w.heap.size a2 ctx) (hc2 : ctx.length ≤ c2) (hctx : ctx.length ≤ 1048576) (hwf : (Lit.int .i64 n).wf = true) (hP : Ms w w.heap.size a4 ps) (hc4 : ps.length ≤ c4) (hl : total ps + ps.length ≤ 1048576) (hT0 : TabK w ∧ TabI w ∧ TabR w) :
    Calls Tryd.prog 4 #[.slice a0 l0.length c0, .string ⟨lab.toArray⟩, .slice a2 ctx.length c2, .int .i64 n, .slice a4 ps.length c4] w fun e w' => e = .returned (.bool true) ∧ Below w.heap.size w w' := by
  have hT : Tabs w ∧ TabI w ∧ TabK w := ⟨hT0.2.2, hT0.2.1, hT0.1⟩
  clear hT0
  have hp : ∀ p ∈ ps, p.length ≤ 1048576 := fun p h => by have := total_le ps p h; omega
  obtain ⟨hn1, hn2⟩ := wf_i64 hwf
  have HT := Lib.hid hT.1
  have HI := Lib.hid hT.2.1
  have HK := Lib.hid hT.2.2
  have HA := Lib.hid hA
  have HB := Lib.hid hB
  have HP := Lib.hid hP
  have HPl := Lib.hid hp
  have hpn : ps.length ≤ 1048576 := by omega
  clear hT hA hB hP hp hl hwf
  go_enter Tryd.func4, Tryd.ntmps4
  go_upto_region 1 with (fail)
  rename_i K3 hK3 K2 hK2
  have H : ∀ (m : Int) (u20 u21 u22 u23 u24 u25 : Value), -9223372036854775808 ≤ m → m < 9223372036854775808 → K3 { tmps := #[.slice a0 l0.length c0, .string ⟨lab.toArray⟩, .slice a2 ctx.length c2, .int .i64 m, .slice a4 ps.length c4, undef, undef, undef, undef, undef, .bool false, undef, undef, undef, undef, undef, undef, undef, undef, undef, u20, u21, u22, u23, u24, u25, undef, undef, undef, undef, undef, undef, undef, undef, undef, undef, undef, undef, undef, undef, undef, undef, undef, undef, undef, undef, undef, undef, undef, undef, undef, undef, undef, undef, undef, undef, undef, undef, undef, undef, undef, undef, undef, undef, undef, undef, undef, undef, undef, undef, undef, undef, undef, undef, undef, undef, undef, undef, undef, undef, undef, undef, undef, undef, undef, undef, undef, undef, undef, undef, undef, undef, undef, undef, undef, undef, undef, undef, undef, undef, undef, undef, undef, undef, undef, undef, undef], defers := [] } w := by
    intro m u20 u21 u22 u23 u24 u25 hm1 hm2
    refine hK3 _ _ ?_
    have h5 := klabel_any a0 l0 c0 lab a2 ctx c2 m w HA.out hc0 HB.out hc2 (Nat.le_trans hl0 (by decide)) (Nat.le_trans hlab (by decide)) (Nat.le_trans hctx (by decide)) hm1 hm2 HT.out
    obtain ⟨bs, er, hbe⟩ : ∃ bs er, glabel l0 lab ctx m = (bs, er) := ⟨_, _, rfl⟩
    rw [hbe] at h5
    have H5 := Lib.hid h5
    have HBe := Lib.hid hbe
    clear h5 hbe hK3 hK2
    go_wp2_with fail
    refine H5.out.mono ?_
    clear H5
    rintro e w1 ⟨A11, d11, rfl, hd11, s11, b1⟩
    have X1 := Lib.hid b1
    have S11 := Lib.hid s11
    simp only at hd11 S11 ⊢
    clear b1 s11
    have h6 := glabel_any a0 l0 c0 lab a2 ctx c2 m w1 (Nat.le_trans hl0 (by decide)) (Nat.le_trans hlab (by decide)) (Nat.le_trans hctx (by decide)) ((HA.out.below X1.out).more X1.out.size) ((HB.out.below X1.out).more X1.out.size) (HI.out.below X1.out) (HK.out.below X1.out)
    rw [HBe.out] at h6
    have H6 := Lib.hid h6
    clear h6
    go_wp2_with fail
    refine H6.out.mono ?_
    clear H6
    rintro e w2 ⟨A13, d13, rfl, hd13, s13, b2⟩
    have X2 := Lib.hid (X1.out.trans (b2.mono X1.out.size))
    have S112 := Lib.hid ((S11.out.below b2).more b2.size)
    have S13 := Lib.hid s13
    simp only at hd13 S13 ⊢
    clear b2 s13
    have h7 := ksteps_any a4 ps c4 w2 ((HP.out.below X2.out).more X2.out.size) hc4 HPl.out hpn (HT.out.below X2.out)
    obtain ⟨R, g, hRg⟩ : ∃ R g, stepsM ps = (R, g) := ⟨_, _, rfl⟩
    rw [hRg] at h7
    have H7 := Lib.hid h7
    have HRg := Lib.hid hRg
    clear h7 hRg
    go_wp2_with fail
    refine H7.out.mono ?_
    clear H7
    rintro e w3 ⟨A15, d15, rfl, hd15, s15, b3⟩
    have X3 := Lib.hid (X2.out.trans (b3.mono X2.out.size))
    have S15 := Lib.hid s15
    simp only at hd15 S15 ⊢
    have cv1 : (convert 22 9 (.slice A11 bs.length d11)).run Tryd.prog w3 = .ok (.string ⟨bs.toArray⟩) w3 := ((S112.out.below b3).more b3.size).conv d11
    have cv2 : (convert 22 9 (.slice A13 bs.length d13)).run Tryd.prog w3 = .ok (.string ⟨bs.toArray⟩) w3 := ((S13.out.below b3).more b3.size).conv d13
    clear b3 s15
    by_cases h400 : 400 < ps.length
    · have hRg := HRg.out
      unfold stepsM at hRg
      rw [if_pos h400] at hRg
      cases hRg
      have ct : decide ((ps.length : Int) > 400) = true := decide_eq_true (by omega)
      go_wp2
      go_ret
      exact ⟨rfl, X3.out⟩
    · have hRg := HRg.out
      unfold stepsM at hRg
      rw [if_neg h400] at hRg
      obtain ⟨hR, rfl⟩ : steps ps = R ∧ g = 0 := by cases hRg; exact ⟨rfl, rfl⟩
      have ct : decide ((ps.length : Int) > 400) = false := decide_eq_false (by omega)
      have HRl := Lib.hid (show R.length = ps.length by rw [← hR, steps_len])
      have HR := Lib.hid hR
      have ct2 : ((ps.length : Int) != (ps.length : Int)) = false := by simp
      rw [HRl.out] at hd15 ⊢
      clear hRg HRg hR
      go_wp2
      go_loopw [78] (fun vi wr => ∃ k : Nat, k ≤ ps.length ∧ vi = .int .i64 (k : Int) ∧ Below w3.heap.size w3 wr) (fun vi _ => ps.length - (intOf vi).toNat)
      case atStart => exact ⟨0, by omega, rfl, Below.refl _ _⟩
      case round =>
        obtain ⟨k, hk, rfl, bx⟩ := hrel
        have BX := Lib.hid bx
        clear bx
        by_cases hlt : k < ps.length
        · have ct3 : decide ((k : Int) < (ps.length : Int)) = true := decide_eq_true (by omega)
          obtain ⟨ad, a, ca, rfl, hadb, hcell, hbs, hca⟩ := HP.out.at_ hlt
          have Xr := Lib.hid (X3.out.trans (BX.out.mono X3.out.size))
          have hc3 := (Xr.out.cell (p := ad.add k) (by rw [add_block]; exact hadb)).trans hcell
          have HBp := Lib.hid ((hbs.below Xr.out).more Xr.out.size)
          have hsl : k < (steps ps).length := by rw [HR.out, HRl.out]; exact hlt
          have hst := List.getElem?_eq_getElem hsl
          rw [steps_at ps k hlt hsl, HR.out] at hst
          obtain ⟨p, hpp⟩ : ∃ p, ps[k] = p := ⟨_, rfl⟩
          rw [hpp] at hc3 HBp hst hca
          have HS := Lib.hid hst
          have hpl : p.length ≤ 1048576 := by rw [← hpp]; exact HPl.out _ (List.getElem_mem hlt)
          clear hcell hbs hpp hst hsl
          go_upto_region 16 with (fail)
          rename_i K22 hK22 K18 hK18 K16 hK16
          have H18 : ∀ (A19 : Option Addr) (S : List UInt8) (ns c19 : Nat) (W : World) (z83 z84 z85 z86 z87 z88 z89 z90 z91 z92 z93 : Value), S.length = ns → S = saltAt R k → S.length ≤ 32 → S.length ≤ c19 → Bs W W.heap.size A19 S → Below wr.heap.size wr W → K18 { tmps := #[.slice a0 l0.length c0, .string ⟨lab.toArray⟩, .slice a2 ctx.length c2, .int .i64 m, .slice (some ad) ps.length c4, undef, undef, undef, undef, undef, u10, .slice A11 bs.length d11, .int .i64 er, .slice A13 bs.length d13, .int .i64 er, .slice A15 ps.length d15, .int .i64 0, .int .i64 (k : Int), .slice a p.length ca, .slice A19 ns c19, u20, u21, u22, u23, u24, u25, .tuple #[.slice A11 bs.length d11, .int .i64 er], .slice a0 l0.length c0, .string ⟨lab.toArray⟩, .slice a2 ctx.length c2, .int .i64 m, .tuple #[.slice A11 bs.length d11, .int .i64 er], .slice A11 bs.length d11, .int .i64 er, .tuple #[.slice A13 bs.length d13, .int .i64 er], .slice a0 l0.length c0, .string ⟨lab.toArray⟩, .slice a2 ctx.length c2, .int .i64 m, .tuple #[.slice A13 bs.length d13, .int .i64 er], .slice A13 bs.length d13, .int .i64 er, .tuple #[.slice A15 ps.length d15, .int .i64 0], .slice (some ad) ps.length c4, .tuple #[.slice A15 ps.length d15, .int .i64 0], .slice A15 ps.length d15, .int .i64 0, .int .i64 er, .int .i64 er, .bool false, .bool false, .slice A11 bs.length d11, .string ⟨bs.toArray⟩, .slice A13 bs.length d13, .string ⟨bs.toArray⟩, .bool false, .bool false, .slice (some ad) ps.length c4, .int .i64 (ps.length : Int), .bool false, undef, undef, undef, undef, undef, undef, undef, .int .i64 0, .bool false, .bool false, .slice A15 ps.length d15, .int .i64 (ps.length : Int), .slice (some ad) ps.length c4, .int .i64 (ps.length : Int), .bool false, .bool false, .slice (some ad) ps.length c4, .int .i64 (ps.length : Int), .int .i64 (k : Int), .bool true, .int .i64 (k : Int), .pointer (some (ad.add k)), .slice a p.length ca, z83, z84, z85, z86, z87, z88, z89, z90, z91, z92, z93, u94, u95, u96, u97, u98, u99, u100, u101, u102, u103, u104, u105, u106], defers := [] } W := by
            intro A19 S ns c19 W z83 z84 z85 z86 z87 z88 z89 z90 z91 z92 z93 hns hS hS32 hSc bS bW
            subst hns
            have HSe := Lib.hid hS
            have SB := Lib.hid bS
            have BW := Lib.hid bW
            clear hS bS bW
            refine hK18 _ _ ?_
            go_upto_region 18 with (fail)
            rename_i K20 hK20 K18b hK18b
            have H20 : ∀ (A18 : Option Addr) (P : List UInt8) (np c18 : Nat) (V : World) (z83 z84 z85 z86 z87 z88 z89 z90 z91 z92 z93 z94 z95 z96 z97 : Value), P.length = np → P = fillZ p → P.length ≤ 1048576 → P.length ≤ c18 → Bs V V.heap.size A18 P → Below W.heap.size W V → K20 { tmps := #[.slice a0 l0.length c0, .string ⟨lab.toArray⟩, .slice a2 ctx.length c2, .int .i64 m, .slice (some ad) ps.length c4, undef, undef, undef, undef, undef, u10, .slice A11 bs.length d11, .int .i64 er, .slice A13 bs.length d13, .int .i64 er, .slice A15 ps.length d15, .int .i64 0, .int .i64 (k : Int), .slice A18 np c18, .slice A19 S.length c19, u20, u21, u22, u23, u24, u25, .tuple #[.slice A11 bs.length d11, .int .i64 er], .slice a0 l0.length c0, .string ⟨lab.toArray⟩, .slice a2 ctx.length c2, .int .i64 m, .tuple #[.slice A11 bs.length d11, .int .i64 er], .slice A11 bs.length d11, .int .i64 er, .tuple #[.slice A13 bs.length d13, .int .i64 er], .slice a0 l0.length c0, .string ⟨lab.toArray⟩, .slice a2 ctx.length c2, .int .i64 m, .tuple #[.slice A13 bs.length d13, .int .i64 er], .slice A13 bs.length d13, .int .i64 er, .tuple #[.slice A15 ps.length d15, .int .i64 0], .slice (some ad) ps.length c4, .tuple #[.slice A15 ps.length d15, .int .i64 0], .slice A15 ps.length d15, .int .i64 0, .int .i64 er, .int .i64 er, .bool false, .bool false, .slice A11 bs.length d11, .string ⟨bs.toArray⟩, .slice A13 bs.length d13, .string ⟨bs.toArray⟩, .bool false, .bool false, .slice (some ad) ps.length c4, .int .i64 (ps.length : Int), .bool false, undef, undef, undef, undef, undef, undef, undef, .int .i64 0, .bool false, .bool false, .slice A15 ps.length d15, .int .i64 (ps.length : Int), .slice (some ad) ps.length c4, .int .i64 (ps.length : Int), .bool false, .bool false, .slice (some ad) ps.length c4, .int .i64 (ps.length : Int), .int .i64 (k : Int), .bool true, .int .i64 (k : Int), .pointer (some (ad.add k)), .slice a p.length ca, z83, z84, z85, z86, z87, z88, z89, z90, z91, z92, z93, z94, z95, z96, z97, u98, u99, u100, u101, u102, u103, u104, u105, u106], defers := [] } V := by
              intro A18 P np c18 V z83 z84 z85 z86 z87 z88 z89 z90 z91 z92 z93 z94 z95 z96 z97 hnp hP hPl hPc bP bV
              subst hnp
              have HSV := Lib.hid ((SB.out.below bV).more bV.size)
              have HPV := Lib.hid bP
              have Y0 := Lib.hid (BX.out.trans ((BW.out.trans (bV.mono BW.out.size)).mono BX.out.size))
              have hst := HS.out
              rw [← HSe.out, ← hP] at hst
              obtain ⟨hkR, hst⟩ := List.getElem?_eq_some_iff.1 hst
              obtain ⟨ad15, rfl, _, l32, bL⟩ := S15.out.at_ hkR
              rw [hst] at l32 bL
              obtain ⟨D, hD⟩ : ∃ D, extract S P = D := ⟨_, rfl⟩
              rw [hD] at l32 bL
              have HL := Lib.hid l32
              have BL := Lib.hid bL
              have HD := Lib.hid hD
              clear bP bV hst l32 bL hP hD
              refine hK20 _ _ ?_
              have ik : (k : Int) < (ps.length : Int) := by omega
              go_upto_region 20 with (fail)
              have hab := ab V
              have x0 := (Below.refl V.heap.size V).drew
              obtain ⟨V0, hV0⟩ : ∃ x, V.drew = x := ⟨_, rfl⟩
              refine wp_region_tree (.read 0 (.read 1 (.read 2 (.read 3 (.read 4 (.read 5 (.step 6 (.read 7 .done)))))))) (fun W => ∃ x : Ab V, W = x.val) (by kernel_rfl) (by kernel_rfl) (by decide) (fun _ _ d _ _ h => by cases d <;> exact h) (Cl.of (Below.refl _ _).drew) ?_
              rw [hV0] at x0 ⊢
              clear hV0
              iterate 3 (refine tree_read rfl (fun K hK => ?_); go_simp; refine hK _ ?_; clear hK K)
              refine tree_read rfl (fun K hK => want rfl ⟨_, fun W hW => load_bytesE (BL.out.below (Y0.out.trans ((Cl.below hW).mono Y0.out.size))) 27 (.tmp 100) rfl rfl dig rfl dig_size HL.out, hK _ ?_⟩)
              clear hK K
              iterate 2 (refine tree_read rfl (fun K hK => ?_); go_simp; refine hK _ ?_; clear hK K)
              have y0 := X3.out.trans ((Y0.out.trans (x0.mono Y0.out.size)).mono X3.out.size)
              have hge := gextract_any A19 S c19 A18 P c18 V0 ((HSV.out.below x0).more x0.size) (Nat.le_trans hS32 (by decide)) ((HPV.out.below x0).more x0.size) (Nat.le_trans hPl (by decide)) (HI.out.below y0) (HK.out.below y0)
              rw [HD.out] at hge
              have HGe := Lib.hid hge
              clear hge
              refine tree_step rfl (Cl.of x0) (fun K hK => ?_)
              go_simp
              refine HGe.out.mono ?_
              clear HGe
              rintro e V1 ⟨rfl, b1⟩
              have x1 := x0.trans (b1.mono x0.size)
              refine hK _ _ ⟨Cl.of x1, ?_⟩
              clear hK K b1
              have heq : ∀ x : Ab V, (Op.equalIn 10000 27 (.agg (Lib.byteCells D).toArray) (.agg (Lib.byteCells D).toArray)).run Tryd.prog x.val = .ok true x.val := fun x => eql_dig D HL.out x.val
              refine tree_read rfl (fun K hK => ?_)
              go_simp
              refine hK _ ?_
              clear hK K heq
              refine tree_done ?_
              have BF := Lib.hid (Y0.out.trans (x1.mono Y0.out.size))
              clear x0 x1 y0 hab
              go_wp2
              go_roundw
              case rel => exact ⟨k + 1, by omega, by go_num, BF.out⟩
              case measure => simp [intOf]; omega
            have HH := Lib.hid H20
            clear H20
            by_cases hz : p.length = 0
            · have ct4 : ((p.length : Int) == 0) = true := by rw [beq_iff_eq]; omega
              have hf : fillZ p = List.replicate 32 0 := by unfold fillZ; rw [if_pos hz]
              have hmk : (Instr.makeSlice 22 (.int .i64 32) (.int .i64 32)).run Tryd.prog W = .ok (.slice (some ⟨W.heap.size, 0, none⟩) 32 32) (W.alloc (.cells (madeCells #[.int .u8 0] 32) 5)) := makeN 32 (by omega) W
              have b1 := (Below.refl W.heap.size W).alloc (Nat.le_refl _) (.cells (madeCells #[.int .u8 0] 32) 5)
              have r1 := Row.madeN W.heap.size 32 W (Nat.le_refl _) (by unfold maxLen; omega)
              obtain ⟨W1, hW1⟩ : ∃ W1, W.alloc (.cells (madeCells #[.int .u8 0] 32) 5) = W1 := ⟨_, rfl⟩
              rw [hW1] at hmk b1 r1
              obtain ⟨AX, cX, eX, sX, _⟩ := r1.form2
              obtain ⟨rfl, -, -⟩ := Value.slice.inj eX
              have SX := Lib.hid sX
              have BX1 := Lib.hid b1
              have HF := Lib.hid hf
              clear r1 eX hW1 sX b1 hf hK20 hz
              go_wp2
              exact HH.out (some ⟨W.heap.size, 0, none⟩) (List.replicate 32 0) 32 32 W1 _ _ _ _ _ _ _ _ _ _ _ _ _ _ _ (by simp) HF.out.symm (by simp) (by simp) SX.out BX1.out
            · have ct4 : ((p.length : Int) == 0) = false := by rw [beq_eq_false_iff_ne]; omega
              have HF := Lib.hid (show fillZ p = p by unfold fillZ; rw [if_neg hz])
              clear hK20
              go_wp2
              exact HH.out a p p.length ca W _ _ _ _ _ _ _ _ _ _ _ _ _ _ _ rfl HF.out.symm hpl hca ((HBp.out.below BW.out).more BW.out.size) (Below.refl _ _)
          have HH := Lib.hid H18
          clear H18
          by_cases h0 : k = 0
          · have HE := Lib.hid (show ([] : List UInt8) = saltAt R k by unfold saltAt; rw [if_pos h0])
            clear hK18
            subst h0
            go_wp2
            have e : ad.add 0 = ad := add_zero ad
            rw [e] at HH
            exact HH.out none [] 0 0 wr _ _ _ _ _ _ _ _ _ _ _ rfl HE.out (by simp) (Nat.le_refl _) (Bs.nil _ _ _) (Below.refl _ _)
          · have ct5 : decide ((k : Int) > 0) = true := decide_eq_true (by omega)
            obtain ⟨j, hj⟩ : ∃ j, k - 1 = j := ⟨_, rfl⟩
            have hjl : j < R.length := by rw [HRl.out]; omega
            obtain ⟨ad15, rfl, _, l32, bL⟩ := S15.out.at_ hjl
            have HE0 := Lib.hid (show nextSalt R[j] = saltAt R k by unfold saltAt; rw [if_neg h0, hj, List.getD_eq_getElem?_getD, List.getElem?_eq_getElem hjl]; rfl)
            obtain ⟨D, hD⟩ : ∃ D, R[j] = D := ⟨_, rfl⟩
            rw [hD] at l32 bL HE0
            obtain ⟨S, hS⟩ : ∃ S, nextSalt D = S := ⟨_, rfl⟩
            rw [hS] at HE0
            have HSl : Hid (S.length = 32) := Lib.hid (by rw [← hS]; unfold nextSalt glabel; rw [if_neg (by decide), if_neg (by decide)]; exact expand_len _ _ _)
            have hgl := glabel_any (some (ad15.add (j * 32))) D 32 derived none [] 0 32 wr (by rw [l32]; decide) (by decide) (by decide) ((bL.below BX.out).more BX.out.size) (Bs.nil _ _ _) (HI.out.below Xr.out) (HK.out.below Xr.out)
            rw [show glabel D derived [] 32 = (S, 0) by rw [← hS]; unfold nextSalt glabel; rw [if_neg (by decide), if_neg (by decide)], l32] at hgl
            have HGl := Lib.hid hgl
            have wj : IntKind.i64.wrap ((k : Int) - 1) = (j : Int) := by rw [IntWalk.i64_in _ (by omega)]; omega
            have ij : (j : Int) < (ps.length : Int) := by rw [HRl.out] at hjl; omega
            clear hgl hD hS l32 bL hK18 hj
            go_wp2_with fail
            refine HGl.out.mono ?_
            clear HGl
            rintro e W ⟨A19, c19, rfl, hc19, s19, b19⟩
            have S19 := Lib.hid s19
            have B19 := Lib.hid b19
            simp only [HSl.out] at hc19 ⊢
            clear s19 b19
            go_wp2
            exact HH.out A19 S 32 c19 W _ _ _ _ _ _ _ _ _ _ _ HSl.out HE0.out (by rw [HSl.out]; exact Nat.le_refl _) (by rw [HSl.out]; exact hc19) S19.out B19.out
        · obtain rfl : k = ps.length := by omega
          have ct3 : decide ((ps.length : Int) < (ps.length : Int)) = false := decide_eq_false (by omega)
          have XF := Lib.hid (X3.out.trans (BX.out.mono X3.out.size))
          go_wp2
          go_ret
          exact ⟨rfl, XF.out⟩
  clear hK3
  by_cases h1 : n > 200
  · have ct1 : decide (n > 200) = true := decide_eq_true h1
    by_cases h2 : n ≤ 8160
    · have ct2 : decide (n ≤ 8160) = true := decide_eq_true h2
      go_wp2
      exact H 200 _ _ _ _ _ _ (by decide) (by decide)
    · have ct2 : decide (n ≤ 8160) = false := decide_eq_false h2
      go_wp2
      exact H n _ _ _ _ _ _ hn1 hn2
  · have ct1 : decide (n > 200) = false := decide_eq_false h1
    go_wp2
    exact H n _ _ _ _ _ _ hn1 hn2
end Go.Proofs.YtnlhcogmccladaaDoor.KdfLabelsL
