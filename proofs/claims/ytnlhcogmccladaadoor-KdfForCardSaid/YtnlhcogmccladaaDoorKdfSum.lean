/-
  kdf.orZeros, kdf.Steps: what they hand back. Conditions: in each statement.
-/
import Derived.Test.YtnlhcogmccladaaDoorKdfLab
import Derived.Test.YtnlhcogmccladaaDoorKc
namespace Go.Proofs.YtnlhcogmccladaaDoor.KdfSumW
open Go.RowKit BytesW CellsW WordsW ArrW HashM HashX HashMath HashCompW HashFinW HashRightW HashSumW HashMoreW MacM KdfM RowsW DigsW

set_option maxHeartbeats 2000000 in
set_option maxRecDepth 100000 in
theorem orZ_any (A : Option Addr) (p : List UInt8) (c : Nat) (w : World) (hA : Bs w w.heap.size A p) (hc : p.length ≤ c) :
    Calls Tryd.prog 24 #[.slice A p.length c] w fun e w' => ∃ A2 c2, e = .returned (.slice A2 (fillZ p).length c2) ∧ (fillZ p).length ≤ c2 ∧ Bs w' w'.heap.size A2 (fillZ p) ∧ Below w.heap.size w w' := by
  have HA := Lib.hid hA
  clear hA
  by_cases h0 : p.length = 0
  · have ct : ((p.length : Int) == 0) = true := beq_iff_eq.2 (by omega)
    have HF := Lib.hid (show fillZ p = List.replicate 32 0 by unfold fillZ; rw [if_pos h0])
    have hmk : (Instr.makeSlice 22 (.int .i64 32) (.int .i64 32)).run Tryd.prog w = .ok (.slice (some ⟨w.heap.size, 0, none⟩) 32 32) (w.alloc (.cells (madeCells #[.int .u8 0] 32) 5)) := makeN 32 (by omega) w
    have hr := Row.madeN w.heap.size 32 w (Nat.le_refl _) (by decide)
    have hbm : Below w.heap.size w (w.alloc (.cells (madeCells #[.int .u8 0] 32) 5)) := (Below.refl _ _).alloc (Nat.le_refl _) _
    obtain ⟨W, hW⟩ : ∃ W, w.alloc (.cells (madeCells #[.int .u8 0] 32) 5) = W := ⟨_, rfl⟩
    rw [hW] at hmk hr hbm
    obtain ⟨A2, c2, e2, s2, -⟩ := hr.form2
    cases e2
    have S2 := Lib.hid s2
    have X2 := Lib.hid hbm
    clear h0 hr hbm s2 hW
    go_enter Tryd.func24, Tryd.ntmps24
    go_wp2
    go_ret
    rw [HF.out]
    exact ⟨some ⟨w.heap.size, 0, none⟩, 32, by simp, by simp, S2.out, X2.out⟩
  · have ct : ((p.length : Int) == 0) = false := beq_eq_false_iff_ne.2 (by omega)
    have HF := Lib.hid (show fillZ p = p by unfold fillZ; rw [if_neg h0])
    clear h0
    go_enter Tryd.func24, Tryd.ntmps24
    go_wp2
    go_ret
    rw [HF.out]
    exact ⟨A, c, rfl, hc, HA.out, Below.refl _ _⟩

/-- What Steps answers. -/
def stepsM (ps : List (List UInt8)) : List (List UInt8) × Int := if 400 < ps.length then ([], 2) else (steps ps, 0)
def StepsPost (m : List (List UInt8) × Int) (w : World) (e : Ending) (w' : World) : Prop :=
  ∃ A c, e = .returned (.tuple #[.slice A m.1.length c, .int .i64 m.2]) ∧ m.1.length ≤ c ∧ Ds w' w'.heap.size A m.1 ∧ Below w.heap.size w w'

/-- The salt of input k. -/
def saltOf (ps : List (List UInt8)) : Nat → List UInt8
  | 0 => []
  | k + 1 => nextSalt ((steps ps).getD k [])
theorem steps_take (ps : List (List UInt8)) (k : Nat) : steps (ps.take k) = (steps ps).take k := stepsF_take ps [] k
theorem steps_at (ps : List (List UInt8)) (k : Nat) (h : k < ps.length) : (steps ps)[k]? = some (extract (saltOf ps k) (fillZ ps[k])) := by
  cases k with
  | zero =>
    cases ps with
    | nil => simp at h
    | cons p ps => exact stepsF_zero [] p ps
  | succ k =>
    have hk : k < (steps ps).length := by rw [steps_len]; omega
    have e := stepsF_succ ps [] k (steps ps)[k] (List.getElem?_eq_getElem hk) ps[k + 1] (List.getElem?_eq_getElem h)
    rw [show saltOf ps (k + 1) = nextSalt (steps ps)[k] by simp [saltOf, List.getD_eq_getElem?_getD, List.getElem?_eq_getElem hk]]
    exact e
theorem steps_step (ps : List (List UInt8)) (k : Nat) (h : k < ps.length) : steps (ps.take (k + 1)) = steps (ps.take k) ++ [extract (saltOf ps k) (fillZ ps[k])] := by
  have hk : k < (steps ps).length := by rw [steps_len]; omega
  have e := steps_at ps k h
  rw [List.getElem?_eq_getElem hk] at e
  rw [steps_take, steps_take, List.take_succ_eq_append_getElem hk, Option.some.inj e]
theorem steps_32 (ps : List (List UInt8)) : D32 (steps ps) := stepsF_32 ps []
/-- The digests so far, noughts behind them. -/
def partS (ds : List (List UInt8)) (m : Nat) : List UInt8 := ds.flatten ++ List.replicate (m * 32) 0
theorem partS_split (ds : List (List UInt8)) (m : Nat) : Lib.byteCells (partS ds (m + 1)) = Lib.byteCells ds.flatten ++ Lib.byteCells (List.replicate 32 0) ++ Lib.byteCells (List.replicate (m * 32) 0) := by
  unfold partS Lib.byteCells
  rw [List.append_assoc, ← List.map_append, ← List.map_append, List.replicate_append_replicate, show 32 + m * 32 = (m + 1) * 32 by omega]
theorem partS_join (ds : List (List UInt8)) (D : List UInt8) (m : Nat) : Lib.byteCells ds.flatten ++ Lib.byteCells D ++ Lib.byteCells (List.replicate (m * 32) 0) = Lib.byteCells (partS (ds ++ [D]) m) := by
  unfold partS Lib.byteCells
  rw [List.flatten_append, show ([D] : List (List UInt8)).flatten = D by simp, ← List.map_append, ← List.map_append]
theorem steps_flat (ps : List (List UInt8)) (k : Nat) (h : k ≤ ps.length) : (steps (ps.take k)).flatten.length = k * 32 := by
  rw [(steps_32 (ps.take k)).len, steps_len, List.length_take]
  omega
theorem partS_last (ds : List (List UInt8)) (D : List UInt8) (m : Nat) : partS (ds ++ [D]) m = ds.flatten ++ D ++ List.replicate (m * 32) 0 := by
  simp [partS]
theorem fillZ_le (p : List UInt8) (h : p.length ≤ 1048576) : (fillZ p).length ≤ 1048576 := by
  unfold fillZ
  split
  · simp
  · exact h
theorem derived_label (d : List UInt8) : glabel d derived [] 32 = (nextSalt d, 0) := rfl
theorem nextSalt_len (d : List UInt8) : (nextSalt d).length = 32 := expand_len _ _ 32

set_option maxHeartbeats 8000000 in
set_option maxRecDepth 100000 in
theorem ksteps_any (P : Option Addr) (ps : List (List UInt8)) (d : Nat) (w : World) (hP : Ms w w.heap.size P ps) (hd : ps.length ≤ d) (hps : ∀ p ∈ ps, p.length ≤ 1048576) (hn : ps.length ≤ 1048576) (hT : Tabs w) :
    Calls Tryd.prog 14 #[.slice P ps.length d] w fun e w' => StepsPost (stepsM ps) w e w' := by
  have HT := Lib.hid hT
  have HP := Lib.hid hP
  have HPS := Lib.hid hps
  clear hT hP hps
  obtain ⟨N, hN⟩ : ∃ N, ps.length = N := ⟨_, rfl⟩
  have HN := Lib.hid hN
  rw [hN] at hn hd ⊢
  by_cases h400 : 400 < N
  · have HE := Lib.hid (show stepsM ps = ([], 2) by unfold stepsM; rw [hN, if_pos h400])
    have ct : decide ((N : Int) > 400) = true := decide_eq_true (by omega)
    clear hN h400
    go_enter Tryd.func14, Tryd.ntmps14
    go_wp2
    go_ret2
    rw [HE.out]
    exact ⟨none, 0, rfl, Nat.le_refl _, Ds.nil _ _ _, Below.refl _ _⟩
  · have HE := Lib.hid (show stepsM ps = (steps ps, 0) by unfold stepsM; rw [hN, if_neg h400])
    have ct : decide ((N : Int) > 400) = false := decide_eq_false (by omega)
    have hN4 : N ≤ 400 := by omega
    clear hN h400
    go_enter Tryd.func14, Tryd.ntmps14
    have hmk := ArrMid.run_makeDigs N (by omega) w
    go_upto_region 4 with (fail)
    clear hmk
    generalize hW : World.alloc _ _ = W
    obtain ⟨H0, hbw, hsz⟩ := start1 hW
    clear hW
    obtain ⟨g, hg⟩ : ∃ g, w.heap.size = g := ⟨_, rfl⟩
    have HG := Lib.hid hg
    have A5 : Hid (Arr W g 27 (Lib.byteCells (partS (steps (ps.take 0)) N))) := Lib.hid (by rw [← hg]; exact H0)
    have X0 := Lib.hid hbw
    have HSZ := Lib.hid (show g < W.heap.size by omega)
    clear H0 hbw hsz
    rw [hg]
    rw [hg] at X0
    clear hg
    go_wp2
    clear ct
    go_loopw [5, 16] (fun v5 vi wr => ∃ k : Nat, k ≤ N ∧ vi = .int .i64 (k : Int) ∧ (k = 0 → v5 = .slice none 0 0) ∧ Arr wr g 27 (Lib.byteCells (partS (steps (ps.take k)) (N - k))) ∧ W.grownBy wr (some g)) (fun _ vi _ => N - (intOf vi).toNat)
    case atStart => exact ⟨0, by omega, rfl, fun _ => rfl, A5.out, grownRefl _ _⟩
    case round =>
      obtain ⟨k, hk, rfl, h5, ag, gr⟩ := hrel
      have AG := Lib.hid ag
      have GR := Lib.hid gr
      have H5 := Lib.hid h5
      have Xr := Lib.hid (X0.out.trans (grownBelow gr (Nat.le_refl _) (Nat.le_of_lt HSZ.out)))
      clear ag gr h5
      by_cases hlt : k < N
      · have ct : decide ((k : Int) < (N : Int)) = true := decide_eq_true (by omega)
        have hlp : k < ps.length := by rw [HN.out]; exact hlt
        obtain ⟨ad, a, ca, rfl, hadb, hcell, hbs, hca⟩ := HP.out.at_ hlp
        have hx : Below w.heap.size w wr := by rw [HG.out]; exact Xr.out
        have hc3 := (hx.cell (p := ad.add k) (by rw [add_block]; exact hadb)).trans hcell
        have HCs := Lib.hid (steps_step ps k hlp)
        have hpl := HPS.out ps[k] (List.getElem_mem hlp)
        obtain ⟨p, hp⟩ : ∃ p, ps[k] = p := ⟨_, rfl⟩
        rw [hp] at HCs hpl hc3 hbs hca
        have SP := Lib.hid ((hbs.below hx).more hx.size)
        have XR := Lib.hid hx
        clear hp hbs hcell hx
        by_cases h0 : k = 0
        · have e5 := H5.out h0
          subst e5
          have c0 : decide ((k : Int) > 0) = false := decide_eq_false (by omega)
          have c0' : decide (0 < k) = false := decide_eq_false (by omega)
          rw [show saltOf ps k = [] by rw [h0]; rfl] at HCs
          clear h0
          have HOz := Lib.hid (orZ_any a p ca wr SP.out hca)
          go_wp2_with fail
          refine HOz.out.mono ?_
          clear HOz
          rintro e w2 ⟨A2, c2, rfl, hc2, s2, b2⟩
          have hex := kextract_any none [] 0 A2 (fillZ p) c2 w2 (Bs.nil _ _ _) (Nat.le_refl _) s2 hc2 (by decide) (fillZ_le p hpl) (HT.out.below (XR.out.trans (b2.mono XR.out.size)))
          obtain ⟨D, hD⟩ : ∃ D, extract [] (fillZ p) = D := ⟨_, rfl⟩
          have HDl := Lib.hid (show D.length = 32 by rw [← hD]; exact extract_len _ _)
          have N32 := Lib.hid (show (Lib.byteCells D).length = 32 by rw [Lib.byteCells_length]; exact HDl.out)
          rw [hD] at hex HCs
          have HEx := Lib.hid hex
          have B2 := Lib.hid b2
          clear hex hD s2 b2
          go_wp2_with fail
          refine HEx.out.mono ?_
          clear HEx
          rintro e w3 ⟨rfl, b3⟩
          have AG3 := Lib.hid ((AG.out.below B2.out AG.out.lt).below b3 (Nat.lt_of_lt_of_le AG.out.lt B2.out.size))
          have GR3 := Lib.hid (grownTrans (grownTrans GR.out (grownOf B2.out (g := g))) (grownOf b3 (g := g)))
          have F := Lib.hid (show (Lib.byteCells (steps (ps.take k)).flatten).length = k * 32 by rw [Lib.byteCells_length]; exact steps_flat ps k (by omega))
          have hag := AG3.out
          rw [show N - k = (N - (k + 1)) + 1 by omega, partS_split] at hag
          have AS := Lib.hid hag
          have NZ := Lib.hid (show (Lib.byteCells (List.replicate 32 (0 : UInt8))).length = 32 by rw [Lib.byteCells_length]; rfl)
          obtain ⟨M, hM⟩ : ∃ M, N - (k + 1) = M := ⟨_, rfl⟩
          have HM := Lib.hid hM
          rw [hM] at AS
          clear hag b3 hM
          go_upto_region 11 with (refine ArrMid.storeMidL AS.out rfl 27 (.tmp 38) (.tmp 37) rfl (k * 32) F.out rfl (Lib.byteCells D) rfl dig_size NZ.out N32.out (bytes_one _) ?_)
          generalize hw4 : World.setRow _ _ _ = w4
          have a4 := AS.out.row (Lib.byteCells (steps (ps.take k)).flatten ++ Lib.byteCells D ++ Lib.byteCells (List.replicate (M * 32) 0))
          have g4 := grown_row w3 g (Lib.byteCells (steps (ps.take k)).flatten ++ Lib.byteCells D ++ Lib.byteCells (List.replicate (M * 32) 0)).toArray
          rw [hw4] at a4 g4
          rw [partS_join, ← HCs.out] at a4
          have A4 := Lib.hid a4
          have G4 := Lib.hid (grownTrans GR3.out g4)
          clear a4 g4 hw4 ct
          go_wp2
          go_roundw
          case rel => exact ⟨k + 1, by omega, by go_num, fun h => absurd h (Nat.succ_ne_zero _), by rw [HM.out]; exact A4.out, G4.out⟩
          case measure => simp [intOf]; omega
        · obtain ⟨j, hj⟩ : ∃ j, k = j + 1 := ⟨k - 1, by omega⟩
          have c0 : decide ((k : Int) > 0) = true := decide_eq_true (by omega)
          have c0' : decide (0 < k) = true := decide_eq_true (by omega)
          have i1 : (1 : Int) ≤ (k : Int) := by omega
          have i2 : (k : Int) - 1 < (N : Int) := by omega
          have hjp : j < ps.length := by rw [HN.out]; omega
          have hj1 := steps_at ps j hjp
          have hst := steps_step ps j hjp
          obtain ⟨d, hd⟩ : ∃ d, extract (saltOf ps j) (fillZ ps[j]) = d := ⟨_, rfl⟩
          rw [hd] at hj1 hst
          have hsd : saltOf ps k = nextSalt d := by rw [hj]; simp [saltOf, List.getD_eq_getElem?_getD, hj1]
          have hdl : d.length = 32 := by rw [← hd]; exact extract_len _ _
          have ha := AG.out
          rw [hj, hst, partS_last] at ha
          have hbd := ArrMid.bs_mid (B := wr.heap.size) ha ha.lt (j * 32) (steps_flat ps j (by omega))
          have hla := klabel_any (some ⟨g, j * 32, none⟩) d 32 derived none [] 0 32 wr hbd (by rw [hdl]; exact Nat.le_refl _) (Bs.nil _ _ _) (Nat.le_refl _) (by rw [hdl]; decide) (by decide) (by decide) (by decide) (by decide) (HT.out.below XR.out)
          rw [derived_label, hdl] at hla
          have hla2 : Calls Tryd.prog 12 #[.slice (some ⟨g, j * 32, none⟩) 32 32, .string ⟨#[100, 101, 114, 105, 118, 101, 100]⟩, .slice none 0 0, .int .i64 32] wr fun e w' => Post (nextSalt d, 0) wr e w' := hla
          rw [show j = k - 1 by omega] at hla2
          have HLa := Lib.hid hla2
          have HSl := Lib.hid (nextSalt_len d)
          rw [hsd] at HCs
          obtain ⟨s, hs⟩ : ∃ s, nextSalt d = s := ⟨_, rfl⟩
          rw [hs] at HLa HCs HSl
          clear h0 hj hj1 hst hd hsd hdl ha hbd hla hla2 hs hjp
          go_wp2_with fail
          refine HLa.out.mono ?_
          clear HLa
          rintro e w1 ⟨A1, c1, rfl, hc1, s1, b1⟩
          have X1 := Lib.hid (XR.out.trans (b1.mono XR.out.size))
          have SP1 := Lib.hid ((SP.out.below b1).more b1.size)
          have AG1 := Lib.hid (AG.out.below b1 AG.out.lt)
          have GR1 := Lib.hid (grownTrans GR.out (grownOf b1 (g := g)))
          simp only at hc1 s1 ⊢
          have S1 := Lib.hid s1
          have hsl := HSl.out
          clear b1 s1
          rw [hsl] at hc1 ⊢
          have HOz := Lib.hid (orZ_any a p ca w1 SP1.out hca)
          go_wp2_with fail
          refine HOz.out.mono ?_
          clear HOz
          rintro e w2 ⟨A2, c2, rfl, hc2, s2, b2⟩
          have hex := kextract_any A1 s c1 A2 (fillZ p) c2 w2 ((S1.out.below b2).more b2.size) (by rw [HSl.out]; exact hc1) s2 hc2 (by rw [HSl.out]; decide) (fillZ_le p hpl) (HT.out.below (X1.out.trans (b2.mono X1.out.size)))
          obtain ⟨D, hD⟩ : ∃ D, extract s (fillZ p) = D := ⟨_, rfl⟩
          have HDl := Lib.hid (show D.length = 32 by rw [← hD]; exact extract_len _ _)
          have N32 := Lib.hid (show (Lib.byteCells D).length = 32 by rw [Lib.byteCells_length]; exact HDl.out)
          rw [hD] at hex HCs
          rw [HSl.out] at hex
          have HEx := Lib.hid hex
          have B2 := Lib.hid b2
          clear hex hD s2 b2
          go_wp2_with fail
          refine HEx.out.mono ?_
          clear HEx
          rintro e w3 ⟨rfl, b3⟩
          have AG3 := Lib.hid ((AG1.out.below B2.out AG1.out.lt).below b3 (Nat.lt_of_lt_of_le AG1.out.lt B2.out.size))
          have GR3 := Lib.hid (grownTrans (grownTrans GR1.out (grownOf B2.out (g := g))) (grownOf b3 (g := g)))
          have F := Lib.hid (show (Lib.byteCells (steps (ps.take k)).flatten).length = k * 32 by rw [Lib.byteCells_length]; exact steps_flat ps k (by omega))
          have hag := AG3.out
          rw [show N - k = (N - (k + 1)) + 1 by omega, partS_split] at hag
          have AS := Lib.hid hag
          have NZ := Lib.hid (show (Lib.byteCells (List.replicate 32 (0 : UInt8))).length = 32 by rw [Lib.byteCells_length]; rfl)
          obtain ⟨M, hM⟩ : ∃ M, N - (k + 1) = M := ⟨_, rfl⟩
          have HM := Lib.hid hM
          rw [hM] at AS
          clear hag b3 hM
          go_upto_region 11 with (refine ArrMid.storeMidL AS.out rfl 27 (.tmp 38) (.tmp 37) rfl (k * 32) F.out rfl (Lib.byteCells D) rfl dig_size NZ.out N32.out (bytes_one _) ?_)
          generalize hw4 : World.setRow _ _ _ = w4
          have a4 := AS.out.row (Lib.byteCells (steps (ps.take k)).flatten ++ Lib.byteCells D ++ Lib.byteCells (List.replicate (M * 32) 0))
          have g4 := grown_row w3 g (Lib.byteCells (steps (ps.take k)).flatten ++ Lib.byteCells D ++ Lib.byteCells (List.replicate (M * 32) 0)).toArray
          rw [hw4] at a4 g4
          rw [partS_join, ← HCs.out] at a4
          have A4 := Lib.hid a4
          have G4 := Lib.hid (grownTrans GR3.out g4)
          clear a4 g4 hw4 ct
          go_wp2
          go_roundw
          case rel => exact ⟨k + 1, by omega, by go_num, fun h => absurd h (Nat.succ_ne_zero _), by rw [HM.out]; exact A4.out, G4.out⟩
          case measure => simp [intOf]; omega
      · obtain rfl : k = N := by omega
        have ct : decide ((k : Int) < (k : Int)) = false := decide_eq_false (by omega)
        have a1 := AG.out
        rw [Nat.sub_self, List.take_of_length_le (by rw [HN.out]; exact Nat.le_refl _), show partS (steps ps) 0 = (steps ps).flatten by simp [partS]] at a1
        have HDr := Lib.hid (ArrMid.drow_of (B := w.heap.size) a1 (steps_32 ps) (n := k) (by rw [steps_len]; exact HN.out) (by rw [HG.out]; exact Nat.le_refl _) (by unfold maxLen; omega))
        have XF : Hid (Below w.heap.size w wr) := Lib.hid (by rw [HG.out]; exact Xr.out)
        have HSl := Lib.hid (show (steps ps).length = k by rw [steps_len]; exact HN.out)
        clear a1
        go_wp2
        go_ret2
        rw [HE.out]
        obtain ⟨A', c', e', ds', hc'⟩ := HDr.out.form
        cases e'
        exact ⟨_, _, rfl, hc', ds', XF.out⟩
end Go.Proofs.YtnlhcogmccladaaDoor.KdfSumW
