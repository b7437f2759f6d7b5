/-
  wide.message.add: what it leaves behind. Conditions: in each statement.
-/
import Derived.Test.YtmmmogccjopfeaaDoorWideOct
import Derived.Test.YtmmmogccjopfeaaDoorArrEq
namespace Go.Proofs.YtmmmogccjopfeaaDoor.WideAddW
open Go.RowKit BytesW CellsW LongsW ArrW ArrG ArrL WideM WideX WideTurnW WideMore WideEndW WideCompW WideOctW

theorem TabR.drew {w : World} (h : TabR w) : TabR w.drew := h
/-- A piece laid into what waits. -/
theorem mc_splice (S : List Nat) (n r : Nat) (R c : List UInt8) (h : S.length = 8) :
    (mc S n R).take (9 + r) ++ (Lib.byteCells c ++ (mc S n R).drop (9 + r + c.length)) = mc S n (R.take r ++ (c ++ R.drop (r + c.length))) := by
  have h8 : (lc S).length = 8 := by rw [lc_length]; exact h
  unfold mc
  rw [List.take_append, List.drop_append, h8, List.take_of_length_le (by omega), List.drop_of_length_le (by omega), show 9 + r - 8 = r + 1 by omega, show 9 + r + c.length - 8 = (r + c.length) + 1 by omega,
    List.take_succ_cons, List.drop_succ_cons]
  simp [Lib.byteCells, List.map_take, List.map_drop, List.map_append]
theorem rest_len (R c : List UInt8) (r : Nat) (hR : R.length = 128) (hc : r + c.length ≤ 128) : (R.take r ++ (c ++ R.drop (r + c.length))).length = 128 := by simp; omega
theorem rest_take (R c : List UInt8) (r : Nat) (hR : R.length = 128) (hc : r + c.length ≤ 128) : (R.take r ++ (c ++ R.drop (r + c.length))).take (r + c.length) = R.take r ++ c := by
  rw [← List.append_assoc, List.take_append_of_le_length (by simp; omega), List.take_of_length_le (by simp; omega)]
theorem mc_bs {w : World} {g : Nat} {t : TypeId} {S : List Nat} {n : Nat} {R : List UInt8} (h : Arr w g t (mc S n R)) (hS : S.length = 8) : Bs w w.heap.size (some ⟨g, 9, none⟩) R := by
  intro _
  refine ⟨_, rfl, h.lt, fun k hk => ?_⟩
  have e : (⟨g, 9, none⟩ : Addr).add k = ⟨g, 9 + k, none⟩ := by unfold Addr.add; split <;> simp_all
  rw [e, h.cell]
  unfold mc
  rw [List.getElem?_append_right (by rw [lc_length]; omega), lc_length, hS, show 9 + k - 8 = k + 1 by omega, List.getElem?_cons_succ]
  simp [Lib.byteCells, List.getElem?_eq_getElem hk]
def sliceLen : Value → Nat
  | .slice _ n _ => n
  | _ => 0

/-- What holds between two rounds. -/
def Rel (g : Nat) (pre l : List UInt8) (w : World) (v : Value) (wr : World) : Prop := ∃ (done m R2 : List UInt8) (A1 : Option Addr) (c1 : Nat), l = done ++ m ∧ v = .slice A1 m.length c1 ∧ m.length ≤ c1 ∧ Bs w w.heap.size A1 m ∧ Off g A1 m ∧ R2.length = 128 ∧ R2.take ((pre ++ done).length % 128) = over (pre ++ done) ∧ Arr wr g 46 (mc (run IV (pre ++ done)) (pre ++ done).length R2) ∧ w.grownBy wr (some g)

set_option maxHeartbeats 8000000 in
set_option maxRecDepth 100000 in
theorem add_any (g : Nat) (pre l R : List UInt8) (a : Option Addr) (c : Nat) (w : World) (hM : Arr w g 46 (mc (run IV pre) pre.length R)) (hR : R.length = 128) (hO : R.take (pre.length % 128) = over pre)
    (hA : Bs w w.heap.size a l) (hc : l.length ≤ c) (hne : Off g a l) (hlen : pre.length + l.length < 1152921504606846976) (hT : TabR w) (hg : 2 ≠ g) :
    Calls Tryd.prog 16 #[.pointer (some ⟨g, 0, none⟩), .slice a l.length c] w fun e w' => e = .returned (.tuple #[]) ∧ ∃ R' : List UInt8, R'.length = 128 ∧ R'.take ((pre ++ l).length % 128) = over (pre ++ l) ∧ Arr w' g 46 (mc (run IV (pre ++ l)) (pre ++ l).length R') ∧ w.grownBy w' (some g) := by
  have HM := Lib.hid hM
  have HR := Lib.hid hR
  have HO := Lib.hid hO
  have HA := Lib.hid hA
  have HN := Lib.hid hne
  have HT := Lib.hid hT
  clear hM hR hO hA hne hT
  go_enter Tryd.func16, Tryd.ntmps16
  go_wp2
  go_loopw [1] (fun v wr => Rel g pre l w v wr) (fun v _ => sliceLen v)
  case atStart => exact ⟨[], l, R, a, c, rfl, rfl, hc, HA.out, HN.out, HR.out, by rw [List.append_nil]; exact HO.out, by rw [List.append_nil]; exact HM.out, grownRefl _ _⟩
  case round =>
    obtain ⟨done, m, R2, A1, c1, hl, rfl, hc1, hb, hn, hR2, hO2, hm, hgr⟩ := hrel
    have HL := Lib.hid hl
    have HR2 := Lib.hid hR2
    have HO2 := Lib.hid hO2
    have HBs := Lib.hid hb
    have HOff := Lib.hid hn
    have HG := Lib.hid hgr
    have hlp : (pre ++ done).length + m.length < 1152921504606846976 := by rw [hl] at hlen; simp at hlen ⊢; omega
    clear hl hR2 hO2 hb hn hgr HM HR HO HA HN
    obtain ⟨p, hp⟩ : ∃ p, pre ++ done = p := ⟨_, rfl⟩
    rw [hp] at HO2 hm hlp
    have HP := Lib.hid hp
    have HSm := Lib.hid (sm_run p IV sm_IV)
    clear hp
    by_cases h0 : 0 < m.length
    · have ct : decide ((m.length : Int) > 0) = true := decide_eq_true (by omega)
      obtain ⟨r, hr⟩ : ∃ r, p.length % 128 = r := ⟨_, rfl⟩
      have hr128 : r < 128 := by omega
      have e0 : ((p.length : Nat) : Int).tmod 128 = (r : Int) := by rw [Int.tmod_eq_emod_of_nonneg (by omega)]; omega
      obtain ⟨n, hn⟩ : ∃ n, Nat.min m.length (128 - r) = n := ⟨_, rfl⟩
      have hn1 : 1 ≤ n ∧ n ≤ m.length ∧ r + n ≤ 128 := by
        rw [show Nat.min m.length (128 - r) = min m.length (128 - r) from rfl] at hn
        omega
      obtain ⟨ad, rfl, hadb, hadc⟩ := HBs.out h0
      have hadg : ad.block ≠ g := HOff.out h0 ad rfl
      have c8 := hm.cell 8
      rw [mc_long _ _ _ HSm.out.1] at c8
      have HMr := Lib.hid hm
      have Hn := Lib.hid hn
      have Hr := Lib.hid hr
      obtain ⟨L, hL⟩ : ∃ L, p.length = L := ⟨_, rfl⟩
      rw [hL] at c8 e0 hlp
      have HLp := Lib.hid hL
      clear hm hn hr hL
      have k1 : (r : Int) ≤ 128 := by omega
      go_upto_region 1 with (fail)
      refine Phase.wp_region_phases [([], [0, 1, 2, 3, 4, 5, 6, 7, 8, 9], some 10), ([11], [], none)] (fun W => W = wr.drew) (by kernel_rfl) (by kernel_rfl) (fun _ _ d _ _ h => by cases d <;> exact h) rfl ?_
      refine Phase.g_alone rfl (Phase.p_nil ?_)
      iterate 8 (refine Phase.q_step rfl (fun K hK => ?_); go_simp; refine hK _ ?_; clear hK K)
      refine Phase.q_step rfl (fun K hK => ?_)
      go_simp
      rw [if_neg (show ¬ 128 = r by omega)]
      refine hK _ ?_
      clear hK K
      refine Phase.q_step rfl (fun K hK => ?_)
      go_simp
      refine hK _ ?_
      clear hK K
      refine Phase.q_nil ?_
      rintro _ rfl K hK
      refine want rfl ?_
      have hml : (m.take n).length = n := by rw [List.length_take]; omega
      have hbl : (Lib.byteCells (m.take n)).length = n := by rw [Lib.byteCells, List.length_map]; exact hml
      refine copyO (.tmp 16) (.tmp 17) 22 22 rfl 5 Tryd.underlying22 (by kernel_rfl) g (9 + r) (128 - r) (128 - r) ad m.length c1 rfl rfl (mc (run IV p) p.length R2) 46 HMr.out.drew (Lib.byteCells (m.take n)) (by rw [hbl]; exact Hn.out.symm) ?_ (by rw [hbl, mc_len _ _ _ HSm.out.1 HR2.out]; omega) (bytes_one _) ?_
      · intro j v hv
        have hj : j < n := by
          rw [← hbl]
          exact (List.getElem?_eq_some_iff.1 hv).1
        have hjm : j < m.length := by omega
        obtain ⟨ad2, e2, _, hcl⟩ := (bs_keep HBs.out HG.out HOff.out).at_ hjm
        cases e2
        rw [Lib.byteCells, List.getElem?_map, List.getElem?_take, if_pos hj, List.getElem?_eq_getElem hjm] at hv
        simp only [Option.map_some, Option.some.injEq] at hv
        rw [← hv]
        exact hcl
      rw [hbl]
      have hsp := mc_splice (run IV p) p.length r R2 (m.take n) HSm.out.1
      rw [hml] at hsp
      rw [hsp]
      obtain ⟨R3, hR3⟩ : ∃ R3, R2.take r ++ (m.take n ++ R2.drop (r + n)) = R3 := ⟨_, rfl⟩
      rw [hR3]
      have HR3 := Lib.hid (show R3.length = 128 by have h := rest_len R2 (m.take n) r HR2.out (by omega); rw [hml, hR3] at h; exact h)
      have HT3 := Lib.hid (show R3.take (r + n) = R2.take r ++ m.take n by have h := rest_take R2 (m.take n) r HR2.out (by omega); rw [hml, hR3] at h; exact h)
      have A5' := (HMr.out.drew).row (mc (run IV p) p.length R3)
      have G5' := grownTrans (grownDrew wr (some g)) (grown_row wr.drew g (mc (run IV p) p.length R3).toArray)
      obtain ⟨w5, hw5⟩ : ∃ w5, wr.drew.setRow g (mc (run IV p) p.length R3).toArray = w5 := ⟨_, rfl⟩
      rw [hw5] at A5' G5' ⊢
      refine hK _ _ ⟨fun W => W = w5, rfl, ?_⟩
      clear hK K hsp hw5 hR3 hbl
      refine Phase.g_quiet ?_
      refine Phase.p_step rfl (fun K hK => ?_)
      go_simp
      refine hK _ ?_
      clear hK K
      refine Phase.p_nil (Phase.q_nil (Phase.g_nil ?_))
      intro wz hz
      rw [show wz = w5 from hz]
      clear hz wz c8
      have c8 := A5'.cell 8
      rw [mc_long _ _ _ HSm.out.1, HLp.out] at c8
      have f8 := A5'.frozen 8
      have x1 : IntKind.u64.wrap ((L : Int) + (n : Int)) = ((L + n : Nat) : Int) := by rw [u64_wrap]; omega
      have x2 : IntKind.u64.wrap (n : Int) = (n : Int) := by rw [u64_wrap]; omega
      have A5 := Lib.hid A5'
      have G5 := Lib.hid (grownTrans HG.out G5')
      clear A5' G5' HMr HG
      go_upto_region 3 with (fail)
      obtain ⟨M, hM⟩ : ∃ M, L + n = M := ⟨_, rfl⟩
      have hLn : (L : Int) + (n : Int) = (M : Int) := by omega
      rw [hLn]
      generalize hw6 : World.setCell _ _ _ = w6
      have A6' : Arr w6 g 46 (mc (run IV p) M R3) := by
        have h := A5.out.set 8 (.int .u64 (M : Int))
        rw [hw6, mc_setLong _ _ _ _ HSm.out.1] at h
        exact h
      have G6 := Lib.hid (show w.grownBy w6 (some g) by rw [← hw6]; exact grownTrans G5.out (grownSet _ _ _ _))
      clear hw6 c8 f8 x1 x2 hLn A5 G5 e0 k1
      have c8 := A6'.cell 8
      rw [mc_long _ _ _ HSm.out.1] at c8
      have A6 := Lib.hid A6'
      clear A6'
      have k1 : (n : Int) ≤ (c1 : Int) := by omega
      have k2 : (n : Int) ≤ (m.length : Int) := by omega
      obtain ⟨q, hq⟩ : ∃ q, M % 128 = q := ⟨_, rfl⟩
      have e0 : ((M : Nat) : Int).tmod 128 = (q : Int) := by rw [Int.tmod_eq_emod_of_nonneg (by omega)]; omega
      have e1 : (M : Int) % 128 = (q : Int) := by omega
      have hnx : l = (done ++ m.take n) ++ m.drop n := by rw [List.append_assoc, List.take_append_drop]; exact HL.out
      have hpx : pre ++ (done ++ m.take n) = p ++ m.take n := by rw [← List.append_assoc, HP.out]
      have hMx : (p ++ m.take n).length = M := by rw [List.length_append, hml, HLp.out]; exact hM
      have hrq : r + n = 128 ∧ q = 0 ∨ r + n < 128 ∧ q = r + n := by have := Hr.out; have := HLp.out; omega
      rcases hrq with ⟨hrn, rfl⟩ | ⟨hrn, rfl⟩
      · have cz : ((0 : Nat) : Int) = 0 := rfl
        rw [cz] at e0 e1
        have HC := Lib.hid (fun (V : World) (hV : V = w6.drew) => by
          subst hV
          exact compress_any (run IV p) HSm.out ⟨g, 9, none⟩ R3 w6.drew (mc_bs A6.out.drew HSm.out.1) HR3.out (TabR.drew (HT.out.grown G6.out hg)))
        have E3 := Lib.hid (show block (run IV p) R3 = run IV (p ++ m.take n) by
          rw [run_full IV p (m.take n) (by rw [Hr.out, hml]; exact hrn), ← HO2.out, Hr.out, ← HT3.out, hrn, List.take_of_length_le (by rw [HR3.out]; omega)])
        have N8 := Lib.hid (show (lc (run IV p)).length = 8 by rw [lc_length]; exact HSm.out.1)
        have NB := Lib.hid (show (lc (block (run IV p) R3)).length = 8 by rw [lc_length]; exact (sm_block _ _ HSm.out.1).1)
        have u8 : Tryd.prog.underlying 41 = some (.array 8 40) := by kernel_rfl
        have i8 : (Tryd.prog.info? 41).map (·.size) = some 8 := by kernel_rfl
        have U8 := Lib.hid u8
        have I8 := Lib.hid i8
        clear u8 i8
        go_upto_region 5 with (fail)
        refine Phase.wp_region_phases [([0], [1, 2, 3, 4, 5, 6, 7], some 8), ([9, 10], [], some 11)] (fun W => W = w6.drew) (by kernel_rfl) (by kernel_rfl) (fun _ _ d _ _ h => by cases d <;> exact h) rfl ?_
        refine Phase.g_alone rfl ?_
        refine Phase.p_step rfl (fun K hK => ?_)
        go_simp
        refine hK _ ?_
        clear hK K
        refine Phase.p_nil ?_
        iterate 3 (refine Phase.q_step rfl (fun K hK => ?_); go_simp; refine hK _ ?_; clear hK K)
        refine Phase.q_step rfl (fun K hK => want rfl ?_)
        refine Arr.loadPartQ (fun W (h : W = w6.drew) => by subst h; exact A6.out.drew) 41 (.tmp 40) rfl rfl U8.out rfl I8.out N8.out ?_
        refine hK _ ?_
        clear hK K
        iterate 3 (refine Phase.q_step rfl (fun K hK => ?_); go_simp; refine hK _ ?_; clear hK K)
        refine Phase.q_nil ?_
        intro V hV K hK
        rw [show V = w6.drew from hV]
        go_simp
        refine (HC.out _ rfl).mono ?_
        clear HC
        rintro e w9 ⟨rfl, hb9⟩
        refine hK _ _ ⟨fun W => W = w9, rfl, ?_⟩
        clear hK K
        have A9 := Lib.hid (A6.out.drew.below hb9 A6.out.lt)
        have HG9 := Lib.hid (grownTrans G6.out (grownTrans (grownDrew w6 (some g)) (grownTrans (grownOf (g := g) hb9) (grown_row w9 g (mc (block (run IV p) R3) M R3).toArray))))
        clear hb9 A6 G6
        refine Phase.g_alone rfl ?_
        iterate 2 (refine Phase.p_step rfl (fun K hK => ?_); go_simp; refine hK _ ?_; clear hK K)
        refine Phase.p_nil (Phase.q_nil ?_)
        intro wz hz K hK
        rw [show wz = w9 from hz]
        refine want rfl ?_
        refine Arr.storePartO A9.out 41 (.tmp 47) (.tmp 45) rfl rfl (lc (block (run IV p) R3)) rfl I8.out N8.out NB.out (lc_one _) ?_
        have A10 := Lib.hid (A9.out.row (mc (block (run IV p) R3) M R3))
        obtain ⟨wx, hwx⟩ : ∃ x, w9.setRow g (mc (block (run IV p) R3) M R3).toArray = x := ⟨_, rfl⟩
        rw [hwx] at A10 HG9
        refine hK _ _ ⟨fun W => W = wx, hwx, ?_⟩
        clear hK K hwx A9
        refine Phase.g_nil ?_
        intro wz hz
        rw [show wz = wx from hz]
        clear hz
        have B' := Lib.hid (show Bs w w.heap.size (if c1 = n then some ad else some (ad.add n)) (m.drop n) from HBs.out.cut n c1 hc1)
        have O' := Lib.hid (show Off g (if c1 = n then some ad else some (ad.add n)) (m.drop n) from HOff.out.cut n c1)
        have HV' := Lib.hid (over_full (p ++ m.take n) (by rw [hMx]; omega))
        have hmod : (p ++ m.take n).length % 128 = 0 := by rw [hMx]; omega
        have A10' : Hid (Arr wx g 46 (mc (run IV (p ++ m.take n)) (p ++ m.take n).length R3)) := Lib.hid (by rw [hMx, ← E3.out]; exact A10.out)
        have HRel := Lib.hid (show Rel g pre l w (.slice (if c1 = n then some ad else some (ad.add n)) (m.length - n) (c1 - n)) wx from ⟨done ++ m.take n, m.drop n, R3, _, c1 - n, hnx, by rw [List.length_drop], by rw [List.length_drop]; omega, B'.out, O'.out, HR3.out, by rw [hpx, hmod, HV'.out]; rfl, by rw [hpx]; exact A10'.out, HG9.out⟩)
        clear A10 E3 NB N8 c8 hnx hpx hmod hMx e0 e1 B' O' A10' HV'
        obtain ⟨A2, hA2⟩ : ∃ A2, (if c1 = n then some ad else some (ad.add n)) = A2 := ⟨_, rfl⟩
        rw [hA2] at HRel ⊢
        clear hA2
        go_simp
        go_wp2
        go_roundw
        case rel => exact HRel.out
        case measure => simp [sliceLen]; omega
      · have B' := Lib.hid (show Bs w w.heap.size (if c1 = n then some ad else some (ad.add n)) (m.drop n) from HBs.out.cut n c1 hc1)
        have O' := Lib.hid (show Off g (if c1 = n then some ad else some (ad.add n)) (m.drop n) from HOff.out.cut n c1)
        have hmod : (p ++ m.take n).length % 128 = r + n := by rw [hMx]; exact hq
        have HV' := Lib.hid (show R3.take (r + n) = over (p ++ m.take n) by
          rw [HT3.out, over_append p (m.take n) (by rw [Hr.out, hml]; exact hrn), ← HO2.out, Hr.out])
        have A6' : Hid (Arr w6 g 46 (mc (run IV (p ++ m.take n)) (p ++ m.take n).length R3)) := Lib.hid (by rw [hMx, run_fill IV p (m.take n) (by rw [Hr.out, hml]; exact hrn)]; exact A6.out)
        have cn : decide (((r + n : Nat) : Int) = 0) = false := decide_eq_false (by omega)
        have cn2 : ¬ ((r + n : Nat) : Int) = 0 := by omega
        have HRel := Lib.hid (show Rel g pre l w (.slice (if c1 = n then some ad else some (ad.add n)) (m.length - n) (c1 - n)) w6 from ⟨done ++ m.take n, m.drop n, R3, _, c1 - n, hnx, by rw [List.length_drop], by rw [List.length_drop]; omega, B'.out, O'.out, HR3.out, by rw [hpx, hmod, HV'.out], by rw [hpx]; exact A6'.out, G6.out⟩)
        clear A6 hnx hpx hmod hMx B' O' A6' HV'
        generalize r + n = q at *
        go_wp2
        go_roundw
        case rel => exact HRel.out
        case measure => simp [sliceLen]; omega
    · have ct : decide ((m.length : Int) > 0) = false := decide_eq_false (by omega)
      have hm0 : m = [] := List.length_eq_zero_iff.1 (by omega)
      have HE := Lib.hid (show pre ++ l = p by rw [HL.out, hm0, List.append_nil]; exact HP.out)
      have HMr := Lib.hid hm
      clear hm
      go_wp2
      refine bodyPost_end (v := .tuple #[]) (results_none (by rfl) _ _ _) rfl ⟨rfl, R2, HR2.out, ?_, ?_, HG.out⟩
      · rw [HE.out]; exact HO2.out
      · rw [HE.out]; exact HMr.out
end Go.Proofs.YtmmmogccjopfeaaDoor.WideAddW
