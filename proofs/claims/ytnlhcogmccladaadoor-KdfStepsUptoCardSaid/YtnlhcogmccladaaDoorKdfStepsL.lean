/-
  The walk of ticketwardkeep.KdfSteps: it returns true and writes nothing that was there. Conditions: the tables that kdf asks for; bulk at most 1048576.
-/
import Derived.Test.YtnlhcogmccladaaDoorKdfAlive
import Derived.Test.YtnlhcogmccladaaDoorSEqualD
import Derived.Test.YtnlhcogmccladaaDoorRClone
import Derived.Test.YtnlhcogmccladaaDoorMRowSet
namespace Go.Proofs.YtnlhcogmccladaaDoor.KdfStepsL
open Go.RowKit BytesW CellsW ArrW HashX HashSumW HashFinW MacM KdfM KdfSumW DigsW RowsW SEqualDW

def total (rs : List (List UInt8)) : Nat := rs.foldr (fun r n => r.length + n) 0
theorem total_le (ls : List (List UInt8)) (p : List UInt8) (h : p ∈ ls) : p.length ≤ total ls := by
  induction ls with
  | nil => exact absurd h (by simp)
  | cons x r ih =>
    have e : total (x :: r) = x.length + total r := rfl
    rcases List.mem_cons.1 h with h | h
    · rw [h, e]; omega
    · have := ih h; omega
theorem ms_take {w : World} {B : Nat} {A : Option Addr} {ls : List (List UInt8)} (h : Ms w B A ls) (k : Nat) : Ms w B A (ls.take k) := by
  intro h0
  rw [List.length_take] at h0
  obtain ⟨ad, e, hlt, hc⟩ := h (by omega)
  refine ⟨ad, e, hlt, fun j hj => ?_⟩
  rw [List.length_take] at hj
  obtain ⟨a, c, h1, h2, h3⟩ := hc j (by omega)
  have e2 : (ls.take k)[j]'(by rw [List.length_take]; exact hj) = ls[j] := List.getElem_take
  exact ⟨a, c, by rw [e2]; exact h1, by rw [e2]; exact h2, by rw [e2]; exact h3⟩
/-- The first k rows filled. -/
def part (ps : List (List UInt8)) (k : Nat) : List (List UInt8) := (ps.take k).map fillZ ++ ps.drop k
theorem part_len (ps : List (List UInt8)) (k : Nat) (h : k ≤ ps.length) : (part ps k).length = ps.length := by simp [part]; omega
theorem part_at (ps : List (List UInt8)) (k : Nat) (h : k < ps.length) : (part ps k)[k]'(by rw [part_len ps k (by omega)]; exact h) = ps[k] := by
  have h1 : ((ps.take k).map fillZ).length = k := by simp; omega
  unfold part
  rw [List.getElem_append_right (by omega)]
  simp only [h1, Nat.sub_self, List.getElem_drop, Nat.add_zero]
theorem part_set (ps : List (List UInt8)) (k : Nat) (h : k < ps.length) : (part ps k).set k (fillZ ps[k]) = part ps (k + 1) := by
  have h1 : ((ps.take k).map fillZ).length = k := by simp; omega
  unfold part
  rw [List.set_append, if_neg (by omega), h1, Nat.sub_self, List.drop_eq_getElem_cons h, List.set_cons_zero, List.take_succ_eq_append_getElem h, List.map_append, List.append_assoc]
  rfl
theorem part_keep (ps : List (List UInt8)) (k : Nat) (h : k < ps.length) (hz : 0 < ps[k].length) : part ps k = part ps (k + 1) := by
  rw [← part_set ps k h, show fillZ ps[k] = ps[k] by unfold fillZ; rw [if_neg (by omega)]]
  have e := part_at ps k h
  rw [← e, List.set_getElem_self]
theorem part_all (ps : List (List UInt8)) : part ps ps.length = ps.map fillZ := by simp [part]

set_option maxHeartbeats 8000000 in
set_option maxRecDepth 100000 in
theorem walk (a0 : Option Addr) (ps : List (List UInt8)) (c0 : Nat) (n : Int) (w : World) (hA : Ms w w.heap.size a0 ps) (hc0 : ps.length ≤ c0) (hl : total ps + ps.length ≤ 1048576) (_ : (Lit.int .i64 n).wf = true) (hT : Tabs w) :
    Calls Tryd.prog 7 #[.slice a0 ps.length c0, .int .i64 n] w fun e w' => e = .returned (.bool true) ∧ Below w.heap.size w w' := by
  have hp : ∀ p ∈ ps, p.length ≤ 1048576 := fun p h => by have := total_le ps p h; omega
  have HT := Lib.hid hT
  have HA := Lib.hid hA
  have HP := Lib.hid hp
  obtain ⟨N, hN⟩ : ∃ N, ps.length = N := ⟨_, rfl⟩
  have HN := Lib.hid hN
  rw [hN] at hc0 hl ⊢
  have hN2 : N ≤ 1048576 := by omega
  clear hT hA hp hl hN
  go_enter Tryd.func7, Tryd.ntmps7
  go_wp2_with fail
  refine (KdfAliveW.alive_any w HT.out).mono ?_
  rintro e w1 ⟨rfl, b1⟩
  have X1 := Lib.hid b1
  clear b1
  by_cases h1 : n < 0
  · have ct : decide (n < 0) = true := decide_eq_true h1
    go_wp2
    go_ret
    exact ⟨rfl, X1.out⟩
  · have ct : decide (n < 0) = false := decide_eq_false h1
    by_cases h2 : n > (N : Int)
    · have ct2 : decide (n > (N : Int)) = true := decide_eq_true h2
      go_wp2
      go_ret
      exact ⟨rfl, X1.out⟩
    · have ct2 : decide (n > (N : Int)) = false := decide_eq_false h2
      by_cases h3 : (N : Int) > 20
      · have ct3 : decide ((N : Int) > 20) = true := decide_eq_true h3
        go_wp2
        go_ret
        exact ⟨rfl, X1.out⟩
      · have ct3 : decide ((N : Int) > 20) = false := decide_eq_false h3
        obtain ⟨m, rfl⟩ : ∃ m : Nat, n = (m : Int) := ⟨n.toNat, by omega⟩
        have hm : m ≤ N := by omega
        have hN20 : N ≤ 20 := by omega
        have im : (m : Int) ≤ (N : Int) := by omega
        have imc : (m : Int) ≤ (c0 : Int) := by omega
        clear h1 h2 h3
        obtain ⟨R, hR⟩ : ∃ R, steps ps = R := ⟨_, rfl⟩
        have HRl := Lib.hid (show R.length = N by rw [← hR, steps_len]; exact HN.out)
        have HRt := Lib.hid (show steps (ps.take m) = R.take m by rw [← hR]; exact stepsF_take ps [] m)
        have HRf := Lib.hid (show steps (ps.map fillZ) = R by rw [← hR]; exact stepsF_fill ps [])
        have hs := ksteps_any a0 ps c0 w1 ((HA.out.below X1.out).more X1.out.size) (by rw [HN.out]; exact hc0) HP.out (by rw [HN.out]; exact hN2) (HT.out.below X1.out)
        rw [show stepsM ps = (R, 0) by unfold stepsM; rw [if_neg (by rw [HN.out]; omega), hR], HN.out] at hs
        have HSt := Lib.hid hs
        clear hs hR
        go_wp2_with fail
        refine HSt.out.mono ?_
        clear HSt
        rintro e w2 ⟨A5, d5, rfl, hd5, s5, b2⟩
        simp only [HRl.out] at hd5 ⊢
        have X2 := Lib.hid (X1.out.trans (b2.mono X1.out.size))
        have S5 := Lib.hid s5
        simp only at S5
        clear b2 s5
        have HTl := Lib.hid (show (ps.take m).length = m by rw [List.length_take, HN.out]; omega)
        have hs := ksteps_any a0 (ps.take m) c0 w2 (ms_take ((HA.out.below X2.out).more X2.out.size) m) (by rw [HTl.out]; omega) (fun p h => HP.out p (List.mem_of_mem_take h)) (by rw [HTl.out]; omega) (HT.out.below X2.out)
        rw [show stepsM (ps.take m) = (R.take m, 0) by unfold stepsM; rw [if_neg (by rw [HTl.out]; omega), HRt.out], HTl.out] at hs
        have HSt := Lib.hid hs
        have HRm := Lib.hid (show (R.take m).length = m by rw [List.length_take, HRl.out]; omega)
        clear hs
        go_wp2_with fail
        refine HSt.out.mono ?_
        clear HSt
        rintro e w3 ⟨A7, d7, rfl, hd7, s7, b3⟩
        simp only [HRm.out] at hd7 ⊢
        have X3 := Lib.hid (X2.out.trans (b3.mono X2.out.size))
        have S53 := Lib.hid ((S5.out.below b3).more b3.size)
        have S7 := Lib.hid s7
        simp only at S7
        clear b3 s7 S5
        have hcl := RCloneW.clone_any a0 ps c0 w3 ((HA.out.below X3.out).more X3.out.size) (by rw [HN.out]; omega)
        rw [HN.out] at hcl
        have HCl := Lib.hid hcl
        clear hcl
        go_wp2_with fail
        refine HCl.out.mono ?_
        clear HCl
        rintro e w4 ⟨v9, rfl, r9, b4⟩
        obtain ⟨A9, c9, rfl, -, hc9⟩ := r9.form
        rw [HN.out] at hc9 ⊢
        have R9 : Hid (MRow w3.heap.size w4 (.slice A9 N c9) (part ps 0)) := Lib.hid (by rw [HN.out] at r9; simpa [part] using r9)
        have B4 := Lib.hid b4
        clear r9 b4 ct ct2 ct3
        go_wp2
        go_loopw [44] (fun vi wr => ∃ k : Nat, k ≤ N ∧ vi = .int .i64 (k : Int) ∧ MRow w3.heap.size wr (.slice A9 N c9) (part ps k) ∧ Below w3.heap.size w3 wr) (fun vi _ => N - (intOf vi).toNat)
        case atStart => exact ⟨0, by omega, rfl, R9.out, B4.out⟩
        case round =>
          obtain ⟨k, hk, rfl, mr, bx⟩ := hrel
          have MR := Lib.hid mr
          have BX := Lib.hid bx
          clear mr bx
          by_cases hlt : k < N
          · have ct : decide ((k : Int) < (N : Int)) = true := decide_eq_true (by omega)
            have hlp : k < ps.length := by rw [HN.out]; exact hlt
            have hpl : k < (part ps k).length := by rw [part_len ps k (by omega)]; exact hlp
            obtain ⟨us, h1, h2⟩ := MR.out
            have hul : us.length = N := by rw [h2.1, part_len ps k (by omega)]; exact HN.out
            rcases h1.2 with ⟨e, h0⟩ | ⟨g, cap, cur, e, hg1, hg2, hcap, _⟩
            · omega
            · obtain ⟨rfl, -, -⟩ := Value.slice.inj e
              obtain ⟨A', c', e', hms, _⟩ := MR.out.form
              obtain ⟨rfl, -, -⟩ := Value.slice.inj e'
              obtain ⟨ad, a, ca, had, hadb, hcell, hbs, hca⟩ := hms.at_ hpl
              cases had
              rw [show (⟨g, 0, none⟩ : Addr).add k = ⟨g, k, none⟩ by by_cases h0 : k = 0 <;> simp [Addr.add, h0], part_at ps k hlp] at hcell
              rw [part_at ps k hlp] at hbs hca
              have hgl := hadb
              simp only at hgl
              have ik : (k : Int) < (N : Int) := by omega
              clear h1 h2 hul hcap hadb hms e e'
              by_cases hz : ps[k].length = 0
              · have ct2 : ((ps[k].length : Int) == 0) = true := by rw [beq_iff_eq]; omega
                have hps := part_set ps k hlp
                rw [show fillZ ps[k] = List.replicate 32 0 by unfold fillZ; rw [if_pos hz]] at hps
                obtain ⟨p, hpp⟩ : ∃ p, ps[k] = p := ⟨_, rfl⟩
                rw [hpp] at hcell ct2 hz
                have hmk : (Instr.makeSlice 22 (.int .i64 32) (.int .i64 32)).run Tryd.prog wr = .ok (.slice (some ⟨wr.heap.size, 0, none⟩) 32 32) (wr.alloc (.cells (madeCells #[.int .u8 0] 32) 5)) := makeN 32 (by omega) wr
                have b1 := (Below.refl wr.heap.size wr).alloc (Nat.le_refl _) (.cells (madeCells #[.int .u8 0] 32) 5)
                have r1 := Row.madeN wr.heap.size 32 wr (Nat.le_refl _) (by unfold maxLen; omega)
                obtain ⟨W1, hW1⟩ : ∃ W1, wr.alloc (.cells (madeCells #[.int .u8 0] 32) 5) = W1 := ⟨_, rfl⟩
                rw [hW1] at hmk b1 r1
                obtain ⟨AX, cX, eX, sX, _⟩ := r1.form2
                obtain ⟨rfl, -, -⟩ := Value.slice.inj eX
                have mr1 := MR.out.below b1
                obtain ⟨us1, h11, h12⟩ := mr1
                have hul1 : us1.length = N := by rw [h12.1, part_len ps k (by omega)]; exact HN.out
                have h13 : W1.ownsRow w3.heap.size 22 1 (.slice (some ⟨g, 0, none⟩) N c9) N us1 := by have h := h11; unfold VRow at h; rw [hul1] at h; exact h
                have fr := World.ownsRow.frozenAt h13 k
                have hcell1 := (b1.cell (p := ⟨g, k, none⟩) hgl).trans hcell
                obtain ⟨hset, hgr⟩ := MRowSet.set_at (MR.out.below b1) k (some ⟨wr.heap.size, 0, none⟩) (List.replicate 32 0) 32 (by simp) sX (fun _ ad e => by cases e; simp only; omega)
                rw [hps, List.length_replicate] at hset
                have HS := Lib.hid hset
                rw [List.length_replicate] at hgr
                have HB := Lib.hid ((BX.out.trans (b1.mono BX.out.size)).trans (ArrG.grownBelow hgr hg1 (Nat.le_trans BX.out.size b1.size)))
                clear hset hgr r1 sX eX h11 h12 h13 hps hpp b1 hul1 hW1
                go_wp2
                go_roundw
                case rel => exact ⟨k + 1, by omega, by go_num, HS.out, HB.out⟩
                case measure => simp [intOf]; omega
              · have ct2 : ((ps[k].length : Int) == 0) = false := by rw [beq_eq_false_iff_ne]; omega
                have HK := Lib.hid (part_keep ps k hlp (by omega))
                obtain ⟨p, hpp⟩ : ∃ p, ps[k] = p := ⟨_, rfl⟩
                rw [hpp] at hcell ct2 hz
                clear hpp
                go_wp2
                go_roundw
                case rel => exact ⟨k + 1, by omega, by go_num, by rw [← HK.out]; exact MR.out, BX.out⟩
                case measure => simp [intOf]; omega
          · obtain rfl : k = N := by omega
            have ct : decide ((k : Int) < (k : Int)) = false := decide_eq_false (by omega)
            have hpa : part ps k = ps.map fillZ := by rw [← HN.out]; exact part_all ps
            have hmr := MR.out
            rw [hpa] at hmr
            obtain ⟨A', c', e', hms, _⟩ := hmr.form
            obtain ⟨rfl, -, -⟩ := Value.slice.inj e'
            have X5 := Lib.hid (X3.out.trans (BX.out.mono X3.out.size))
            have S55 := Lib.hid ((S53.out.below BX.out).more BX.out.size)
            have S75 := Lib.hid ((S7.out.below BX.out).more BX.out.size)
            have HML := Lib.hid (show (ps.map fillZ).length = k by rw [List.length_map]; exact HN.out)
            have hs := ksteps_any A9 (ps.map fillZ) c9 wr hms (by rw [HML.out]; exact hc9) (fun p h => by
              obtain ⟨q, hq, rfl⟩ := List.mem_map.1 h
              have := HP.out q hq
              unfold fillZ
              split
              · simp
              · exact this) (by rw [HML.out]; exact hN2) (HT.out.below X5.out)
            rw [show stepsM (ps.map fillZ) = (R, 0) by unfold stepsM; rw [if_neg (by rw [HML.out]; omega), HRf.out], HML.out] at hs
            have HSt := Lib.hid hs
            clear hs hms hmr hpa e'
            go_wp2_with fail
            refine HSt.out.mono ?_
            clear HSt
            rintro e w6 ⟨A11, d11, rfl, hd11, s11, b6⟩
            simp only [HRl.out] at hd11 ⊢
            have X6 := Lib.hid (X5.out.trans (b6.mono X5.out.size))
            have S56 := Lib.hid ((S55.out.below b6).more b6.size)
            have S76 := Lib.hid ((S75.out.below b6).more b6.size)
            have S11 := Lib.hid s11
            simp only at S11
            clear b6 s11
            have heq1 := equal_any A5 A7 (R.take m) d5 d7 w6 (S56.out.take m) S76.out (by rw [HRm.out]; omega)
            rw [HRm.out] at heq1
            have HE1 := Lib.hid heq1
            clear heq1
            have imd : (m : Int) ≤ (d5 : Int) := by omega
            go_wp2_with fail
            refine HE1.out.mono ?_
            clear HE1
            rintro e w7 ⟨rfl, n7, hw7⟩
            have b7 : Below w6.heap.size w6 w7 := by rw [hw7]; exact belowN _ _ _
            have X7 := Lib.hid (X6.out.trans (b7.mono X6.out.size))
            have heq2 := equal_any A5 A11 R d5 d11 w7 ((S56.out.below b7).more b7.size) ((S11.out.below b7).more b7.size) (by rw [HRl.out]; omega)
            rw [HRl.out] at heq2
            have HE2 := Lib.hid heq2
            clear heq2 b7 hw7
            go_wp2_with fail
            refine HE2.out.mono ?_
            clear HE2
            rintro e w8 ⟨rfl, n8, hw8⟩
            have b8 : Below w7.heap.size w7 w8 := by rw [hw8]; exact belowN _ _ _
            have X8 := Lib.hid (X7.out.trans (b8.mono X7.out.size))
            clear b8 hw8
            go_wp2
            go_ret
            exact ⟨rfl, X8.out⟩
end Go.Proofs.YtnlhcogmccladaaDoor.KdfStepsL
