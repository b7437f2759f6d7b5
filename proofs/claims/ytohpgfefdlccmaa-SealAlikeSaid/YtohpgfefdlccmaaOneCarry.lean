/-
  ticketwardref.ICarry: what it hands back. Conditions: in the statement.
-/
import Derived.Test.YtohpgfefdlccmaaKf
import Derived.Test.YtohpgfefdlccmaaOneI
import Derived.Deep.DeepCutAuto
namespace Go.Proofs.Ytohpgfefdlccmaa.OneCarryW
open Go.RowKit BytesW ArrW ArrG OneM OneI

/-- The digits as they lie in a world. -/
def look (g : Nat) (w : World) : List Nat := (List.range 11).map fun k => match w.cell? ⟨g, k, none⟩ with
  | some (.int _ n) => n.toNat
  | _ => 0
theorem look_of {w : World} {g : Nat} {t : TypeId} {d : List Nat} (h : Arr w g t (ic d)) (hl : d.length = 11) : look g w = d := by
  apply List.ext_getElem?
  intro k
  unfold look
  by_cases hk : k < 11
  · have hk' : k < d.length := by omega
    rw [List.getElem?_map, List.getElem?_range hk, Option.map_some, h.cell, ic_getD d k hk', List.getD_eq_getElem?_getD, List.getElem?_eq_getElem hk']
    simp
  · rw [List.getElem?_eq_none (by simp; omega), List.getElem?_eq_none (by omega)]
def meas (g : Nat) (w : World) : Nat := num (look g w) + (look g w).sum

set_option maxHeartbeats 8000000 in
set_option maxRecDepth 100000 in
theorem carry_any (g : Nat) (d : List Nat) (w : World) (hd : StartC d) (ha : Arr w g 3 (ic d)) :
    Calls Try.prog 49 #[.slice (some ⟨g, 0, none⟩) 11 11] w fun e w' => e = .returned (.slice (some ⟨g, 0, none⟩) 11 11) ∧ ∃ a, DoneC a ∧ num a % pp = num d % pp ∧ Arr w' g 3 (ic a) ∧ w.grownBy w' (some g) := by
  have HA := Lib.hid ha
  have HD := Lib.hid hd
  clear ha hd
  go_enter Try.func49, Try.ntmps49
  go_wp2
  go_loopw [3] (fun _ wr => ∃ d1, StartC d1 ∧ num d1 % pp = num d % pp ∧ Arr wr g 3 (ic d1) ∧ w.grownBy wr (some g)) (fun _ wr => meas g wr)
  case atStart => exact ⟨d, HD.out, rfl, HA.out, grownRefl _ _⟩
  case round =>
    obtain ⟨d1, hs1, hm1, a1, g1⟩ := hrel
    have HS1 := Lib.hid hs1
    have HM1 := Lib.hid hm1
    have A1 := Lib.hid a1
    have G1 := Lib.hid g1
    obtain ⟨M0, hM0⟩ : ∃ M0, meas g wr = M0 := ⟨_, rfl⟩
    have HM0 := Lib.hid hM0
    have HMs := Lib.hid (show M0 = num d1 + d1.sum by rw [← hM0]; unfold meas; rw [look_of a1 hs1.1])
    clear hM0
    clear hs1 hm1 a1 g1
    go_wp2
    go_loopw [3, 8] (fun vd vk wx => ∃ (k : Nat) (d2 : List Nat) (β : Bool), k ≤ 11 ∧ vk = .int .i64 (k : Int) ∧ vd = .bool β ∧ (k ≤ 10 → AtC d2 k) ∧ (k = 11 → StartC d2) ∧ num d2 % pp = num d1 % pp ∧ (β = true → d2 = d1 ∧ ∀ m, m < k → overC d1 m = 0) ∧ (β = false → num d2 + d2.sum < num d1 + d1.sum) ∧ Arr wx g 3 (ic d2) ∧ w.grownBy wx (some g)) (fun _ vk _ => 11 - (intOf vk).toNat)
    case atStart => exact ⟨0, d1, true, by omega, rfl, rfl, fun _ => HS1.out.at_, fun h => absurd h (by decide), rfl, fun _ => ⟨rfl, fun m hm => by omega⟩, (fun h => by cases h), A1.out, G1.out⟩
    case round =>
      obtain ⟨k, d2, β, hk, rfl, rfl, hat, hst, hmod, hβ1, hβ0, a2, g2⟩ := hrel
      have HAt := Lib.hid hat
      have HSt := Lib.hid hst
      have HMo := Lib.hid hmod
      have HB1 := Lib.hid hβ1
      have HB0 := Lib.hid hβ0
      have A2 := Lib.hid a2
      have G2 := Lib.hid g2
      clear hat hst hmod hβ1 hβ0 a2 g2
      by_cases hlt : k < 11
      · have ct : decide ((k : Int) < 11) = true := decide_eq_true (by omega)
        have hatk := HAt.out (by omega)
        have hl2 := hatk.1
        have HL2 := Lib.hid hl2
        have ck := A2.out.cell k
        rw [ic_getD d2 k (by omega)] at ck
        have fk := A2.out.frozen k
        have ik : (k : Int) < 11 := by omega
        by_cases hk10 : k = 10
        · subst hk10
          have tk : (((10 : Nat) : Int) == 10) = true := rfl
          obtain ⟨x, hx⟩ : ∃ x, d2.getD 10 0 = x := ⟨_, rfl⟩
          obtain ⟨o, ho⟩ : ∃ o, x / 8192 = o := ⟨_, rfl⟩
          have HO := Lib.hid (show overC d2 10 = x by unfold overC; rw [if_pos rfl, hx])
          rw [hx] at ck
          have q1 : (x : Int) / 8192 = (o : Int) := by omega
          have q2 : (x : Int) / 2 ^ 13 = (o : Int) := by
            have h2 : (2 : Int) ^ 13 = 8192 := by decide
            rw [h2]
            exact q1
          by_cases hx0 : x = 0
          · have tz : ((x : Int) == 0) = true := by rw [beq_iff_eq]; omega
            have HNext := Lib.hid (hatk.last_skip (by rw [HO.out]; exact hx0))
            have HOv := Lib.hid (show overC d2 10 = 0 by rw [HO.out]; exact hx0)
            clear hatk hl2 hx ho hx0
            go_wp2
            exact ⟨⟨11, d2, β, by omega, rfl, rfl, fun h => absurd h (by omega), fun _ => HNext.out, HMo.out, fun hb => ⟨(HB1.out hb).1, fun m hm => by
              by_cases e : m = 10
              · rw [e, ← (HB1.out hb).1]; exact HOv.out
              · exact (HB1.out hb).2 m (by omega)⟩, HB0.out, A2.out, G2.out⟩, by simp [intOf]⟩
          · have tz : ((x : Int) == 0) = false := by rw [beq_eq_false_iff_ne]; omega
            have hxl : x < 1103806595072 := by
              have h44 : d2.getD 10 0 < 2 ^ 40 + 2 ^ 32 := hatk.2.2.2.2.1
              rw [hx] at h44
              omega
            obtain ⟨x0, hx00⟩ : ∃ x0, d2.getD 0 0 = x0 := ⟨_, rfl⟩
            have hx0l : x0 < 8192 := by have h := hatk.2.1 0 (by decide); rw [hx00] at h; exact h
            have a3 := A2.out.set 10 (.int .i64 ((0 : Nat) : Int))
            rw [ic_set] at a3
            have A3 := Lib.hid a3
            have c1 := a3.cell 0
            rw [ic_getD _ 0 (by simp; omega), OneM.getD_set_ne _ _ _ _ (by decide), hx00] at c1
            have f1 := a3.frozen 0
            have a4 := a3.set 0 (.int .i64 ((x0 + 5 * x : Nat) : Int))
            rw [ic_set, show (d2.set 10 0).set 0 (x0 + 5 * x) = stepC d2 10 by unfold stepC; rw [if_pos rfl, hx, hx00]] at a4
            have HNext := Lib.hid hatk.last
            have HMo2 := Lib.hid ((stepC_mod d2 10 hl2 (by decide)).trans HMo.out)
            have HLess := Lib.hid (stepC_less d2 10 hl2 (by decide) (by rw [HO.out]; omega))
            have A4 : Hid (Arr ((wr.setCell ⟨g, 10, none⟩ (.int .i64 0)).setCell ⟨g, 0, none⟩ (.int .i64 ((x0 : Int) + 5 * (x : Int)))) g 3 (ic (stepC d2 10))) := Lib.hid (by
              have e : ((x0 : Int) + 5 * (x : Int)) = ((x0 + 5 * x : Nat) : Int) := by omega
              rw [e]
              exact a4)
            have G4 := Lib.hid (grownTrans (grownTrans G2.out (grownSet wr g 10 (.int .i64 0))) (grownSet (wr.setCell ⟨g, 10, none⟩ (.int .i64 0)) g 0 (.int .i64 ((x0 : Int) + 5 * (x : Int)))))
            have HB2 := Lib.hid (show num (stepC d2 10) + (stepC d2 10).sum < num d1 + d1.sum by
              cases β with
              | true => have h := (HB1.out rfl).1; rw [h]; have h2 := HLess.out; rw [h] at h2; exact h2
              | false => exact Nat.lt_trans HLess.out (HB0.out rfl))
            have c1' : (wr.setCell ⟨g, 10, none⟩ (.int .i64 0)).cell? ⟨g, 0, none⟩ = some (.int .i64 (x0 : Int)) := c1
            have f1' : (wr.setCell ⟨g, 10, none⟩ (.int .i64 0)).frozen? ⟨g, 0, none⟩ = false := f1
            clear hatk hl2 hx ho hx00 a3 a4 hx0 c1 f1
            go_wp2
            exact ⟨⟨11, stepC d2 10, false, by omega, rfl, rfl, fun h => absurd h (by omega), fun _ => HNext.out, HMo2.out, (fun h => by cases h), fun _ => HB2.out, A4.out, G4.out⟩, by simp [intOf]⟩
        · have tk : ((k : Int) == 10) = false := by rw [beq_eq_false_iff_ne]; omega
          have hk9 : k < 10 := by omega
          have ik1 : (k : Int) + 1 < 11 := by omega
          obtain ⟨x, hx⟩ : ∃ x, d2.getD k 0 = x := ⟨_, rfl⟩
          obtain ⟨o, ho⟩ : ∃ o, x / 8192 = o := ⟨_, rfl⟩
          have HO := Lib.hid (show overC d2 k = o by unfold overC; rw [if_neg hk10, hx, ho])
          rw [hx] at ck
          have q1 : (x : Int) / 8192 = (o : Int) := by omega
          have q2 : (x : Int) / 2 ^ 13 = (o : Int) := by have : (2 : Int) ^ 13 = 8192 := by decide
                                                         rw [this]; exact q1
          by_cases ho0 : o = 0
          · have tz : ((o : Int) == 0) = true := by rw [beq_iff_eq]; omega
            have HNext := Lib.hid (hatk.skip (by omega) (by rw [HO.out]; exact ho0))
            have HOv := Lib.hid (show overC d2 k = 0 by rw [HO.out]; exact ho0)
            clear hatk hl2 hx ho ho0 hk10
            go_wp2
            exact ⟨⟨k + 1, d2, β, by omega, by go_num, rfl, fun _ => HNext.out, fun h => absurd h (by omega), HMo.out, fun hb => ⟨(HB1.out hb).1, fun m hm => by
              by_cases e : m = k
              · rw [e, ← (HB1.out hb).1]; exact HOv.out
              · exact (HB1.out hb).2 m (by omega)⟩, HB0.out, A2.out, G2.out⟩, by simp [intOf]; omega⟩
          · have tz : ((o : Int) == 0) = false := by rw [beq_eq_false_iff_ne]; omega
            have hx44 : x < 17596481011712 := by
              have h44 : d2.getD k 0 < 2 ^ 44 + 2 ^ 32 := hatk.2.2.1
              rw [hx] at h44
              omega
            have ho32 : o < 4294967296 := by omega
            obtain ⟨P, hP⟩ : ∃ P, o * 8192 = P := ⟨_, rfl⟩
            obtain ⟨y, hy⟩ : ∃ y, x - P = y := ⟨_, rfl⟩
            obtain ⟨x1, hx1⟩ : ∃ x1, d2.getD (k + 1) 0 = x1 := ⟨_, rfl⟩
            have hx1l : x1 < 17596481011712 := by
              rw [← hx1]
              by_cases e : k + 1 = 10
              · rw [e]
                have h44 : d2.getD 10 0 < 2 ^ 40 + 2 ^ 32 := hatk.2.2.2.2.1
                omega
              · have h44 : d2.getD (k + 1) 0 < 2 ^ 44 := hatk.2.2.2.1 (k + 1) (by omega) (by omega)
                omega
            have p1 : IntKind.i64.wrap ((o : Int) * 2 ^ 13) = (P : Int) := by rw [show ((2 : Int) ^ 13) = 8192 by decide, IntWalk.i64_in _ (by omega)]; omega
            have p2 : IntKind.i64.wrap ((o : Int) * 8192) = (P : Int) := by rw [IntWalk.i64_in _ (by omega)]; omega
            have p3 : IntKind.i64.wrap ((x : Int) - (P : Int)) = (y : Int) := by rw [IntWalk.i64_in _ (by omega)]; omega
            have a3 := A2.out.set k (.int .i64 (y : Int))
            rw [ic_set] at a3
            have A3 := Lib.hid a3
            have c1 := a3.cell (k + 1)
            rw [ic_getD _ (k + 1) (by simp; omega), OneM.getD_set_ne _ _ _ _ (by omega), hx1] at c1
            have f1 := a3.frozen (k + 1)
            have a4 := a3.set (k + 1) (.int .i64 ((x1 + o : Nat) : Int))
            rw [ic_set] at a4
            have HStep := Lib.hid (show (d2.set k y).set (k + 1) (x1 + o) = stepC d2 k by unfold stepC; rw [if_neg hk10, hx, hx1, ho, hP, hy])
            rw [HStep.out] at a4
            have HNext := Lib.hid (hatk.step (by omega))
            have HMo2 := Lib.hid ((stepC_mod d2 k hl2 hlt).trans HMo.out)
            have HLess := Lib.hid (stepC_less d2 k hl2 hlt (by rw [HO.out]; omega))
            have A4 : Hid (Arr ((wr.setCell ⟨g, k, none⟩ (.int .i64 (y : Int))).setCell ⟨g, k + 1, none⟩ (.int .i64 ((x1 : Int) + (o : Int)))) g 3 (ic (stepC d2 k))) := Lib.hid (by rw [← Int.natCast_add]; exact a4)
            have G4 := Lib.hid (grownTrans (grownTrans G2.out (grownSet wr g k (.int .i64 (y : Int)))) (grownSet (wr.setCell ⟨g, k, none⟩ (.int .i64 (y : Int))) g (k + 1) (.int .i64 ((x1 : Int) + (o : Int)))))
            have HB2 := Lib.hid (show num (stepC d2 k) + (stepC d2 k).sum < num d1 + d1.sum by
              cases β with
              | true => have h := (HB1.out rfl).1; rw [h]; have h2 := HLess.out; rw [h] at h2; exact h2
              | false => exact Nat.lt_trans HLess.out (HB0.out rfl))
            clear hatk hl2 hx ho hk10 hP hy hx1 a3 a4
            go_wp2
            exact ⟨⟨k + 1, stepC d2 k, false, by omega, by go_num, rfl, fun _ => HNext.out, fun h => absurd h (by omega), HMo2.out, (fun h => by cases h), fun _ => HB2.out, A4.out, G4.out⟩, by simp [intOf]; omega⟩
      · obtain rfl : k = 11 := by omega
        have ct : decide (((11 : Nat) : Int) < 11) = false := rfl
        have hs2 := HSt.out rfl
        cases β with
        | true =>
          obtain ⟨rfl, hov⟩ := HB1.out rfl
          have HDn := Lib.hid (done_of hs2.1 hov)
          have HMf := Lib.hid (HMo.out.trans HM1.out)
          clear hov hs2
          go_wp2
          go_ret
          exact ⟨rfl, d2, HDn.out, HMf.out, A2.out, G2.out⟩
        | false =>
          have hless := HB0.out rfl
          have HMf := Lib.hid (HMo.out.trans HM1.out)
          have hme : ∀ wz, Arr wz g 3 (ic d2) → meas g wz < M0 := fun wz hz => by
            rw [HMs.out]
            unfold meas
            rw [look_of hz hs2.1]
            exact hless
          have HMe := Lib.hid (hme _ A2.out)
          have HS2 := Lib.hid hs2
          clear hs2 hless hme
          go_wp2
          exact ⟨⟨d2, HS2.out, HMf.out, A2.out, G2.out⟩, by rw [HM0.out]; exact HMe.out⟩
end Go.Proofs.Ytohpgfefdlccmaa.OneCarryW
