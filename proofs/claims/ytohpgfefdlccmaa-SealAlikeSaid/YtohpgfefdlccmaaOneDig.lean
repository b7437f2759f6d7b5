/-
  ticketwardref.IDigits: what it hands back. Conditions: in the statement.
-/
import Derived.Test.YtohpgfefdlccmaaKf
import Derived.Test.YtohpgfefdlccmaaOneI
import Derived.Test.YtohpgfefdlccmaaKc
import Derived.Deep.DeepCutAuto
namespace Go.Proofs.Ytohpgfefdlccmaa.OneDigW
open Go.RowKit BytesW ArrW ArrG OneM OneI

set_option maxHeartbeats 4000000 in
set_option maxRecDepth 100000 in
theorem digits_any (A : Option Addr) (b : List UInt8) (c : Nat) (w : World) (hA : Bs w w.heap.size A b) (hb : b.length ≤ 17) :
    Calls Try.prog 48 #[.slice A b.length c] w fun e w' => e = .returned (.slice (some ⟨w.heap.size, 0, none⟩) 11 11) ∧ Arr w' w.heap.size 3 (ic (digs (lev b) (8 * b.length))) ∧ Below w.heap.size w w' := by
  have HA := Lib.hid hA
  obtain ⟨v, hv⟩ : ∃ v, lev b = v := ⟨_, rfl⟩
  have HV := Lib.hid hv
  rw [hv]
  have hmk := make11 w
  clear hA hv
  go_enter Try.func48, Try.ntmps48
  go_upto_region 2 with (fail)
  clear hmk
  generalize hW : World.alloc _ _ = W
  obtain ⟨r0, hb0, hs0⟩ := start1 hW
  clear hW
  obtain ⟨g, hg⟩ : ∃ g, w.heap.size = g := ⟨_, rfl⟩
  have HG := Lib.hid hg
  have A0 : Hid (Arr W g 3 (ic (digs v 0))) := Lib.hid (by rw [digs_zero, ← hg]; exact r0)
  have X0 : Hid (Below g w W) := Lib.hid (by rw [← hg]; exact hb0)
  have HSZ := Lib.hid (show g ≤ W.heap.size by omega)
  rw [hg] at HA ⊢
  clear r0 hb0 hs0 hg
  go_wp2
  go_loopw [10] (fun vk wr => ∃ k : Nat, k ≤ b.length ∧ vk = .int .i64 (k : Int) ∧ Arr wr g 3 (ic (digs v (8 * k))) ∧ W.grownBy wr (some g)) (fun vk _ => b.length - (intOf vk).toNat)
  case atStart => exact ⟨0, by omega, rfl, A0.out, grownRefl _ _⟩
  case round =>
    obtain ⟨k, hk, rfl, ak, gk⟩ := hrel
    have AK := Lib.hid ak
    have GK := Lib.hid gk
    clear ak gk
    by_cases hlt : k < b.length
    · have ct : decide ((k : Int) < (b.length : Int)) = true := decide_eq_true (by omega)
      obtain ⟨ad, rfl, hadb, cx⟩ := HA.out.at_ hlt
      have cx1 := ((X0.out.trans (grownBelow GK.out (Nat.le_refl _) HSZ.out)).cell (p := ad.add k) (by rw [add_block]; exact hadb)).trans cx
      have HBit := Lib.hid (fun (i : Nat) (hi : i < 8) => (show v / 2 ^ (8 * k + i) % 2 = b[k].toNat / 2 ^ i % 2 by rw [← HV.out]; exact lev_bit b k i hlt hi))
      obtain ⟨x, hx⟩ : ∃ x, b[k].toNat = x := ⟨_, rfl⟩
      have hxl : x < 256 := by rw [← hx]; exact b[k].toNat_lt
      rw [hx] at cx1 HBit
      clear cx hx
      go_wp2
      go_loopw [15] (fun vi wx => ∃ i : Nat, i ≤ 8 ∧ vi = .int .i64 (i : Int) ∧ Arr wx g 3 (ic (digs v (8 * k + i))) ∧ W.grownBy wx (some g)) (fun vi _ => 8 - (intOf vi).toNat)
      case atStart => exact ⟨0, by omega, rfl, AK.out, GK.out⟩
      case round =>
        obtain ⟨i, hi, rfl, ai, gi⟩ := hrel
        have AI := Lib.hid ai
        have GI := Lib.hid gi
        clear ai gi
        by_cases hli : i < 8
        · have ci : decide ((i : Int) < 8) = true := decide_eq_true (by omega)
          have hbit := HBit.out i hli
          have hlt2 : x / 2 ^ i < 256 := Nat.lt_of_le_of_lt (Nat.div_le_self _ _) hxl
          have h2 := and1_u8 (x / 2 ^ i) hlt2
          rw [← hbit, Int.natCast_ediv, Int.natCast_pow] at h2
          obtain ⟨β, hβ⟩ : ∃ β, v / 2 ^ (8 * k + i) % 2 = β := ⟨_, rfl⟩
          rw [hβ] at h2
          have h3 : bits .and .u8 ((x : Int) / 2 ^ i) 1 = (β : Int) := h2
          have h4 : bits .and .u8 ((x : Int) / 2 ^ (min i 8)) 1 = (β : Int) := by rw [Nat.min_eq_left (by omega)]; exact h3
          have Hβ := Lib.hid hβ
          have hβ2 : β < 2 := by rw [← hβ]; exact Nat.mod_lt _ (by decide)
          clear hbit h2 hβ hlt2
          by_cases hb1 : β = 1
          · have tb : ((β : Int) == 1) = true := by rw [beq_iff_eq]; omega
            have HN := Lib.hid (digs_bit v (8 * k + i) (by omega) (by rw [Hβ.out]; exact hb1))
            clear hb1
            obtain ⟨t, ht⟩ : ∃ t, 8 * k + i = t := ⟨_, rfl⟩
            have ht143 : t < 143 := by omega
            obtain ⟨j, hj⟩ : ∃ j, t / 13 = j := ⟨_, rfl⟩
            obtain ⟨r, hr⟩ : ∃ r, t % 13 = r := ⟨_, rfl⟩
            obtain ⟨k8, hk8⟩ : ∃ k8, 8 * k = k8 := ⟨_, rfl⟩
            have hown := (digit_own v t).2
            rw [← digs_at v t (t / 13) (by omega), hj, hr] at hown
            have ai := AI.out
            have HN' := HN.out
            rw [ht] at ai HN'
            rw [hj, hr] at HN'
            have cj := ai.cell j
            rw [ic_getD _ j (by rw [digs_len]; omega)] at cj
            have fj := ai.frozen j
            obtain ⟨D, hD⟩ : ∃ D, (digs v t).getD j 0 = D := ⟨_, rfl⟩
            rw [hD] at cj hown HN'
            have hor := or_bit D r hown (by omega)
            obtain ⟨P, hP⟩ : ∃ P, 2 ^ r = P := ⟨_, rfl⟩
            have hPl : P ≤ 4096 := by rw [← hP, show (4096 : Nat) = 2 ^ 12 by decide]; exact Nat.pow_le_pow_right (by decide) (by omega)
            have wP : IntKind.i64.wrap (2 ^ r) = (P : Int) := by
              rw [← hP, Int.natCast_pow]
              refine IntWalk.i64_in _ ?_
              have : ((2 ^ r : Nat) : Int) = 2 ^ r := by rw [Int.natCast_pow]; rfl
              have h2 : ((2 : Nat) : Int) = 2 := rfl
              omega
            rw [hP] at hor HN'
            obtain ⟨E, hE⟩ : ∃ E, D + P = E := ⟨_, rfl⟩
            rw [hE] at hor HN'
            have a2 := (ai.set j (.int .i64 (E : Int))).drew
            rw [ic_set, HN'] at a2
            have g2 := grownTrans GI.out (grownTrans (grownSet wr g j (.int .i64 (E : Int))) (grownDrew _ (some g)))
            have A2 := Lib.hid a2
            have G2 := Lib.hid g2
            have w1 : IntKind.i64.wrap (8 * (k : Int)) = (k8 : Int) := by rw [IntWalk.i64_in _ (by omega)]; omega
            have w2 : IntKind.i64.wrap ((k8 : Int) + (i : Int)) = (t : Int) := by rw [IntWalk.i64_in _ (by omega)]; omega
            have d1 : (t : Int).tdiv 13 = (j : Int) := by rw [Int.tdiv_eq_ediv_of_nonneg (by omega)]; omega
            have d2 : (t : Int) / 13 = (j : Int) := by omega
            have m1 : (t : Int).tmod 13 = (r : Int) := by rw [Int.tmod_eq_emod_of_nonneg (by omega)]; omega
            have m2 : (t : Int) % 13 = (r : Int) := by omega
            have wj : IntKind.i64.wrap (j : Int) = (j : Int) := IntWalk.i64_in _ (by omega)
            have wr' : IntKind.i64.wrap (r : Int) = (r : Int) := IntWalk.i64_in _ (by omega)
            have ij : (j : Int) < 11 := by omega
            have Ht := Lib.hid ht
            have HLI := Lib.hid hli
            clear ht hj hr hk8 hown ai HN' hD hP hPl hE a2 g2 hlt hli
            go_upto_region 9 with (fail)
            refine Phase.wp_region_phases [([], [0, 1, 2, 3, 4, 5, 6, 7, 8, 9, 10, 11, 12, 13, 14, 15], some 16)] (fun W => W = wr.drew) (by kernel_rfl) (by kernel_rfl) (fun _ _ d _ _ h => by cases d <;> exact h) rfl ?_
            refine Phase.g_alone rfl (Phase.p_nil ?_)
            iterate 16 (refine Phase.q_step rfl (fun K hK => ?_); go_simp; refine hK _ ?_; clear hK K)
            refine Phase.q_nil ?_
            rintro _ rfl K hK
            go_simp
            obtain ⟨w3, hw3⟩ : ∃ w3, (wr.setCell ⟨g, j, none⟩ (.int .i64 (E : Int))).drew = w3 := ⟨_, rfl⟩
            rw [hw3] at A2 G2
            refine hK _ _ ⟨fun W => W = w3, hw3, ?_⟩
            clear hK K cj fj hor wP hw3
            refine Phase.g_nil ?_
            intro wz hz
            rw [show wz = w3 from hz]
            clear hz
            go_wp2
            go_roundw
            case rel => exact ⟨i + 1, by have := HLI.out; omega, by go_num, by rw [← Nat.add_assoc, Ht.out]; exact A2.out, G2.out⟩
            case measure => have := HLI.out; simp [intOf]; omega
          · have tb : ((β : Int) == 1) = false := by rw [beq_eq_false_iff_ne]; omega
            have HN := Lib.hid (digs_nobit v (8 * k + i) (by rw [Hβ.out]; omega))
            clear hb1
            go_wp2
            go_roundw
            case rel => exact ⟨i + 1, by omega, by go_num, by rw [← Nat.add_assoc, HN.out]; exact AI.out, GI.out⟩
            case measure => simp [intOf]; omega
        · obtain rfl : i = 8 := by omega
          have ci : decide (((8 : Nat) : Int) < 8) = false := rfl
          have ai := AI.out
          rw [show 8 * k + 8 = 8 * (k + 1) by omega] at ai
          have AI2 := Lib.hid ai
          clear ai
          go_wp2
          go_roundw
          case rel => exact ⟨k + 1, by omega, by go_num, AI2.out, GI.out⟩
          case measure => simp [intOf]; omega
    · obtain rfl : k = b.length := by omega
      have ct : decide ((b.length : Int) < (b.length : Int)) = false := decide_eq_false (by omega)
      have XF := Lib.hid (X0.out.trans (grownBelow GK.out (Nat.le_refl _) HSZ.out))
      go_wp2
      go_ret
      rw [HG.out]
      exact ⟨rfl, AK.out, XF.out⟩
end Go.Proofs.Ytohpgfefdlccmaa.OneDigW
