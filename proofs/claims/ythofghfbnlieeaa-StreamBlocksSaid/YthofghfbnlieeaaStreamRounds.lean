/-
  stream.rounds: what it hands back. Conditions: in the statement.
-/
import Derived.Test.YthofghfbnlieeaaStreamQuarter
import Derived.Deep.DeepCutAuto
namespace Go.Proofs.Ythofghfbnlieeaa.StreamRoundsW
open Go.RowKit BytesW CellsW WordsW ArrW ArrG HashM HashTurnW StreamM StreamStepW StreamWW StreamQuarterW

theorem words_u : Try.prog.underlying 41 = some (.array 16 39) := by kernel_rfl
theorem words_size : (Try.prog.info? 41).map (·.size) = some 16 := by kernel_rfl

set_option maxHeartbeats 8000000 in
set_option maxRecDepth 100000 in
theorem rounds_any (S : List Nat) (w : World) (hl : S.length = 16) (ho : Ok S) :
    Calls Try.prog 23 #[.agg (wc S).toArray] w fun e w' => e = .returned (.agg (wc (StreamM.rounds S 20)).toArray) ∧ Below w.heap.size w w' := by
  have HL := Lib.hid hl
  have HO := Lib.hid ho
  clear hl ho
  go_enter Try.func23, Try.ntmps23
  go_upto_region 1 with (fail)
  generalize hW : World.alloc _ _ = W
  obtain ⟨H0, H1, hbw, hsz⟩ := start2 hW
  clear hW
  have a0 : Arr W w.heap.size 41 (wc (StreamM.rounds S 0)) := H0
  have a1 : Arr W (w.heap.size + 1) 41 (wc (List.replicate 16 0)) := H1
  have A0 := Lib.hid a0
  have A1 := Lib.hid a1
  have HBW := Lib.hid hbw
  have HSZ := Lib.hid hsz
  clear a0 a1 H0 H1 hbw hsz
  obtain ⟨g, hg⟩ : ∃ g, w.heap.size = g := ⟨_, rfl⟩
  rw [hg] at A0 A1 HBW HSZ
  have HG := Lib.hid hg
  simp only [hg]
  clear hg
  go_wp2
  go_loopw [5] (fun vr wr => ∃ r : Nat, r ≤ 10 ∧ vr = .int .i64 (r : Int) ∧ Arr wr g 41 (wc (StreamM.rounds S (2 * r))) ∧ W.grownBy wr (some g)) (fun vr _ => 10 - (intOf vr).toNat)
  case atStart => exact ⟨0, by omega, rfl, A0.out, grownRefl _ _⟩
  case round =>
    obtain ⟨r, hr, rfl, ar, gr⟩ := hrel
    have AR := Lib.hid ar
    have GR := Lib.hid gr
    clear ar gr
    by_cases hlt : r < 10
    · have ct : decide ((r : Int) < 10) = true := decide_eq_true (by omega)
      obtain ⟨t, ht⟩ : ∃ t, 2 * r = t := ⟨_, rfl⟩
      rw [ht] at AR
      have HT := Lib.hid ht
      clear ht
      go_wp2
      go_loopw [7] (fun vq wx => ∃ q : Nat, q ≤ 4 ∧ vq = .int .i64 (q : Int) ∧ Arr wx g 41 (wc (parts (StreamM.rounds S t) t q)) ∧ W.grownBy wx (some g)) (fun vq _ => 4 - (intOf vq).toNat)
      case atStart => exact ⟨0, by omega, rfl, AR.out, GR.out⟩
      case round =>
        obtain ⟨q, hq, rfl, aq, gq⟩ := hrel
        have AQ := Lib.hid aq
        have GQ := Lib.hid gq
        clear aq gq
        by_cases hlq : q < 4
        · have cq : decide ((q : Int) < 4) = true := decide_eq_true (by omega)
          obtain ⟨s, hs⟩ : ∃ s, parts (StreamM.rounds S t) t q = s := ⟨_, rfl⟩
          have HNx := Lib.hid (show parts (StreamM.rounds S t) t (q + 1) = quarter s q (4 + q) (8 + q) (12 + q) by
            rw [parts, hs, StreamM.part, if_neg (by have := HT.out; omega)])
          have hL0 : s.length = 16 := by rw [← hs, parts_len, rounds_len]; exact HL.out
          have hO0 : Ok s := by rw [← hs]; exact parts_ok (rounds_ok HO.out t) t q
          rw [hs] at AQ
          have HQ := Lib.hid (quarter_any g 41 s q (4 + q) (8 + q) (12 + q) wr AQ.out hL0 hO0 (by omega) (by omega) (by omega) (by omega))
          clear hs hL0 hO0
          go_wp2_with fail
          refine HQ.out.mono ?_
          clear HQ
          rintro e x ⟨rfl, ax, gx⟩
          rw [← HNx.out] at ax
          have AX := Lib.hid ax
          have GX := Lib.hid (grownTrans GQ.out gx)
          clear ax gx HNx
          go_wp2
          go_roundw
          case rel => exact ⟨q + 1, by omega, by go_num, AX.out, GX.out⟩
          case measure => simp [intOf]; omega
        · obtain rfl : q = 4 := by omega
          have cq : decide (((4 : Nat) : Int) < 4) = false := rfl
          have hrn : parts (StreamM.rounds S t) t 4 = StreamM.rounds S (t + 1) := rfl
          rw [hrn] at AQ
          clear hrn AR GR
          go_wp2
          go_loopw [19] (fun vp wx => ∃ q : Nat, q ≤ 4 ∧ vp = .int .i64 (q : Int) ∧ Arr wx g 41 (wc (parts (StreamM.rounds S (t + 1)) (t + 1) q)) ∧ W.grownBy wx (some g)) (fun vp _ => 4 - (intOf vp).toNat)
          case atStart => exact ⟨0, by omega, rfl, AQ.out, GQ.out⟩
          case round =>
            obtain ⟨q, hq, rfl, aq, gq⟩ := hrel
            have AQ := Lib.hid aq
            have GQ := Lib.hid gq
            clear aq gq
            by_cases hlq : q < 4
            · have cq : decide ((q : Int) < 4) = true := decide_eq_true (by omega)
              obtain ⟨s, hs⟩ : ∃ s, parts (StreamM.rounds S (t + 1)) (t + 1) q = s := ⟨_, rfl⟩
              have HNx := Lib.hid (show parts (StreamM.rounds S (t + 1)) (t + 1) (q + 1) = quarter s q (4 + (q + 1) % 4) (8 + (q + 2) % 4) (12 + (q + 3) % 4) by
                rw [parts, hs, StreamM.part, if_pos (by have := HT.out; omega)])
              have hL0 : s.length = 16 := by rw [← hs, parts_len, rounds_len]; exact HL.out
              have hO0 : Ok s := by rw [← hs]; exact parts_ok (rounds_ok HO.out (t + 1)) (t + 1) q
              rw [hs] at AQ
              have HQ := Lib.hid (quarter_any g 41 s q (4 + (q + 1) % 4) (8 + (q + 2) % 4) (12 + (q + 3) % 4) wr AQ.out hL0 hO0 (by omega) (by omega) (by omega) (by omega))
              clear hs hL0 hO0
              go_wp2_with fail
              refine HQ.out.mono ?_
              clear HQ
              rintro e x ⟨rfl, ax, gx⟩
              rw [← HNx.out] at ax
              have AX := Lib.hid ax
              have GX := Lib.hid (grownTrans GQ.out gx)
              clear ax gx HNx
              go_wp2
              go_roundw
              case rel =>
                repeat apply Exists.intro
                exact ⟨⟨q + 1, by omega, by go_num, AX.out, GX.out⟩, rfl⟩
              case measure => simp [intOf]; omega
            · obtain rfl : q = 4 := by omega
              have cq : decide (((4 : Nat) : Int) < 4) = false := rfl
              have hrn : parts (StreamM.rounds S (t + 1)) (t + 1) 4 = StreamM.rounds S (2 * (r + 1)) := by
                rw [← HT.out]
                rfl
              rw [hrn] at AQ
              clear hrn
              go_wp2
              go_roundw
              case rel => exact ⟨r + 1, by omega, by go_num, AQ.out, GQ.out⟩
              case measure => simp [intOf]; omega
    · obtain rfl : r = 10 := by omega
      have ct : decide (((10 : Nat) : Int) < 10) = false := rfl
      rw [show 2 * 10 = 20 from rfl] at AR
      obtain ⟨Z, hZ⟩ : ∃ Z, StreamM.rounds S 20 = Z := ⟨_, rfl⟩
      have N1 := Lib.hid (show (wc Z).length = 16 by rw [wc_length, ← hZ, rounds_len]; exact HL.out)
      rw [hZ] at AR
      have HZ := Lib.hid hZ
      have A1F := Lib.hid (arr_grown A1.out GR.out (by omega))
      have HBX := Lib.hid (HBW.out.trans (grownBelow GR.out (Nat.le_refl _) (Nat.le_trans (Nat.le_of_eq HG.out.symm) HBW.out.size)))
      have AF := Lib.hid (A1F.out.row (wc Z))
      have HBF := Lib.hid (below_row HBX.out (show g ≤ g + 1 by omega) (wc Z).toArray)
      clear hlt hZ
      go_wp2_with (first | (refine Arr.loadL AR.out rfl 41 (.tmp 1) rfl rfl words_u rfl words_size N1.out ?_) | (refine Arr.storeL A1F.out rfl 41 (.tmp 2) (.tmp 38) rfl rfl (wc Z) rfl words_size (by rfl) N1.out (wc_one _) ?_))
      refine bodyPost_ret (v := .agg (wc Z).toArray) (by exact AF.out.ret rfl _ rfl words_u rfl words_size N1.out) rfl ⟨by rw [HZ.out], by rw [HG.out]; exact HBF.out⟩
end Go.Proofs.Ythofghfbnlieeaa.StreamRoundsW
