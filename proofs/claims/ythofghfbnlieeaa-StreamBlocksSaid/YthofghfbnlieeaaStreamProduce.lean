/-
  stream.produce: what it hands back. Conditions: in the statement.
-/
import Derived.Test.YthofghfbnlieeaaStreamRounds
namespace Go.Proofs.Ythofghfbnlieeaa.StreamProduceW
open Go.RowKit BytesW CellsW WordsW ArrW ArrG HashM HashTurnW StreamM StreamStepW StreamWW StreamQuarterW StreamRoundsW

theorem a64 : Try.prog.underlying 37 = some (.array 64 5) := by kernel_rfl
theorem a64_size : (Try.prog.info? 37).map (·.size) = some 64 := by kernel_rfl

/-- The first n bytes written. -/
def outT (s was : List Nat) (n : Nat) : List UInt8 := (List.range n).map (byteAt s was) ++ List.replicate (64 - n) 0
theorem outT_len (s was : List Nat) (n : Nat) (h : n ≤ 64) : (outT s was n).length = 64 := by simp [outT]; omega
theorem outT_set (s was : List Nat) (n : Nat) (h : n < 64) : (outT s was n).set n (byteAt s was n) = outT s was (n + 1) := by
  unfold outT
  rw [List.set_append, if_neg (by simp), List.length_map, List.length_range, Nat.sub_self, show 64 - n = (64 - (n + 1)) + 1 by omega, List.replicate_succ, List.set_cons_zero, List.range_succ, List.map_append, List.append_assoc]
  rfl
theorem outT_all (s was : List Nat) : outT s was 64 = (List.range 64).map (byteAt s was) := by simp [outT]

set_option maxHeartbeats 8000000 in
set_option maxRecDepth 100000 in
theorem produce_any (S : List Nat) (w : World) (hl : S.length = 16) (ho : Ok S) :
    Calls Try.prog 16 #[.agg (wc S).toArray] w fun e w' => e = .returned (.agg (Lib.byteCells ((List.range 64).map (byteAt (StreamM.rounds S 20) S))).toArray) ∧ Below w.heap.size w w' := by
  have HL := Lib.hid hl
  have HO := Lib.hid ho
  have NS := Lib.hid (show (wc S).length = 16 by rw [wc_length]; exact hl)
  clear hl ho
  go_enter Try.func16, Try.ntmps16
  go_upto_region 2 with (fail)
  generalize hW : World.alloc _ _ = W
  obtain ⟨H0, H1, H2, hbw, hsz⟩ := start3 hW
  clear hW
  have a0 : Arr W w.heap.size 41 (wc S) := H0
  have a1 : Arr W (w.heap.size + 1) 37 (Lib.byteCells (List.replicate 64 0)) := H1
  have a2 : Arr W (w.heap.size + 2) 37 (Lib.byteCells (List.replicate 64 0)) := H2
  have A0 := Lib.hid a0
  have A1 := Lib.hid a1
  have A2 := Lib.hid a2
  have HBW := Lib.hid hbw
  have HSZ := Lib.hid hsz
  clear a0 a1 a2 H0 H1 H2 hbw hsz
  obtain ⟨g, hg⟩ : ∃ g, w.heap.size = g := ⟨_, rfl⟩
  have HBw : Hid (Below g w W) := Lib.hid (by rw [← hg]; exact HBW.out)
  rw [hg] at A0 A1 A2 HSZ
  have HG := Lib.hid hg
  simp only [hg]
  have HR := Lib.hid (rounds_any S W HL.out HO.out)
  clear hg HBW
  go_wp2_with (refine Arr.loadL A0.out rfl 41 (.tmp 1) rfl rfl words_u rfl words_size NS.out ?_)
  refine HR.out.mono ?_
  clear HR
  rintro e w1 ⟨rfl, b1⟩
  obtain ⟨Z, hZ⟩ : ∃ Z, StreamM.rounds S 20 = Z := ⟨_, rfl⟩
  have HLZ := Lib.hid (show Z.length = 16 by rw [← hZ, rounds_len]; exact HL.out)
  have HZ := Lib.hid hZ
  rw [hZ]
  have A01 := Lib.hid (A0.out.below b1 A0.out.lt)
  have A11 := Lib.hid (A1.out.below b1 A1.out.lt)
  have a2 := A2.out.below b1 A2.out.lt
  rw [show List.replicate 64 0 = outT Z S 0 from rfl] at a2
  have A21 := Lib.hid a2
  have HB1 := Lib.hid (HBw.out.trans (b1.mono (show g ≤ W.heap.size by have := HSZ.out; omega)))
  have HZ1 := Lib.hid (show g + 3 ≤ w1.heap.size by have := HSZ.out; have := b1.size; omega)
  clear hZ b1 a2 A0 A1 A2 HBw HSZ
  go_wp2
  go_loopw [9] (fun vk wr => ∃ k : Nat, k ≤ 16 ∧ vk = .int .i64 (k : Int) ∧ Arr wr (g + 2) 37 (Lib.byteCells (outT Z S (4 * k))) ∧ w1.grownBy wr (some (g + 2))) (fun vk _ => 16 - (intOf vk).toNat)
  case atStart => exact ⟨0, by omega, rfl, A21.out, grownRefl _ _⟩
  case round =>
    obtain ⟨k, hk, rfl, ak, gk⟩ := hrel
    have AK := Lib.hid ak
    have GK := Lib.hid gk
    clear ak gk
    by_cases hlt : k < 16
    · have ct : decide ((k : Int) < 16) = true := decide_eq_true (by omega)
      have c1 := (arr_grown A01.out GK.out (by omega)).cell k
      rw [wc_getD S k (by rw [HL.out]; exact hlt)] at c1
      have cz := wc_getD Z k (by rw [HLZ.out]; exact hlt)
      obtain ⟨x1, hx1⟩ : ∃ x, Z.getD k 0 = x := ⟨_, rfl⟩
      obtain ⟨x2, hx2⟩ : ∃ x, S.getD k 0 = x := ⟨_, rfl⟩
      rw [hx1] at cz
      rw [hx2] at c1
      have hix : ∀ u : World, (Instr.index 41 (.agg (wc Z).toArray) (.int .i64 (k : Int))).run Try.prog u = .ok (.int .u32 (x1 : Int)) u :=
        fun u => run_index_arr u 41 39 16 (wc Z).toArray k _ _ words_u Try.underlying39 rfl (by kernel_rfl) hlt (by simpa using cz)
      obtain ⟨z, hz⟩ : ∃ z, (x1 + x2) % 4294967296 = z := ⟨_, rfl⟩
      have wz1 : IntKind.u32.wrap ((x1 : Int) + (x2 : Int)) = (z : Int) := by rw [IntKind.wrap_u32]; omega
      have HY : Hid (∀ j, j < 4 → byteAt Z S (4 * k + j) = UInt8.ofNat (z / 2 ^ (8 * j))) := Lib.hid (fun j hj => by
        unfold byteAt
        rw [show (4 * k + j) / 4 = k by omega, show (4 * k + j) % 4 = j by omega, hx1, hx2, hz])
      have hc9 : (wr.cell? ⟨g, k, none⟩) = some (.int .u32 (x2 : Int)) := c1
      clear hx1 hx2 hz cz c1
      go_wp2
      go_loopw [18] (fun vj wx => ∃ j : Nat, j ≤ 4 ∧ vj = .int .i64 (j : Int) ∧ Arr wx (g + 2) 37 (Lib.byteCells (outT Z S (4 * k + j))) ∧ w1.grownBy wx (some (g + 2))) (fun vj _ => 4 - (intOf vj).toNat)
      case atStart => exact ⟨0, by omega, rfl, AK.out, GK.out⟩
      case round =>
        obtain ⟨j, hj, rfl, aj, gj⟩ := hrel
        have AJ := Lib.hid aj
        have GJ := Lib.hid gj
        clear aj gj
        by_cases hlj : j < 4
        · have cj : decide ((j : Int) < 4) = true := decide_eq_true (by omega)
          obtain ⟨m, hm⟩ : ∃ m, 4 * k = m := ⟨_, rfl⟩
          obtain ⟨p, hp⟩ : ∃ p, m + j = p := ⟨_, rfl⟩
          have e1 : IntKind.i64.wrap (4 * (k : Int)) = (m : Int) := by rw [IntWalk.i64_in _ (by omega)]; omega
          have e2 : IntKind.i64.wrap ((m : Int) + (j : Int)) = (p : Int) := by rw [IntWalk.i64_in _ (by omega)]; omega
          have hp64 : p < 64 := by omega
          have ip : (p : Int) < 64 := by omega
          obtain ⟨sh, hsh⟩ : ∃ sh, 8 * j = sh := ⟨_, rfl⟩
          have wsh : IntKind.i64.wrap (8 * (j : Int)) = (sh : Int) := by rw [IntWalk.i64_in _ (by omega)]; omega
          obtain ⟨y, hy⟩ : ∃ y, byteAt Z S p = y := ⟨_, rfl⟩
          have hy2 := HY.out j hlj
          rw [hm, hp, hy, hsh] at hy2
          have wy : IntKind.u8.wrap ((z : Int) / 2 ^ sh) = (y.toNat : Int) := by
            rw [hy2, UInt8.toNat_ofNat', IntKind.wrap_u8]
            push_cast
            rfl
          have wy' : IntKind.u8.wrap ((z : Int) / 2 ^ (min sh 32)) = (y.toNat : Int) := by rw [Nat.min_eq_left (by omega)]; exact wy
          rw [hm, hp] at AJ
          have hs := outT_set Z S p hp64
          rw [hy] at hs
          have co := AJ.out.cell p
          rw [bs_getD _ p (by rw [outT_len Z S p (by omega)]; exact hp64)] at co
          have fo := AJ.out.frozen p
          have an := AJ.out.set p (.int .u8 (y.toNat : Int))
          rw [bs_set, hs] at an
          have AN := Lib.hid an
          have GN := Lib.hid (grownTrans GJ.out (grownSet wr (g + 2) p (.int .u8 (y.toNat : Int))))
          have HP := Lib.hid (show p + 1 = 4 * k + (j + 1) by omega)
          generalize (outT Z S p).getD p 0 = old at co
          clear hm hp hsh hy hy2 hs an
          go_wp2
          go_roundw
          case rel => exact ⟨j + 1, by omega, by go_num, by rw [← HP.out]; exact AN.out, GN.out⟩
          case measure => simp [intOf]; omega
        · obtain rfl : j = 4 := by omega
          have cj : decide (((4 : Nat) : Int) < 4) = false := rfl
          clear AK GK hc9 hix wz1
          go_wp2
          go_roundw
          case rel => exact ⟨k + 1, by omega, by go_num, AJ.out, GJ.out⟩
          case measure => simp [intOf]; omega
    · obtain rfl : k = 16 := by omega
      have ct : decide (((16 : Nat) : Int) < 16) = false := rfl
      rw [show 4 * 16 = 64 from rfl, outT_all] at AK
      obtain ⟨R, hR⟩ : ∃ R, (List.range 64).map (byteAt Z S) = R := ⟨_, rfl⟩
      have N1 := Lib.hid (show (Lib.byteCells R).length = 64 by rw [Lib.byteCells_length, ← hR, List.length_map, List.length_range])
      rw [hR] at AK
      have HRr := Lib.hid (show (List.range 64).map (byteAt (StreamM.rounds S 20) S) = R by rw [HZ.out]; exact hR)
      have A1F := Lib.hid (arr_grown A11.out GK.out (by omega))
      have HBX := Lib.hid (HB1.out.trans (grownBelow GK.out (show g ≤ g + 2 by omega) (by have := HZ1.out; omega)))
      have AF := Lib.hid (A1F.out.row (Lib.byteCells R))
      have HBF := Lib.hid (below_row HBX.out (show g ≤ g + 1 by omega) (Lib.byteCells R).toArray)
      clear hlt hR
      go_wp2_with (first | (refine Arr.loadL AK.out rfl 37 (.tmp 3) rfl rfl a64 rfl a64_size N1.out ?_) | (refine Arr.storeL A1F.out rfl 37 (.tmp 2) (.tmp 33) rfl rfl (Lib.byteCells R) rfl a64_size (by rfl) N1.out (bytes_one _) ?_))
      refine bodyPost_ret (v := .agg (Lib.byteCells R).toArray) (by exact AF.out.ret rfl _ rfl a64 rfl a64_size N1.out) rfl ⟨by rw [HRr.out], by rw [HG.out]; exact HBF.out⟩
end Go.Proofs.Ythofghfbnlieeaa.StreamProduceW
