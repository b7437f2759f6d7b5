/-
  The walk of ticketwardlaw.MacChains: it returns true and writes nothing that was there. Conditions: the tables; bulk at most 1048576.
-/
import Derived.Test.YtehlolklbdbhkaaDoorMacSum
import Derived.Test.YtehlolklbdbhkaaDoorMacRef
import Derived.Test.YtehlolklbdbhkaaDoorSEqualD
namespace Go.Proofs.YtehlolklbdbhkaaDoor.MacChainsL
open Go.RowKit BytesW CellsW WordsW ArrW HashX HashCompW HashSumW HashSameW HashFinW HashBlockW HashRefW MacM MacRefW MacSumW DigsW RowsW SEqualDW

def total (rs : List (List UInt8)) : Nat := rs.foldr (fun r n => r.length + n) 0
theorem total_le (ls : List (List UInt8)) (p : List UInt8) (h : p ∈ ls) : p.length ≤ total ls := by
  induction ls with
  | nil => exact absurd h (by simp)
  | cons x r ih =>
    have e : total (x :: r) = x.length + total r := rfl
    rcases List.mem_cons.1 h with h | h
    · rw [h, e]; omega
    · have := ih h; omega
/-- The key of part k. -/
def keyAt (l : List UInt8) (ps : List (List UInt8)) (k : Nat) : List UInt8 := (chain l (ps.take k)).getLastD l
theorem key_zero (l : List UInt8) (ps : List (List UInt8)) : keyAt l ps 0 = l := rfl
theorem chain_next (l : List UInt8) (ps : List (List UInt8)) (k : Nat) (h : k < ps.length) : chain l (ps.take (k + 1)) = chain l (ps.take k) ++ [hmac (keyAt l ps k) ps[k]] := by
  rw [List.take_succ_eq_append_getElem h, chain_snoc]
  rfl
theorem key_next (l : List UInt8) (ps : List (List UInt8)) (k : Nat) (h : k < ps.length) : keyAt l ps (k + 1) = hmac (keyAt l ps k) ps[k] := by
  show (chain l (ps.take (k + 1))).getLastD l = _
  rw [chain_next l ps k h]
  simp

set_option maxHeartbeats 8000000 in
set_option maxRecDepth 100000 in
theorem walk (a0 : Option Addr) (l0 : List UInt8) (c0 : Nat) (a1 : Option Addr) (ps : List (List UInt8)) (c1 : Nat) (w : World) (hA : Bs w w.heap.size a0 l0) (hc0 : l0.length ≤ c0) (hl0 : l0.length ≤ 1048576) (hB : Ms w w.heap.size a1 ps) (hc1 : ps.length ≤ c1) (hl : total ps + ps.length ≤ 1048576) (hT0 : TabK w ∧ TabI w ∧ TabR w) :
    Calls Tryd.prog 4 #[.slice a0 l0.length c0, .slice a1 ps.length c1] w fun e w' => e = .returned (.bool true) ∧ Below w.heap.size w w' := by
  have hT : Tabs w ∧ TabI w ∧ TabK w := ⟨hT0.2.2, hT0.2.1, hT0.1⟩
  clear hT0
  have hp : ∀ p ∈ ps, p.length ≤ 1048576 := fun p h => by have := total_le ps p h; omega
  have HI := Lib.hid hT.2.1
  have HK := Lib.hid hT.2.2
  have HA := Lib.hid hA
  have HB := Lib.hid hB
  have HP := Lib.hid hp
  have HCn := Lib.hid (mchain_any a0 l0 c0 a1 ps c1 w hA hc0 hB hc1 (by omega) (fun p h => by have := hp p h; omega) (by omega) hT.1)
  have hps : ps.length ≤ 1048576 := by omega
  clear hT hA hB hp hl
  go_enter Tryd.func4, Tryd.ntmps4
  go_wp2_with fail
  refine HCn.out.mono ?_
  clear HCn
  rintro e w1 ⟨v1, rfl, r1, b1⟩
  have X1 := Lib.hid b1
  have R1 := Lib.hid r1
  clear b1 r1
  go_wp2
  go_loopw [0, 6, 15] (fun vk vw vi wr => ∃ (k : Nat) (A : Option Addr) (c : Nat) (key : List UInt8), k ≤ ps.length ∧ key = keyAt l0 ps k ∧ key.length ≤ 1048576 ∧ vi = .int .i64 (k : Int) ∧ vk = .slice A key.length c ∧ Bs wr wr.heap.size A key ∧ DRow w1.heap.size wr vw (chain l0 (ps.take k)) ∧ Below w1.heap.size w1 wr) (fun _ _ vi _ => ps.length - (intOf vi).toNat)
  case atStart => exact ⟨0, a0, c0, l0, by omega, rfl, hl0, rfl, rfl, (HA.out.below X1.out).more X1.out.size, DRow.nil _ _, Below.refl _ _⟩
  case round =>
    obtain ⟨k, A, c, key, hk, hke, hkl, rfl, rfl, sb, dr, bx⟩ := hrel
    have SB := Lib.hid sb
    have DR := Lib.hid dr
    have BX := Lib.hid bx
    have Xr := Lib.hid (X1.out.trans (bx.mono X1.out.size))
    have HKe := Lib.hid hke
    clear sb dr bx hke
    by_cases hlt : k < ps.length
    · have ct : decide ((k : Int) < (ps.length : Int)) = true := decide_eq_true (by omega)
      obtain ⟨ad, a, ca, rfl, hadb, hcell, hbs, hca⟩ := HB.out.at_ hlt
      have hc2 := (Xr.out.cell (p := ad.add k) (by rw [add_block]; exact hadb)).trans hcell
      have HN := Lib.hid (chain_next l0 ps k hlt)
      have HKn := Lib.hid (key_next l0 ps k hlt)
      have hpl := HP.out ps[k] (List.getElem_mem hlt)
      have hfs := fsum_any A key c a ps[k] ca wr SB.out (by omega) ((hbs.below Xr.out).more Xr.out.size) (by omega) (HI.out.below Xr.out) (HK.out.below Xr.out)
      have HFs := Lib.hid hfs
      rw [← HKe.out] at HN HKn
      clear hfs hcell hpl hbs
      generalize ps[k] = p at *
      obtain ⟨D, hD⟩ : ∃ D, hmac key p = D := ⟨_, rfl⟩
      have HDl := Lib.hid (show D.length = 32 by rw [← hD]; exact hmac_len _ _)
      have N32 := Lib.hid (show (Lib.byteCells D).length = 32 by rw [Lib.byteCells_length]; exact HDl.out)
      rw [hD] at HFs HN HKn
      clear hD
      go_wp2_with fail
      refine HFs.out.mono ?_
      clear HFs
      rintro e w4 ⟨rfl, b4⟩
      have B4 := Lib.hid (BX.out.trans (b4.mono BX.out.size))
      have D4 := Lib.hid (DR.out.below b4)
      have HAp := Lib.hid (D4.out.apart (Nat.le_refl _))
      clear b4 DR
      go_upto_region 7 with (refine Arr.storeL (Arr.new w4 _ _) rfl 24 (.tmp 9) (.tmp 21) rfl rfl (Lib.byteCells D) rfl dig_size (by rfl) N32.out (bytes_one _) ?_)
      generalize hw5 : World.setRow _ _ _ = w5
      obtain ⟨p9, b5, z5⟩ := filled hw5
      have B5 := Lib.hid (B4.out.trans (b5.mono B4.out.size))
      have D5 := Lib.hid (D4.out.below b5)
      have P9 := Lib.hid p9
      obtain ⟨g9, hg9⟩ : ∃ g, w4.heap.size = g := ⟨_, rfl⟩
      rw [hg9] at P9 HAp ⊢
      clear b5 hw5 p9 hg9 z5 D4
      go_upto_region 8 with (
        refine Arr.loadL P9.out rfl 24 (.tmp 9) rfl rfl dig rfl dig_size N32.out ?_
        refine buildDigL (Lib.byteCells D) N32.out rfl (.tmp 23) rfl rfl ?_
        generalize hw6 : World.alloc _ _ = w6
        obtain ⟨q6, b6, -⟩ := start1 hw6
        have D6 := Lib.hid (D5.out.below b6)
        have B6 := Lib.hid (B5.out.trans (b6.mono B5.out.size))
        have P96 := Lib.hid (P9.out.below b6 P9.out.lt)
        have Q6 := Lib.hid (show ∀ j u, (Lib.byteCells D)[j]? = some u → w6.cell? ((⟨w5.heap.size, 0, none⟩ : Addr).add j) = some u from fun j u hj => by
          have e : (⟨w5.heap.size, 0, none⟩ : Addr).add j = ⟨w5.heap.size, j, none⟩ := by unfold Addr.add; split <;> simp_all
          rw [e, Arr.cell q6, ← hj])
        clear q6 b6 hw6
        refine dapp1 rfl (.tmp 22) (.tmp 24) rfl w1.heap.size _ (chain l0 (ps.take k)) rfl D6.out ⟨w5.heap.size, 0, none⟩ 1 D HDl.out rfl Q6.out (by rw [chain_len, List.length_take]; omega) B6.out.size ?_
        intro v7 w7 d7 b7 g7)
      have P97 := Lib.hid (show Arr w7 g9 24 (Lib.byteCells D) from (g7.block g9 P96.out.lt HAp.out).trans P96.out)
      have X7 := Lib.hid (B6.out.trans b7)
      have D7 := Lib.hid d7
      have HS7 := Lib.hid (arr_bs P97.out P97.out.lt)
      clear d7 b7 g7 D5 D6 B4 B5 B6 P9 P96 Q6 HAp
      go_wp2
      go_roundw
      case rel => exact ⟨k + 1, some ⟨g9, 0, none⟩, 32, D, by omega, HKn.out.symm, by rw [HDl.out]; omega, by go_num, by rw [HDl.out], HS7.out, by rw [HN.out]; exact D7.out, X7.out⟩
      case measure => simp [intOf]; omega
    · obtain rfl : k = ps.length := by omega
      have ct : decide ((ps.length : Int) < (ps.length : Int)) = false := decide_eq_false (by omega)
      obtain ⟨A2, d2, rfl, s2, _⟩ := DR.out.form
      obtain ⟨A1, d1, rfl, s1, _⟩ := (R1.out.below BX.out).form
      rw [List.take_length] at s2
      rw [List.take_length]
      have hl1 := chain_len ps l0
      have heq := equal_any A1 A2 (chain l0 ps) d1 d2 wr s1 s2 (by rw [hl1]; omega)
      rw [hl1] at heq ⊢
      have HEq := Lib.hid heq
      clear heq s1 s2 hl1
      go_wp2_with fail
      refine HEq.out.mono ?_
      clear HEq
      rintro e w9 ⟨rfl, n9, rfl⟩
      go_wp2
      go_ret
      exact ⟨rfl, Xr.out.trans (belowN _ _ _)⟩
end Go.Proofs.YtehlolklbdbhkaaDoor.MacChainsL
