/-
  hash.digest: what it hands back. Conditions: in the statement.
-/
import Derived.Test.YtnlhcogmccladaaDoorHashX
import Derived.Test.YtnlhcogmccladaaDoorHashTurnM
import Derived.Deep.DeepCutAuto
import Derived.Test.YtnlhcogmccladaaDoorKc
namespace Go.Proofs.YtnlhcogmccladaaDoor.HashDigW
open Go.RowKit BytesW WordsW ArrW HashM HashX

theorem wc_at' (S : List Nat) (k : Nat) (h : k < S.length) : (wc S)[k]? = some (.int .u32 ((S.getD k 0 : Nat) : Int)) := wc_getD S k h
theorem getD_set_ne' (l : List UInt8) (i p : Nat) (x : UInt8) (h : p ≠ i) : (l.set i x).getD p 0 = l.getD p 0 := by
  rw [List.getD_eq_getElem?_getD, List.getElem?_set_ne (fun e => h e.symm), ← List.getD_eq_getElem?_getD]

set_option maxHeartbeats 8000000 in
set_option maxRecDepth 100000 in
theorem digest_any (S : List Nat) (hS : Sm S) (w : World) :
    Calls Tryd.prog 53 #[.agg (wc S).toArray] w fun e w' => e = .returned (.agg (Lib.byteCells (digest S)).toArray) ∧ Below w.heap.size w w' := by
  have hSl := hS.1
  go_enter Tryd.func53, Tryd.ntmps53
  go_upto_region 2 with (fail)
  generalize hW : World.alloc _ _ = W
  obtain ⟨H0, H1, H2, hbw, hsz⟩ := start3 hW
  clear hW
  have a0 : Arr W w.heap.size 59 (wc S) := H0
  have a1 : Arr W (w.heap.size + 1) 27 (Lib.byteCells (List.replicate 32 0)) := H1
  have a2 : Arr W (w.heap.size + 2) 27 (Lib.byteCells (List.replicate 32 0)) := H2
  have HAL := Lib.hid a0
  have HA1 := Lib.hid a1
  have HA2 := Lib.hid a2
  have HBW := Lib.hid hbw
  have HSZ := Lib.hid hsz
  clear a0 a1 a2 H0 H1 H2 hbw hsz
  go_wp2
  go_loopw [5] (fun vk wr => ∃ (k : Nat) (D : List UInt8), k ≤ 32 ∧ vk = .int .i64 (k : Int) ∧ Arr wr (w.heap.size + 2) 27 (Lib.byteCells D) ∧ D.length = 32 ∧ (∀ p, p < k → D.getD p 0 = dbyte S p) ∧ W.grownBy wr (some (w.heap.size + 2))) (fun vk _ => 32 - (intOf vk).toNat)
  case atStart => exact ⟨0, _, by omega, rfl, HA2.out, rfl, fun p h => by omega, grownRefl _ _⟩
  case round =>
    obtain ⟨k, D, hk, rfl, ad, hDl, hD, hgd⟩ := hrel
    have HD := Lib.hid hD
    clear hD
    by_cases hk32 : k < 32
    · have ct : decide ((k : Int) < 32) = true := decide_eq_true (by omega)
      have hq : k / 4 < S.length := by omega
      have cs := ((arr_grown HAL.out hgd (by omega)).cell (k / 4))
      rw [wc_getD S (k / 4) hq] at cs
      have cd := ad.cell' k (by rw [Lib.byteCells, List.length_map]; omega)
      have fd := ad.frozen k
      obtain ⟨sh, hsh⟩ : ∃ sh, 24 - k % 4 * 8 = sh := ⟨_, rfl⟩
      have Hsh := Lib.hid hsh
      have HC := Lib.hid (show dbyte S k = UInt8.ofNat (S.getD (k / 4) 0 / 2 ^ (24 - k % 4 * 8)) from rfl)
      generalize S.getD (k / 4) 0 = y at *
      go_wp2
      go_roundw
      case rel =>
        have hx : (y : Int) / 2 ^ sh % 256 = ((dbyte S k).toNat : Int) := by
          rw [HC.out, Hsh.out, UInt8.toNat_ofNat']
          push_cast
          rfl
        have ad2 := ad.set k (.int .u8 ((y : Int) / 2 ^ sh % 256))
        rw [hx, HashX.bc_set] at ad2
        rw [hx]
        refine ⟨k + 1, D.set k (dbyte S k), by omega, by go_num, ad2, by rw [List.length_set]; exact hDl, ?_, grownTrans hgd (grownSet _ _ _ _)⟩
        intro p hp
        by_cases h : p = k
        · subst h
          rw [List.getD_eq_getElem?_getD, List.getElem?_set_self (by omega)]
          rfl
        · rw [getD_set_ne' _ _ _ _ h]
          exact HD.out p (by omega)
      case measure => simp [intOf]; omega
    · obtain rfl : k = 32 := by omega
      have ct : decide ((32 : Int) < 32) = false := rfl
      have u32 : Tryd.prog.underlying 27 = some (.array 32 5) := by kernel_rfl
      have i32 : (Tryd.prog.info? 27).map (·.size) = some 32 := by kernel_rfl
      have U := Lib.hid u32
      have I := Lib.hid i32
      have AD := Lib.hid ad
      have N1 : Hid ((Lib.byteCells D).length = 32) := Lib.hid (by rw [Lib.byteCells, List.length_map]; exact hDl)
      have AO := Lib.hid (arr_grown HA1.out hgd (by omega))
      have hDd := digest_of S hSl D hDl HD.out
      have HDd := Lib.hid hDd
      have HBF := Lib.hid (below_row (HBW.out.trans (grownBelow hgd (by omega) HBW.out.size)) (show w.heap.size ≤ w.heap.size + 1 by omega) (Lib.byteCells D).toArray)
      have AF := Lib.hid (AO.out.row (Lib.byteCells D))
      clear u32 i32 ad hgd hDd
      simp only [show ((32 : Nat) : Int) = 32 from rfl]
      go_wp2_with (first | (refine Arr.loadL AD.out rfl 27 (.tmp 3) rfl rfl U.out rfl I.out N1.out ?_) | (refine Arr.storeL AO.out rfl 27 (.tmp 2) (.tmp 21) rfl rfl (Lib.byteCells D) rfl I.out (by simp [Lib.byteCells]) N1.out (bytes_one D) ?_))
      refine bodyPost_ret (v := .agg (Lib.byteCells D).toArray) (by exact AF.out.ret rfl _ rfl U.out rfl I.out N1.out) rfl ⟨by rw [HDd.out], HBF.out⟩
end Go.Proofs.YtnlhcogmccladaaDoor.HashDigW
