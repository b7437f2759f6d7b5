/-
  mac.mask, mac.fill, mac.hashAfter: what they hand back. Conditions: in each statement.
-/
import Derived.Test.YtnlhcogmccladaaDoorMacRef
import Derived.Test.YtnlhcogmccladaaDoorMacK
import Derived.Test.YtnlhcogmccladaaDoorHashMore
import Derived.Test.YtnlhcogmccladaaDoorKc
namespace Go.Proofs.YtnlhcogmccladaaDoor.MacFnW
open Go.RowKit BytesW CellsW WordsW ArrW HashM HashX HashMath HashCompW HashProcW HashDigW HashFinW HashRightW HashSumW HashMoreW MacM

/-- The first k bytes of a block mixed in. -/
def maskK (K : List UInt8) (x : UInt8) (k : Nat) : List UInt8 := (K.take k).map (· ^^^ x) ++ K.drop k
theorem maskK_zero (K : List UInt8) (x : UInt8) : maskK K x 0 = K := by simp [maskK]
theorem maskK_len (K : List UInt8) (x : UInt8) (k : Nat) (hk : k ≤ K.length) : (maskK K x k).length = K.length := by simp [maskK]; omega
theorem maskK_at (K : List UInt8) (x : UInt8) (k : Nat) (hk : k < K.length) : (maskK K x k).getD k 0 = K[k] := by
  have h1 : ((K.take k).map (· ^^^ x)).length = k := by simp; omega
  unfold maskK
  rw [List.getD_eq_getElem?_getD, List.getElem?_append_right (by omega), h1, Nat.sub_self, List.getElem?_drop, Nat.add_zero, List.getElem?_eq_getElem hk]
  rfl
theorem maskK_set (K : List UInt8) (x : UInt8) (k : Nat) (hk : k < K.length) : (maskK K x k).set k (K[k] ^^^ x) = maskK K x (k + 1) := by
  have h1 : ((K.take k).map (· ^^^ x)).length = k := by simp; omega
  unfold maskK
  rw [List.set_append, if_neg (by omega), h1, Nat.sub_self, List.drop_eq_getElem_cons hk, List.set_cons_zero, List.take_succ_eq_append_getElem hk, List.map_append, List.append_assoc]
  rfl
theorem maskK_all (K : List UInt8) (x : UInt8) (k : Nat) (hk : K.length = k) : maskK K x k = K.map (· ^^^ x) := by
  subst hk
  simp [maskK]

theorem a64 : Tryd.prog.underlying 50 = some (.array 64 5) := by kernel_rfl
theorem a64_size : (Tryd.prog.info? 50).map (·.size) = some 64 := by kernel_rfl

set_option maxHeartbeats 4000000 in
set_option maxRecDepth 100000 in
theorem mask_any (K : List UInt8) (x : UInt8) (w : World) (hK : K.length = 64) :
    Calls Tryd.prog 30 #[.agg (Lib.byteCells K).toArray, .int .u8 (x.toNat : Int)] w fun e w' => e = .returned (.agg (Lib.byteCells (K.map (· ^^^ x))).toArray) ∧ Below w.heap.size w w' := by
  have HK := Lib.hid hK
  clear hK
  go_enter Tryd.func30, Tryd.ntmps30
  go_upto_region 1 with (fail)
  generalize hW : World.alloc _ _ = W
  obtain ⟨H0, H1, hbw, hsz⟩ := start2 hW
  clear hW
  have a0 : Arr W w.heap.size 50 (Lib.byteCells (maskK K x 0)) := by rw [maskK_zero]; exact H0
  have a1 : Arr W (w.heap.size + 1) 50 (Lib.byteCells (List.replicate 64 0)) := H1
  have A0 := Lib.hid a0
  have A1 := Lib.hid a1
  have HBW := Lib.hid hbw
  have HSZ := Lib.hid hsz
  clear a0 a1 H0 H1 hbw hsz
  go_wp2
  go_loopw [6] (fun vk wr => ∃ k : Nat, k ≤ 64 ∧ vk = .int .i64 (k : Int) ∧ Arr wr w.heap.size 50 (Lib.byteCells (maskK K x k)) ∧ W.grownBy wr (some w.heap.size)) (fun vk _ => 64 - (intOf vk).toNat)
  case atStart => exact ⟨0, by omega, rfl, A0.out, grownRefl _ _⟩
  case round =>
    obtain ⟨k, hk, rfl, ad, hg⟩ := hrel
    have HG := Lib.hid hg
    have AD := Lib.hid ad
    clear hg ad
    by_cases hlt : k < 64
    · have ct : decide ((k : Int) < 64) = true := decide_eq_true (by omega)
      have hkl : k < K.length := by rw [HK.out]; exact hlt
      have cd := AD.out.cell k
      rw [HashX.bc_getD _ k (by rw [maskK_len K x k (by omega)]; exact hkl), maskK_at K x k hkl] at cd
      have fd := AD.out.frozen k
      have hX := Bits.xor_u8 K[k] x
      have HS := Lib.hid (maskK_set K x k hkl)
      obtain ⟨y, hy⟩ : ∃ y, K[k] = y := ⟨_, rfl⟩
      rw [hy] at cd hX HS
      obtain ⟨z, hz⟩ : ∃ z, y ^^^ x = z := ⟨_, rfl⟩
      rw [hz] at hX HS
      have a2 := AD.out.set k (.int .u8 (z.toNat : Int))
      rw [HashX.bc_set, HS.out] at a2
      have A2 := Lib.hid a2
      have G2 := Lib.hid (grownTrans HG.out (grownSet wr w.heap.size k (.int .u8 (z.toNat : Int))))
      clear hy hz a2
      go_wp2
      go_roundw
      case rel => exact ⟨k + 1, by omega, by go_num, A2.out, G2.out⟩
      case measure => simp [intOf]; omega
    · obtain rfl : k = 64 := by omega
      have ct : decide (((64 : Nat) : Int) < 64) = false := rfl
      have HE := Lib.hid (maskK_all K x 64 HK.out)
      have N1 := Lib.hid (show (Lib.byteCells (maskK K x 64)).length = 64 by rw [Lib.byteCells_length, maskK_len K x 64 (by rw [HK.out]; exact Nat.le_refl _)]; exact HK.out)
      have A1F := Lib.hid (arr_grown A1.out HG.out (by omega))
      have HBX := Lib.hid (HBW.out.trans (grownBelow HG.out (Nat.le_refl _) HBW.out.size))
      have AF := Lib.hid (A1F.out.row (Lib.byteCells (maskK K x 64)))
      have HBF := Lib.hid (below_row HBX.out (show w.heap.size ≤ w.heap.size + 1 by omega) (Lib.byteCells (maskK K x 64)).toArray)
      clear hlt
      go_wp2_with (first | (refine Arr.loadL AD.out rfl 50 (.tmp 2) rfl rfl a64 rfl a64_size N1.out ?_) | (refine Arr.storeL A1F.out rfl 50 (.tmp 4) (.tmp 16) rfl rfl (Lib.byteCells (maskK K x 64)) rfl a64_size (by rfl) N1.out (bytes_one _) ?_))
      refine bodyPost_ret (v := .agg (Lib.byteCells (maskK K x 64)).toArray) (by exact AF.out.ret rfl _ rfl a64 rfl a64_size N1.out) rfl ⟨by rw [HE.out], HBF.out⟩

theorem kb_cells (l m : List UInt8) (h : kk l = m) : Lib.byteCells m ++ (Lib.byteCells (List.replicate 64 0)).drop m.length = Lib.byteCells (kb l) := by
  subst h
  unfold kb fillK Lib.byteCells
  rw [List.take_of_length_le (Nat.le_refl _), List.map_append, ← List.map_drop, List.drop_replicate]
set_option maxHeartbeats 4000000 in
set_option maxRecDepth 100000 in
theorem fill_any (A : Option Addr) (l : List UInt8) (c : Nat) (w : World) (hA : Bs w w.heap.size A l) (hcl : l.length ≤ c) (hl : l.length < 9223372036854775808) (hT : TabR w) :
    Calls Tryd.prog 28 #[.slice A l.length c] w fun e w' => e = .returned (.agg (Lib.byteCells (kb l)).toArray) ∧ Below w.heap.size w w' := by
  have HT := Lib.hid hT
  have HA := Lib.hid hA
  clear hT hA
  go_enter Tryd.func28, Tryd.ntmps28
  go_upto_region 2 with (fail)
  generalize hW : World.alloc _ _ = W
  obtain ⟨H0, H1, hbw, hsz⟩ := start2 hW
  clear hW
  have a0 : Arr W w.heap.size 50 (Lib.byteCells (List.replicate 64 0)) := H0
  have a1 : Arr W (w.heap.size + 1) 50 (Lib.byteCells (List.replicate 64 0)) := H1
  have A0 := Lib.hid a0
  have A1 := Lib.hid a1
  have HB := Lib.hid hbw
  have HSZ := Lib.hid hsz
  clear a0 a1 H0 H1 hbw hsz
  have a64' := a64
  have A64 := Lib.hid a64'
  clear a64'
  by_cases h64 : 64 < l.length
  · have ct : decide ((l.length : Int) > 64) = true := decide_eq_true (by omega)
    have HD := Lib.hid (sum_any A l c W ((HA.out.below HB.out).more HB.out.size) hcl hl (HT.out.below HB.out))
    have HKK0 := Lib.hid (show kk l = HashM.sum l by unfold kk; rw [if_pos h64])
    go_wp2_with fail
    refine HD.out.mono ?_
    clear HD
    rintro e w1 ⟨rfl, b1⟩
    obtain ⟨m, hm⟩ : ∃ m, HashM.sum l = m := ⟨_, rfl⟩
    have hml : m.length = 32 := by rw [← hm, sum_len]
    rw [hm] at HKK0 ⊢
    have HKK := HKK0
    have B1 := Lib.hid (HB.out.trans (b1.mono HB.out.size))
    have A01 := Lib.hid (A0.out.below b1 A0.out.lt)
    have A11 := Lib.hid (A1.out.below b1 A1.out.lt)
    have HSZ1 := Lib.hid (show w.heap.size + 2 ≤ w1.heap.size by have := HSZ.out; have := b1.size; omega)
    have N32 := Lib.hid (show (Lib.byteCells m).length = 32 by rw [Lib.byteCells_length]; exact hml)
    clear b1 hm h64 ct
    go_upto_region 4 with (refine Arr.storeL (Arr.new w1 _ _) rfl 27 (.tmp 4) (.tmp 9) rfl rfl (Lib.byteCells m) rfl dig_size (by rfl) N32.out (bytes_one _) ?_)
    generalize hw3 : World.setRow _ _ _ = w3
    obtain ⟨p4, b3, z3⟩ := filled hw3
    have BX := Lib.hid (B1.out.trans (b3.mono B1.out.size))
    have A0X := Lib.hid (A01.out.below b3 A01.out.lt)
    have A1X := Lib.hid (A11.out.below b3 A11.out.lt)
    have HMX := Lib.hid (arr_bs p4 (show w1.heap.size < w3.heap.size by omega))
    have HML := Lib.hid hml
    clear b3 hw3 p4 z3 hml
    go_wp2_with (refine CopyB.copyB rfl (.tmp 11) (.tmp 12) rfl (w.heap.size + 1) 64 (some ⟨w1.heap.size, 0, none⟩) 32 32 m HML.out rfl rfl (Lib.byteCells (List.replicate 64 0)) 50 A1X.out (by rfl) (by decide) HMX.out ?_)
    intro w2 a2 hB2
    have A2 : Hid (Arr w2 (w.heap.size + 1) 50 (Lib.byteCells (kb l))) := Lib.hid (by rw [← kb_cells l m HKK.out, HML.out]; exact a2)
    have N1 := Lib.hid (show (Lib.byteCells (kb l)).length = 64 by rw [Lib.byteCells_length, kb_len])
    have A0F := Lib.hid (A0X.out.below hB2 (by omega))
    have HBX := Lib.hid (BX.out.trans (hB2.mono (Nat.le_succ _)))
    have AF := Lib.hid (A0F.out.row (Lib.byteCells (kb l)))
    have HBF := Lib.hid (below_row HBX.out (Nat.le_refl _) (Lib.byteCells (kb l)).toArray)
    clear hB2 a2
    go_wp2_with (first | (refine Arr.loadL A2.out rfl 50 (.tmp 3) rfl rfl A64.out rfl a64_size N1.out ?_) | (refine Arr.storeL A0F.out rfl 50 (.tmp 2) (.tmp 14) rfl rfl (Lib.byteCells (kb l)) rfl a64_size (by rfl) N1.out (bytes_one _) ?_))
    refine bodyPost_ret (v := .agg (Lib.byteCells (kb l)).toArray) (by exact AF.out.ret rfl _ rfl A64.out rfl a64_size N1.out) rfl ⟨rfl, HBF.out⟩
  · have ct : decide ((l.length : Int) > 64) = false := decide_eq_false (by omega)
    have HKK := Lib.hid (show kk l = l by unfold kk; rw [if_neg h64])
    have HML := Lib.hid (show l.length ≤ 64 by omega)
    have HMX := Lib.hid ((HA.out.below HB.out).more HB.out.size)
    clear h64
    go_wp2_with (refine CopyB.copyB rfl (.tmp 11) (.tmp 12) rfl (w.heap.size + 1) 64 A l.length c l rfl rfl rfl (Lib.byteCells (List.replicate 64 0)) 50 A1.out (by rfl) HML.out HMX.out ?_)
    intro w2 a2 hB2
    have A2 : Hid (Arr w2 (w.heap.size + 1) 50 (Lib.byteCells (kb l))) := Lib.hid (by rw [← kb_cells l l HKK.out]; exact a2)
    have N1 := Lib.hid (show (Lib.byteCells (kb l)).length = 64 by rw [Lib.byteCells_length, kb_len])
    have A0F := Lib.hid (A0.out.below hB2 (by omega))
    have HBX := Lib.hid (HB.out.trans (hB2.mono (Nat.le_succ _)))
    have AF := Lib.hid (A0F.out.row (Lib.byteCells (kb l)))
    have HBF := Lib.hid (below_row HBX.out (Nat.le_refl _) (Lib.byteCells (kb l)).toArray)
    clear hB2 a2
    go_wp2_with (first | (refine Arr.loadL A2.out rfl 50 (.tmp 3) rfl rfl A64.out rfl a64_size N1.out ?_) | (refine Arr.storeL A0F.out rfl 50 (.tmp 2) (.tmp 14) rfl rfl (Lib.byteCells (kb l)) rfl a64_size (by rfl) N1.out (bytes_one _) ?_))
    refine bodyPost_ret (v := .agg (Lib.byteCells (kb l)).toArray) (by exact AF.out.ret rfl _ rfl A64.out rfl a64_size N1.out) rfl ⟨rfl, HBF.out⟩
end Go.Proofs.YtnlhcogmccladaaDoor.MacFnW
