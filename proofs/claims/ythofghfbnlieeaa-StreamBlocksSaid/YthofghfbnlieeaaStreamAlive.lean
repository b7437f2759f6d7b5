/-
  ticketwardkeep.alive8 returns true. Conditions: none.
-/
import Derived.Test.YthofghfbnlieeaaStreamSum
import Derived.Test.YthofghfbnlieeaaRefHex
import Derived.Test.YthofghfbnlieeaaKc
import Derived.Deep.DeepCutAuto
namespace Go.Proofs.Ythofghfbnlieeaa.StreamAliveW
open Go.RowKit BytesW ArrW ArrG StreamM StreamSumW

/-- The key of the example. -/
def key8 (k : Nat) : List UInt8 := (List.range k).map (fun i => UInt8.ofNat i) ++ List.replicate (32 - k) 0
theorem key8_len (k : Nat) (h : k ≤ 32) : (key8 k).length = 32 := by simp [key8]; omega
theorem key8_set (k : Nat) (h : k < 32) : (key8 k).set k (UInt8.ofNat k) = key8 (k + 1) := by
  have h1 : ((List.range k).map (fun i => UInt8.ofNat i)).length = k := by simp
  unfold key8
  rw [List.set_append, if_neg (by omega), h1, Nat.sub_self, show 32 - k = (32 - (k + 1)) + 1 by omega, List.replicate_succ, List.set_cons_zero, List.range_succ, List.map_append, List.append_assoc]
  rfl
def nonce8 : List UInt8 := [0, 0, 0, 9, 0, 0, 0, 0x4a, 0, 0, 0, 0]
theorem alive_num : (block (key8 32) nonce8 1).take 16 = [0x10, 0xf1, 0xe7, 0xe4, 0xd1, 0x3b, 0x59, 0x15, 0x50, 0x0f, 0xdd, 0x1f, 0xa3, 0x20, 0x71, 0xc4] := by decide +kernel
theorem made32 : madeCells #[.int .u8 0] 32 = (Lib.byteCells (List.replicate 32 0)).toArray := by
  apply Array.toList_inj.1
  rw [toList_madeCells_one]
  simp [Lib.byteCells]
/-- A row of bytes that has just been laid, whatever its mark. -/
theorem lits (w : World) (l : List UInt8) (cs : Array Value) (hcs : cs = (Lib.byteCells l).toArray) (fz : Nat × Nat) (B : Nat) (hB : w.heap.size < B) : Bs (w.alloc (.cells cs 5 fz)) B (some ⟨w.heap.size, 0, none⟩) l := by
  subst hcs
  intro _
  refine ⟨_, rfl, hB, fun k hk => ?_⟩
  have e : (⟨w.heap.size, 0, none⟩ : Addr).add k = ⟨w.heap.size, k, none⟩ := by unfold Addr.add; split <;> simp_all
  rw [e]
  unfold World.cell?
  simp only [heap_alloc_new]
  simp [Lib.byteCells, List.getElem?_eq_getElem hk]
theorem bc_getD (l : List UInt8) (k : Nat) (h : k < l.length) : (Lib.byteCells l)[k]? = some (.int .u8 ((l.getD k 0).toNat : Int)) := by
  rw [List.getD_eq_getElem?_getD, List.getElem?_eq_getElem h]
  simp [Lib.byteCells, List.getElem?_eq_getElem h]
theorem bc_set (l : List UInt8) (k : Nat) (x : UInt8) : (Lib.byteCells l).set k (.int .u8 (x.toNat : Int)) = Lib.byteCells (l.set k x) := by simp [Lib.byteCells, List.map_set]
theorem arr_bs {w : World} {g B : Nat} {t : TypeId} {D : List UInt8} (h : Arr w g t (Lib.byteCells D)) (hB : g < B) : Bs w B (some ⟨g, 0, none⟩) D := by
  intro _
  refine ⟨_, rfl, hB, fun k hk => ?_⟩
  have e : (⟨g, 0, none⟩ : Addr).add k = ⟨g, k, none⟩ := by unfold Addr.add; split <;> simp_all
  rw [e, h.cell]
  simp [Lib.byteCells, List.getElem?_eq_getElem hk]

set_option maxHeartbeats 4000000 in
set_option maxRecDepth 100000 in
theorem alive_any (w : World) : Calls Try.prog 12 #[] w fun e w' => e = .returned (.bool true) ∧ Below w.heap.size w w' := by
  go_enter Try.func12, Try.ntmps12
  have hmk : (Instr.makeSlice 22 (.int .i64 32) (.int .i64 32)).run Try.prog w = .ok (.slice (some ⟨w.heap.size, 0, none⟩) 32 32) (w.alloc (.cells (madeCells #[.int .u8 0] 32) 5)) := makeN 32 (by omega) w
  rw [made32] at hmk
  go_upto_region 2 with (fail)
  clear hmk
  generalize hW : World.alloc _ _ = W
  obtain ⟨r0, hb0, hs0⟩ := start1 hW
  clear hW
  have A0 : Hid (Arr W w.heap.size 5 (Lib.byteCells (key8 0))) := Lib.hid r0
  have X0 := Lib.hid hb0
  clear r0 hb0 hs0
  go_wp2
  go_loopw [8] (fun vk wr => ∃ k : Nat, k ≤ 32 ∧ vk = .int .i64 (k : Int) ∧ Arr wr w.heap.size 5 (Lib.byteCells (key8 k)) ∧ W.grownBy wr (some w.heap.size)) (fun vk _ => 32 - (intOf vk).toNat)
  case atStart => exact ⟨0, by omega, rfl, A0.out, grownRefl _ _⟩
  case round =>
    obtain ⟨k, hk, rfl, ak, gk⟩ := hrel
    have AK := Lib.hid ak
    have GK := Lib.hid gk
    clear ak gk
    by_cases hlt : k < 32
    · have ct : decide ((k : Int) < 32) = true := decide_eq_true (by omega)
      have ck := AK.out.cell k
      rw [bc_getD _ k (by rw [key8_len k hk]; exact hlt)] at ck
      have fk := AK.out.frozen k
      have a2 := AK.out.set k (.int .u8 ((UInt8.ofNat k).toNat : Int))
      rw [bc_set, key8_set k hlt] at a2
      have A2 := Lib.hid a2
      have G2 := Lib.hid (grownTrans GK.out (grownSet wr w.heap.size k (.int .u8 ((UInt8.ofNat k).toNat : Int))))
      have wk : IntKind.u8.wrap (k : Int) = ((UInt8.ofNat k).toNat : Int) := by rw [UInt8.toNat_ofNat', IntKind.wrap_u8]; omega
      have ik : (k : Int) < 32 := by omega
      obtain ⟨y, hy⟩ : ∃ y, ((UInt8.ofNat k).toNat : Int) = y := ⟨_, rfl⟩
      rw [hy] at A2 G2 wk
      clear a2 hy
      go_wp2
      go_roundw
      case rel => exact ⟨k + 1, by omega, by go_num, A2.out, G2.out⟩
      case measure => simp [intOf]; omega
    · obtain rfl : k = 32 := by omega
      have ct : decide (((32 : Nat) : Int) < 32) = false := rfl
      have X1 := Lib.hid (X0.out.trans (grownBelow GK.out (Nat.le_refl _) X0.out.size))
      have hKs := arr_bs AK.out AK.out.lt
      obtain ⟨Ky, hKy⟩ : ∃ Ky, key8 32 = Ky := ⟨_, rfl⟩
      have HKy := Lib.hid hKy
      have HKl := Lib.hid (show Ky.length = 32 by rw [← hKy]; exact key8_len 32 (Nat.le_refl _))
      rw [hKy] at hKs
      have KS := Lib.hid hKs
      clear hKy hKs hlt hk
      go_wp2_with fail
      have s1 := lits wr nonce8 #[.int .u8 0, .int .u8 0, .int .u8 0, .int .u8 9, .int .u8 0, .int .u8 0, .int .u8 0, .int .u8 74, .int .u8 0, .int .u8 0, .int .u8 0, .int .u8 0] rfl (0, 0) (wr.heap.size + 1) (Nat.lt_succ_self _)
      have b1 := (Below.refl wr.heap.size wr).alloc (Nat.le_refl _) (.cells #[.int .u8 0, .int .u8 0, .int .u8 0, .int .u8 9, .int .u8 0, .int .u8 0, .int .u8 0, .int .u8 74, .int .u8 0, .int .u8 0, .int .u8 0, .int .u8 0] 5)
      obtain ⟨W1, hW1⟩ : ∃ W1, wr.alloc (.cells #[.int .u8 0, .int .u8 0, .int .u8 0, .int .u8 9, .int .u8 0, .int .u8 0, .int .u8 0, .int .u8 74, .int .u8 0, .int .u8 0, .int .u8 0, .int .u8 0] 5) = W1 := ⟨_, rfl⟩
      have hz1 : W1.heap.size = wr.heap.size + 1 := by rw [← hW1]; simp
      rw [hW1] at s1 b1 ⊢
      rw [← hz1] at s1
      have X2 := Lib.hid (X1.out.trans (b1.mono X1.out.size))
      have hbl := sblock_any (some ⟨w.heap.size, 0, none⟩) Ky 32 (some ⟨wr.heap.size, 0, none⟩) nonce8 12 1 W1 ((KS.out.below b1).more b1.size) (by rw [HKl.out]; exact Nat.le_refl _) s1 (by decide) (by rw [HKl.out]; decide) (by decide) (by decide) (by decide)
      rw [show blockM Ky nonce8 1 = (block Ky nonce8 1, 0) by unfold blockM; rw [if_neg (by rw [HKl.out]; decide), if_neg (by decide)], HKl.out] at hbl
      have HBl := Lib.hid hbl
      have HBn := Lib.hid (show (block Ky nonce8 1).take 16 = [0x10, 0xf1, 0xe7, 0xe4, 0xd1, 0x3b, 0x59, 0x15, 0x50, 0x0f, 0xdd, 0x1f, 0xa3, 0x20, 0x71, 0xc4] by rw [← HKy.out]; exact alive_num)
      have HBe := Lib.hid (block_len Ky nonce8 1)
      obtain ⟨Bk, hBk⟩ : ∃ Bk, block Ky nonce8 1 = Bk := ⟨_, rfl⟩
      rw [hBk] at HBl HBn HBe
      clear hbl s1 b1 hW1 hz1 hBk
      refine HBl.out.mono ?_
      clear HBl
      rintro e w2 ⟨A3, c3, rfl, hc3, s3, b3⟩
      simp only [HBe.out] at hc3 ⊢
      have X3 := Lib.hid (X2.out.trans (b3.mono X2.out.size))
      have hs3 : Bs w2 w2.heap.size A3 Bk := s3
      have ht := hs3.take 16
      rw [HBn.out] at ht
      obtain ⟨D, hD⟩ : ∃ D : List UInt8, [0x10, 0xf1, 0xe7, 0xe4, 0xd1, 0x3b, 0x59, 0x15, 0x50, 0x0f, 0xdd, 0x1f, 0xa3, 0x20, 0x71, 0xc4] = D := ⟨_, rfl⟩
      have HD := Lib.hid (show (⟨(TextM.hex D).toArray⟩ : ByteArray) = ⟨#[49, 48, 102, 49, 101, 55, 101, 52, 100, 49, 51, 98, 53, 57, 49, 53, 53, 48, 48, 102, 100, 100, 49, 102, 97, 51, 50, 48, 55, 49, 99, 52]⟩ by rw [← hD]; decide +kernel)
      have HDl := Lib.hid (show D.length = 16 by rw [← hD]; rfl)
      rw [hD] at ht
      have hh := RefHexW.hex_ref A3 D c3 w2 ht (by rw [HDl.out]; decide)
      rw [HDl.out, HD.out] at hh
      have HH := Lib.hid hh
      have ic : (16 : Int) ≤ (c3 : Int) := by omega
      clear hh ht hs3 s3 b3 hD
      go_wp2_with fail
      refine HH.out.mono ?_
      clear HH
      rintro e w4 ⟨rfl, b4⟩
      have X5 := Lib.hid (X3.out.trans (b4.mono X3.out.size))
      clear b4
      go_wp2
      go_ret
      exact ⟨rfl, X5.out⟩
end Go.Proofs.Ythofghfbnlieeaa.StreamAliveW
