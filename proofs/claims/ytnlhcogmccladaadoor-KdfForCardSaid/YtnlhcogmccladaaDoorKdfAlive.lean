/-
  ticketwardkeep.alive7 returns true. Conditions: the tables that kdf asks for.
-/
import Derived.Test.YtnlhcogmccladaaDoorKdfSum
import Derived.Test.YtnlhcogmccladaaDoorKdfHi
import Derived.Test.YtnlhcogmccladaaDoorSRepeat
import Derived.Test.YtnlhcogmccladaaDoorRefHex
import Derived.Test.YtnlhcogmccladaaDoorHashD
import Derived.Lib.SlBytesConst
namespace Go.Proofs.YtnlhcogmccladaaDoor.KdfAliveW
open Go.RowKit BytesW CellsW WordsW ArrW HashX HashSumW HashSameW HashFinW MacM KdfM KdfSumW

/-- A row of bytes that has just been laid, whatever its mark. -/
theorem lits (w : World) (l : List UInt8) (cs : Array Value) (hcs : cs = (Lib.byteCells l).toArray) (fz : Nat × Nat) (B : Nat) (hB : w.heap.size < B) : Bs (w.alloc (.cells cs 5 fz)) B (some ⟨w.heap.size, 0, none⟩) l := by
  subst hcs
  intro _
  refine ⟨_, rfl, hB, fun k hk => ?_⟩
  have e : (⟨w.heap.size, 0, none⟩ : Addr).add k = ⟨w.heap.size, k, none⟩ := by unfold Addr.add; split <;> simp_all
  rw [e]
  unfold World.cell?
  simp only [heap_alloc_new]
  simp [Lib.byteCells, List.getElem?_eq_getElem hk]

set_option maxHeartbeats 4000000 in
set_option maxRecDepth 100000 in
theorem alive_any (w : World) (hT : Tabs w) : Calls Tryd.prog 15 #[] w fun e w' => e = .returned (.bool true) ∧ Below w.heap.size w w' := by
  have HT := Lib.hid hT
  clear hT
  go_enter Tryd.func15, Tryd.ntmps15
  go_upto_region 2 with (fail)
  generalize hw1 : World.alloc _ _ = w1
  have hs1 := lits w salt7 #[.int .u8 0, .int .u8 1, .int .u8 2, .int .u8 3, .int .u8 4, .int .u8 5, .int .u8 6, .int .u8 7, .int .u8 8, .int .u8 9, .int .u8 10, .int .u8 11, .int .u8 12] rfl (0, 0) (w.heap.size + 1) (Nat.lt_succ_self _)
  have b1 := (Below.refl w.heap.size w).alloc (Nat.le_refl _) (.cells #[.int .u8 0, .int .u8 1, .int .u8 2, .int .u8 3, .int .u8 4, .int .u8 5, .int .u8 6, .int .u8 7, .int .u8 8, .int .u8 9, .int .u8 10, .int .u8 11, .int .u8 12] 5)
  have hz1 : (w.alloc (.cells #[.int .u8 0, .int .u8 1, .int .u8 2, .int .u8 3, .int .u8 4, .int .u8 5, .int .u8 6, .int .u8 7, .int .u8 8, .int .u8 9, .int .u8 10, .int .u8 11, .int .u8 12] 5)).heap.size = w.heap.size + 1 := by simp
  have hw1' : w.alloc (.cells #[.int .u8 0, .int .u8 1, .int .u8 2, .int .u8 3, .int .u8 4, .int .u8 5, .int .u8 6, .int .u8 7, .int .u8 8, .int .u8 9, .int .u8 10, .int .u8 11, .int .u8 12] 5) = w1 := hw1
  rw [hw1'] at b1 hs1 hz1
  rw [← hz1] at hs1
  have X1 := Lib.hid b1
  have S1 := Lib.hid hs1
  obtain ⟨A1, hA1⟩ : ∃ A1, (some ⟨w.heap.size, 0, none⟩ : Option Addr) = A1 := ⟨_, rfl⟩
  rw [hA1] at S1 ⊢
  clear hw1 hw1' hs1 b1 hz1 hA1
  go_wp2_with fail
  have b2 := (Below.refl w1.heap.size w1).alloc (Nat.le_refl _) (.cells #[.int .u8 11] 5)
  have hre := SRepeatW.repeat_n 22 (by decide) (by decide) (some ⟨w1.heap.size, 0, none⟩) 11 1 _ (lits w1 [11] #[.int .u8 11] rfl (0, 0) _ (by simp))
  have X2 := Lib.hid (X1.out.trans (b2.mono X1.out.size))
  have S12 := Lib.hid ((S1.out.below b2).more b2.size)
  have HRe := Lib.hid hre
  clear hre b2
  refine HRe.out.mono ?_
  clear HRe
  rintro e w3 ⟨A3, rfl, s3, b3⟩
  have X3 := Lib.hid (X2.out.trans (b3.mono X2.out.size))
  have S13 := Lib.hid ((S12.out.below b3).more b3.size)
  have hex := kextract_any A1 salt7 13 A3 (List.replicate 22 11) 22 w3 S13.out (by decide) s3 (by decide) (by decide) (by decide) (HT.out.below X3.out)
  rw [prk_is, show salt7.length = 13 from rfl, show (List.replicate 22 (11 : UInt8)).length = 22 from rfl] at hex
  have HEx := Lib.hid hex
  clear hex b3 s3
  go_wp2_with fail
  refine HEx.out.mono ?_
  clear HEx
  rintro e w4 ⟨rfl, b4⟩
  have X4 := Lib.hid (X3.out.trans (b4.mono X3.out.size))
  have S14 := Lib.hid ((S13.out.below b4).more b4.size)
  obtain ⟨D, hD⟩ : ∃ D, prk7 = D := ⟨_, rfl⟩
  rw [hD]
  have N32 := Lib.hid (show (Lib.byteCells D).length = 32 by rw [← hD]; rfl)
  have HL := Lib.hid (show D.length = 32 by rw [← hD]; rfl)
  have HDh := Lib.hid (show (⟨(TextM.hex D).toArray⟩ : ByteArray) = ⟨#[48, 55, 55, 55, 48, 57, 51, 54, 50, 99, 50, 101, 51, 50, 100, 102, 48, 100, 100, 99, 51, 102, 48, 100, 99, 52, 55, 98, 98, 97, 54, 51, 57, 48, 98, 54, 99, 55, 51, 98, 98, 53, 48, 102, 57, 99, 51, 49, 50, 50, 101, 99, 56, 52, 52, 97, 100, 55, 99, 50, 98, 51, 101, 53]⟩ by rw [← hD]; decide +kernel)
  have HOk := Lib.hid (show expand D info7 42 = okm7 by rw [← hD]; exact okm_is)
  clear b4 hD
  go_upto_region 3 with (refine Arr.storeL (Arr.new w4 _ _) rfl 27 (.tmp 2) (.tmp 9) rfl rfl (Lib.byteCells D) rfl dig_size (by rfl) N32.out (bytes_one D) ?_)
  generalize hw5 : World.setRow _ _ _ = w5
  obtain ⟨p2, b5, -⟩ := filled hw5
  have X5 := Lib.hid (X4.out.trans (b5.mono X4.out.size))
  have P2 := Lib.hid p2
  obtain ⟨g2, hg2⟩ : ∃ g, w4.heap.size = g := ⟨_, rfl⟩
  rw [hg2] at P2 ⊢
  clear b5 hw5 p2 hg2
  go_wp2_with fail
  have b6 := (Below.refl w5.heap.size w5).alloc (Nat.le_refl _) (.cells #[.int .u8 240, .int .u8 241, .int .u8 242, .int .u8 243, .int .u8 244, .int .u8 245, .int .u8 246, .int .u8 247, .int .u8 248, .int .u8 249] 5)
  have hs6 := lits w5 info7 #[.int .u8 240, .int .u8 241, .int .u8 242, .int .u8 243, .int .u8 244, .int .u8 245, .int .u8 246, .int .u8 247, .int .u8 248, .int .u8 249] rfl (0, 0) (w5.alloc (.cells #[.int .u8 240, .int .u8 241, .int .u8 242, .int .u8 243, .int .u8 244, .int .u8 245, .int .u8 246, .int .u8 247, .int .u8 248, .int .u8 249] 5)).heap.size (by simp)
  have X6 := Lib.hid (X5.out.trans (b6.mono X5.out.size))
  have P26 := Lib.hid (P2.out.below b6 P2.out.lt)
  have hxp := kexpand_any (some ⟨g2, 0, none⟩) D 32 (some ⟨w5.heap.size, 0, none⟩) info7 10 42 _ (arr_bs P26.out P26.out.lt) (by rw [HL.out]; exact Nat.le_refl _) hs6 (by decide) (by rw [HL.out]; decide) (by decide) (by decide) (by decide) (HT.out.below X6.out)
  have e1 : expandM D info7 42 = (okm7, 0) := by
    unfold expandM
    rw [if_neg (by decide), show (42 : Int).toNat = 42 from rfl, HOk.out]
  rw [e1, HL.out, show info7.length = 10 from rfl] at hxp
  have HXp := Lib.hid hxp
  clear hxp hs6 b6 e1
  refine HXp.out.mono ?_
  clear HXp
  rintro e w7 ⟨A7, d7, rfl, hd7, s7, b7⟩
  have X7 := Lib.hid (X6.out.trans (b7.mono X6.out.size))
  have P27 := Lib.hid (P26.out.below b7 P26.out.lt)
  obtain ⟨O, hO⟩ : ∃ O, okm7 = O := ⟨_, rfl⟩
  rw [hO] at s7 hd7
  simp only [hO]
  have HOl := Lib.hid (show O.length = 42 by rw [← hO]; rfl)
  have HOh := Lib.hid (show (⟨(TextM.hex O).toArray⟩ : ByteArray) = ⟨#[51, 99, 98, 50, 53, 102, 50, 53, 102, 97, 97, 99, 100, 53, 55, 97, 57, 48, 52, 51, 52, 102, 54, 52, 100, 48, 51, 54, 50, 102, 50, 97, 50, 100, 50, 100, 48, 97, 57, 48, 99, 102, 49, 97, 53, 97, 52, 99, 53, 100, 98, 48, 50, 100, 53, 54, 101, 99, 99, 52, 99, 53, 98, 102, 51, 52, 48, 48, 55, 50, 48, 56, 100, 53, 98, 56, 56, 55, 49, 56, 53, 56, 54, 53]⟩ by rw [← hO]; decide +kernel)
  have S7 := Lib.hid s7
  clear hO s7 b7
  simp only [HOl.out]
  have hh := RefHexW.hex_ref (some ⟨g2, 0, none⟩) D 32 w7 (arr_bs P27.out P27.out.lt) (by rw [HL.out]; decide)
  rw [HL.out, HDh.out] at hh
  have HH := Lib.hid hh
  clear hh
  go_wp2_with fail
  refine HH.out.mono ?_
  clear HH
  rintro e w8 ⟨rfl, b8⟩
  have X8 := Lib.hid (X7.out.trans (b8.mono X7.out.size))
  have hh := RefHexW.hex_ref A7 O d7 w8 ((S7.out.below b8).more b8.size) (by rw [HOl.out]; decide)
  rw [HOl.out, HOh.out] at hh
  have HH := Lib.hid hh
  clear hh b8
  go_wp2_with fail
  refine HH.out.mono ?_
  clear HH
  rintro e w9 ⟨rfl, b9⟩
  have x9 := X8.out.trans (b9.mono X8.out.size)
  go_wp2
  go_ret
  exact ⟨rfl, x9⟩
end Go.Proofs.YtnlhcogmccladaaDoor.KdfAliveW
