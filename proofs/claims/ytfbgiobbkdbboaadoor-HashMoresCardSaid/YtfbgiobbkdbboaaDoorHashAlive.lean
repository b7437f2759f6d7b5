/-
  ticketwardkeep.alive4 returns true. Conditions: the program's own table.
-/
import Derived.Test.YtfbgiobbkdbboaaDoorHashSame
import Derived.Test.YtfbgiobbkdbboaaDoorRefHex
import Derived.Lib.SlBytesConst
namespace Go.Proofs.YtfbgiobbkdbboaaDoor.HashAliveW
open Go.RowKit BytesW WordsW ArrW HashM HashX HashMath HashCompW HashFinW HashRightW HashSumW HashSameW

/-- A row of bytes that has just been laid, whatever its mark. -/
theorem lits (w : World) (l : List UInt8) (cs : Array Value) (hcs : cs = (Lib.byteCells l).toArray) (fz : Nat × Nat) (B : Nat) (hB : w.heap.size < B) : Bs (w.alloc (.cells cs 5 fz)) B (some ⟨w.heap.size, 0, none⟩) l := by
  subst hcs
  intro _
  refine ⟨_, rfl, hB, fun k hk => ?_⟩
  have e : (⟨w.heap.size, 0, none⟩ : Addr).add k = ⟨w.heap.size, k, none⟩ := by unfold Addr.add; split <;> simp_all
  rw [e]
  unfold World.cell?
  simp only [heap_alloc_new]
  simp [Lib.byteCells, List.getElem?_eq_getElem hk]

set_option maxHeartbeats 4000000 in
set_option maxRecDepth 100000 in
theorem alive_any (w : World) (hT : TabR w) : Calls Tryd.prog 18 #[] w fun e w' => e = .returned (.bool true) ∧ Below w.heap.size w w' := by
  have kc := fun (w : World) (C : Array Value) (n c : Nat) => Lib.run_convert_bytes_const (P := Tryd.prog) w 22 5 C n c Tryd.underlying22 Tryd.underlying5
  have HT := Lib.hid hT
  clear hT
  go_enter Tryd.func18, Tryd.ntmps18
  go_wp2_with fail
  have b0 := (Below.refl w.heap.size w).alloc (Nat.le_refl _) (.cells #[.int .u8 97, .int .u8 98, .int .u8 99] 5 (3, 4))
  have hsu := sum_any (some ⟨w.heap.size, 0, none⟩) [97, 98, 99] 3 _ (lits w [97, 98, 99] #[.int .u8 97, .int .u8 98, .int .u8 99] rfl (3, 4) _ (by simp)) (by decide) (by decide) (HT.out.below b0)
  rw [sum_abc] at hsu
  refine hsu.mono ?_
  clear hsu
  rintro e w1 ⟨rfl, b1⟩
  have x1 := b0.trans (b1.mono (by simp))
  obtain ⟨D, hD⟩ : ∃ D : List UInt8, D = [0xba, 0x78, 0x16, 0xbf, 0x8f, 0x01, 0xcf, 0xea, 0x41, 0x41, 0x40, 0xde, 0x5d, 0xae, 0x22, 0x23, 0xb0, 0x03, 0x61, 0xa3, 0x96, 0x17, 0x7a, 0x9c, 0xb4, 0x10, 0xff, 0x61, 0xf2, 0x00, 0x15, 0xad] := ⟨_, rfl⟩
  rw [← hD]
  have N32 := Lib.hid (show (Lib.byteCells D).length = 32 by rw [hD]; rfl)
  have HD := Lib.hid (show (⟨(TextM.hex D).toArray⟩ : ByteArray) = ⟨#[98, 97, 55, 56, 49, 54, 98, 102, 56, 102, 48, 49, 99, 102, 101, 97, 52, 49, 52, 49, 52, 48, 100, 101, 53, 100, 97, 101, 50, 50, 50, 51, 98, 48, 48, 51, 54, 49, 97, 51, 57, 54, 49, 55, 55, 97, 57, 99, 98, 52, 49, 48, 102, 102, 54, 49, 102, 50, 48, 48, 49, 53, 97, 100]⟩ by rw [hD]; decide +kernel)
  have HL := Lib.hid (show D.length = 32 by rw [hD]; rfl)
  clear hD kc b0 b1
  go_upto_region 2 with (refine Arr.storeL (Arr.new w1 _ _) rfl 31 (.tmp 1) (.tmp 4) rfl rfl (Lib.byteCells D) rfl dig_size (by rfl) N32.out (bytes_one D) ?_)
  generalize hw3 : World.setRow _ _ _ = w3
  obtain ⟨a0, hb3, hs3⟩ := filled hw3
  have x3 := x1.trans (hb3.mono x1.size)
  have hbs := arr_bs a0 (show w1.heap.size < w3.heap.size by omega)
  have hh := RefHexW.hex_ref (some ⟨w1.heap.size, 0, none⟩) D 32 w3 hbs (by rw [HL.out]; decide)
  rw [HL.out, HD.out] at hh
  have HH := Lib.hid hh
  clear hh hbs a0 hb3 hs3 hw3
  go_wp2_with fail
  refine HH.out.mono ?_
  rintro e w4 ⟨rfl, b4⟩
  have x4 := x3.trans (b4.mono x3.size)
  go_wp2
  go_ret
  exact ⟨rfl, x4⟩
end Go.Proofs.YtfbgiobbkdbboaaDoor.HashAliveW
