/-
  ticketwardkeep.alive5 returns true. Conditions: the program's own table.
-/
import Derived.Test.YtmmmogccjopfeaaDoorWideD
import Derived.Test.YtmmmogccjopfeaaDoorRefHex
import Derived.Lib.SlBytesConst
namespace Go.Proofs.YtmmmogccjopfeaaDoor.WideAliveW
open Go.RowKit BytesW LongsW ArrW ArrG ArrL WideM WideX WideMore WideEndW WideCompW WideEndFW WideRowsW WideD

/-- A row of bytes that has just been laid, whatever its mark. -/
theorem lits (w : World) (l : List UInt8) (cs : Array Value) (hcs : cs = (Lib.byteCells l).toArray) (fz : Nat × Nat) (B : Nat) (hB : w.heap.size < B) : Bs (w.alloc (.cells cs 5 fz)) B (some ⟨w.heap.size, 0, none⟩) l := by
  subst hcs
  intro _
  refine ⟨_, rfl, hB, fun k hk => ?_⟩
  have e : (⟨w.heap.size, 0, none⟩ : Addr).add k = ⟨w.heap.size, k, none⟩ := by unfold Addr.add; split <;> simp_all
  rw [e]
  unfold World.cell?
  simp only [heap_alloc_new]
  simp [Lib.byteCells, List.getElem?_eq_getElem hk]

set_option maxHeartbeats 4000000 in
set_option maxRecDepth 100000 in
theorem alive_any (w : World) (hT : TabR w) : Calls Tryd.prog 7 #[] w fun e w' => e = .returned (.bool true) ∧ Below w.heap.size w w' := by
  have kc := fun (w : World) (C : Array Value) (n c : Nat) => Lib.run_convert_bytes_const (P := Tryd.prog) w 22 5 C n c Tryd.underlying22 Tryd.underlying5
  have HT := Lib.hid hT
  clear hT
  go_enter Tryd.func7, Tryd.ntmps7
  go_wp2_with fail
  have b0 := (Below.refl w.heap.size w).alloc (Nat.le_refl _) (.cells #[.int .u8 97, .int .u8 98, .int .u8 99] 5 (3, 4))
  have hsu := sum_any (some ⟨w.heap.size, 0, none⟩) [97, 98, 99] 3 _ (lits w [97, 98, 99] #[.int .u8 97, .int .u8 98, .int .u8 99] rfl (3, 4) _ (by simp)) (by decide) (by decide) (HT.out.below b0)
  rw [sum_abc] at hsu
  refine hsu.mono ?_
  clear hsu
  rintro e w1 ⟨rfl, b1⟩
  have x1 := b0.trans (b1.mono (by simp))
  obtain ⟨D, hD⟩ : ∃ D : List UInt8, D = [0xdd, 0xaf, 0x35, 0xa1, 0x93, 0x61, 0x7a, 0xba, 0xcc, 0x41, 0x73, 0x49, 0xae, 0x20, 0x41, 0x31, 0x12, 0xe6, 0xfa, 0x4e, 0x89, 0xa9, 0x7e, 0xa2, 0x0a, 0x9e, 0xee, 0xe6, 0x4b, 0x55, 0xd3, 0x9a, 0x21, 0x92, 0x99, 0x2a, 0x27, 0x4f, 0xc1, 0xa8, 0x36, 0xba, 0x3c, 0x23, 0xa3, 0xfe, 0xeb, 0xbd, 0x45, 0x4d, 0x44, 0x23, 0x64, 0x3c, 0xe8, 0x0e, 0x2a, 0x9a, 0xc9, 0x4f, 0xa5, 0x4c, 0xa4, 0x9f] := ⟨_, rfl⟩
  rw [← hD]
  have N64 := Lib.hid (show (Lib.byteCells D).length = 64 by rw [hD]; rfl)
  have HD := Lib.hid (show (⟨(TextM.hex D).toArray⟩ : ByteArray) = ⟨#[100, 100, 97, 102, 51, 53, 97, 49, 57, 51, 54, 49, 55, 97, 98, 97, 99, 99, 52, 49, 55, 51, 52, 57, 97, 101, 50, 48, 52, 49, 51, 49, 49, 50, 101, 54, 102, 97, 52, 101, 56, 57, 97, 57, 55, 101, 97, 50, 48, 97, 57, 101, 101, 101, 101, 54, 52, 98, 53, 53, 100, 51, 57, 97, 50, 49, 57, 50, 57, 57, 50, 97, 50, 55, 52, 102, 99, 49, 97, 56, 51, 54, 98, 97, 51, 99, 50, 51, 97, 51, 102, 101, 101, 98, 98, 100, 52, 53, 52, 100, 52, 52, 50, 51, 54, 52, 51, 99, 101, 56, 48, 101, 50, 97, 57, 97, 99, 57, 52, 102, 97, 53, 52, 99, 97, 52, 57, 102]⟩ by rw [hD]; decide +kernel)
  have HL := Lib.hid (show D.length = 64 by rw [hD]; rfl)
  clear hD kc b0 b1
  go_upto_region 2 with (refine Arr.storeL (Arr.new w1 _ _) rfl 24 (.tmp 1) (.tmp 4) rfl rfl (Lib.byteCells D) rfl wide_size (by rfl) N64.out (bytes_one D) ?_)
  generalize hw3 : World.setRow _ _ _ = w3
  obtain ⟨a0, hb3, hs3⟩ := filled hw3
  have x3 := x1.trans (hb3.mono x1.size)
  have hbs := arr_bs a0
  have hh := RefHexW.hex_ref (some ⟨w1.heap.size, 0, none⟩) D 64 w3 hbs (by rw [HL.out]; decide)
  rw [HL.out, HD.out] at hh
  have HH := Lib.hid hh
  clear hh hbs a0 hb3 hs3 hw3
  go_wp2_with fail
  refine HH.out.mono ?_
  rintro e w4 ⟨rfl, b4⟩
  have x4 := x3.trans (b4.mono x3.size)
  go_wp2
  go_ret
  exact ⟨rfl, x4⟩
end Go.Proofs.YtmmmogccjopfeaaDoor.WideAliveW
