/-
  ticketwardkeep.alive6 returns true. Conditions: the tables that mac.Sum asks for.
-/
import Derived.Test.YtehlolklbdbhkaaDoorMacSum
import Derived.Test.YtehlolklbdbhkaaDoorMacHi
import Derived.Test.YtehlolklbdbhkaaDoorSRepeat
import Derived.Test.YtehlolklbdbhkaaDoorRefHex
import Derived.Lib.SlBytesConst
namespace Go.Proofs.YtehlolklbdbhkaaDoor.MacAliveW
open Go.RowKit BytesW CellsW WordsW ArrW HashX HashSumW HashSameW HashFinW MacM MacSumW

/-- A row of bytes that has just been laid, whatever its mark. -/
theorem lits (w : World) (l : List UInt8) (cs : Array Value) (hcs : cs = (Lib.byteCells l).toArray) (fz : Nat × Nat) (B : Nat) (hB : w.heap.size < B) : Bs (w.alloc (.cells cs 5 fz)) B (some ⟨w.heap.size, 0, none⟩) l := by
  subst hcs
  intro _
  refine ⟨_, rfl, hB, fun k hk => ?_⟩
  have e : (⟨w.heap.size, 0, none⟩ : Addr).add k = ⟨w.heap.size, k, none⟩ := by unfold Addr.add; split <;> simp_all
  rw [e]
  unfold World.cell?
  simp only [heap_alloc_new]
  simp [Lib.byteCells, List.getElem?_eq_getElem hk]

set_option maxHeartbeats 4000000 in
set_option maxRecDepth 100000 in
theorem alive_any (w : World) (hT : Tabs w) : Calls Tryd.prog 14 #[] w fun e w' => e = .returned (.bool true) ∧ Below w.heap.size w w' := by
  have kc := fun (w : World) (C : Array Value) (n c : Nat) => Lib.run_convert_bytes_const (P := Tryd.prog) w 22 5 C n c Tryd.underlying22 Tryd.underlying5
  have HT := Lib.hid hT
  clear hT
  go_enter Tryd.func14, Tryd.ntmps14
  go_wp2_with fail
  have b0 := (Below.refl w.heap.size w).alloc (Nat.le_refl _) (.cells #[.int .u8 11] 5)
  have hre := SRepeatW.repeat_20 (some ⟨w.heap.size, 0, none⟩) 11 1 _ (lits w [11] #[.int .u8 11] rfl (0, 0) _ (by simp))
  refine hre.mono ?_
  clear hre
  rintro e w1 ⟨A1, rfl, s1, b1⟩
  have x1 := b0.trans (b1.mono (by simp))
  have X1 := Lib.hid x1
  have S1 := Lib.hid s1
  clear b0 b1 x1 s1
  go_wp2_with fail
  have b2 := (Below.refl w1.heap.size w1).alloc (Nat.le_refl _) (.cells #[.int .u8 72, .int .u8 105, .int .u8 32, .int .u8 84, .int .u8 104, .int .u8 101, .int .u8 114, .int .u8 101] 5 (8, 9))
  have x2 := X1.out.trans (b2.mono X1.out.size)
  have hsu := msum_any A1 (List.replicate 20 11) 20 (some ⟨w1.heap.size, 0, none⟩) [72, 105, 32, 84, 104, 101, 114, 101] 8 _ ((S1.out.below b2).more (by simp)) (by decide) (lits w1 [72, 105, 32, 84, 104, 101, 114, 101] #[.int .u8 72, .int .u8 105, .int .u8 32, .int .u8 84, .int .u8 104, .int .u8 101, .int .u8 114, .int .u8 101] rfl (8, 9) _ (by simp)) (by decide) (by decide) (by decide) (HT.out.below x2)
  rw [hm_small _ _ (by decide), hmac_hi, show (List.replicate 20 (11 : UInt8)).length = 20 from rfl, show ([72, 105, 32, 84, 104, 101, 114, 101] : List UInt8).length = 8 from rfl] at hsu
  have HSu := Lib.hid hsu
  have X2 := Lib.hid x2
  clear hsu x2
  refine HSu.out.mono ?_
  clear HSu
  rintro e w2 ⟨rfl, b3⟩
  have x3 := X2.out.trans (b3.mono X2.out.size)
  obtain ⟨D, hD⟩ : ∃ D, hiOut = D := ⟨_, rfl⟩
  rw [hD]
  have N32 := Lib.hid (show (Lib.byteCells D).length = 32 by rw [← hD]; rfl)
  have HD := Lib.hid (show (⟨(TextM.hex D).toArray⟩ : ByteArray) = ⟨#[98, 48, 51, 52, 52, 99, 54, 49, 100, 56, 100, 98, 51, 56, 53, 51, 53, 99, 97, 56, 97, 102, 99, 101, 97, 102, 48, 98, 102, 49, 50, 98, 56, 56, 49, 100, 99, 50, 48, 48, 99, 57, 56, 51, 51, 100, 97, 55, 50, 54, 101, 57, 51, 55, 54, 99, 50, 101, 51, 50, 99, 102, 102, 55]⟩ by rw [← hD]; decide +kernel)
  have HL := Lib.hid (show D.length = 32 by rw [← hD]; rfl)
  clear hD kc b2 b3
  go_upto_region 2 with (refine Arr.storeL (Arr.new w2 _ _) rfl 24 (.tmp 1) (.tmp 6) rfl rfl (Lib.byteCells D) rfl dig_size (by rfl) N32.out (bytes_one D) ?_)
  generalize hw3 : World.setRow _ _ _ = w3
  obtain ⟨a0, hb3, hs3⟩ := filled hw3
  have x4 := x3.trans (hb3.mono x3.size)
  have hbs := arr_bs a0 (show w2.heap.size < w3.heap.size by omega)
  have hh := RefHexW.hex_ref (some ⟨w2.heap.size, 0, none⟩) D 32 w3 hbs (by rw [HL.out]; decide)
  rw [HL.out, HD.out] at hh
  have HH := Lib.hid hh
  clear hh hbs a0 hb3 hs3 hw3
  go_wp2_with fail
  refine HH.out.mono ?_
  clear HH
  rintro e w4 ⟨rfl, b4⟩
  have x5 := x4.trans (b4.mono x4.size)
  go_wp2
  go_ret
  exact ⟨rfl, x5⟩
end Go.Proofs.YtehlolklbdbhkaaDoor.MacAliveW
