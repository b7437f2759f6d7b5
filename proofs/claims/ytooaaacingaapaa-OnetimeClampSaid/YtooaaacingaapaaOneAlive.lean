/-
  ticketwardkeep.alive9 returns true. Conditions: none.
-/
import Derived.Test.YtooaaacingaapaaOneFace
import Derived.Test.YtooaaacingaapaaOneA16
import Derived.Test.YtooaaacingaapaaRefHex
import Derived.Test.YtooaaacingaapaaRefUnhex
import Derived.Test.YtooaaacingaapaaOneI
import Derived.Deep.DeepCutAuto
import Derived.Lib.SlBytesConst
namespace Go.Proofs.Ytooaaacingaapaa.OneAliveW
open Go.RowKit BytesW ArrW ArrG OneM OneFaceW OneA16

def key9 : List UInt8 := [0x85, 0xd6, 0xbe, 0x78, 0x57, 0x55, 0x6d, 0x33, 0x7f, 0x44, 0x52, 0xfe, 0x42, 0xd5, 0x06, 0xa8, 0x01, 0x03, 0x80, 0x8a, 0xfb, 0x0d, 0xb2, 0xfd, 0x4a, 0xbf, 0xf6, 0xaf, 0x41, 0x49, 0xf5, 0x1b]
def text9 : List UInt8 := [67, 114, 121, 112, 116, 111, 103, 114, 97, 112, 104, 105, 99, 32, 70, 111, 114, 117, 109, 32, 82, 101, 115, 101, 97, 114, 99, 104, 32, 71, 114, 111, 117, 112]
def tag9 : List UInt8 := [0xa8, 0x06, 0x1d, 0xc1, 0x30, 0x51, 0x36, 0xc6, 0xc2, 0x2b, 0x8b, 0xaf, 0x0c, 0x01, 0x27, 0xa9]

/-- A row of bytes that has just been laid, whatever its mark. -/
theorem litsO (w : World) (l : List UInt8) (cs : Array Value) (hcs : cs = (Lib.byteCells l).toArray) (fz : Nat × Nat) (B : Nat) (hB : w.heap.size < B) : Bs (w.alloc (.cells cs 5 fz)) B (some ⟨w.heap.size, 0, none⟩) l := by
  subst hcs
  intro _
  refine ⟨_, rfl, hB, fun k hk => ?_⟩
  have e : (⟨w.heap.size, 0, none⟩ : Addr).add k = ⟨w.heap.size, k, none⟩ := by unfold Addr.add; split <;> simp_all
  rw [e]
  unfold World.cell?
  simp only [heap_alloc_new]
  simp [Lib.byteCells, List.getElem?_eq_getElem hk]

set_option maxHeartbeats 4000000 in
set_option maxRecDepth 100000 in
theorem alive_any (w : World) : Calls Try.prog 10 #[] w fun e w' => e = .returned (.bool true) ∧ Below w.heap.size w w' := by
  obtain ⟨s9, hs9⟩ : ∃ s9 : ByteArray, (⟨#[56, 53, 100, 54, 98, 101, 55, 56, 53, 55, 53, 53, 54, 100, 51, 51, 55, 102, 52, 52, 53, 50, 102, 101, 52, 50, 100, 53, 48, 54, 97, 56, 48, 49, 48, 51, 56, 48, 56, 97, 102, 98, 48, 100, 98, 50, 102, 100, 52, 97, 98, 102, 102, 54, 97, 102, 52, 49, 52, 57, 102, 53, 49, 98]⟩ : ByteArray) = s9 := ⟨_, rfl⟩
  have hu := RefUnhexW.unhex_ref s9 w (by rw [← hs9]; decide)
  rw [show TextM.unhex s9.data.toList = (0, key9) by rw [← hs9]; decide +kernel] at hu
  rw [← hs9] at hu
  have HU := Lib.hid hu
  clear hu hs9
  go_enter Try.func10, Try.ntmps10
  go_wp2_with fail
  refine HU.out.mono ?_
  clear HU
  rintro e w1 ⟨v, rfl, r1, b1⟩
  obtain ⟨A1, c1, rfl, s1, hc1⟩ := r1.form2
  have X1 := Lib.hid b1
  have S1 := Lib.hid s1
  rw [show key9.length = 32 from rfl]
  clear r1 b1 s1
  have kc := fun (w : World) (C : Array Value) (n c : Nat) => Lib.run_convert_bytes_const (P := Try.prog) w 22 5 C n c Try.underlying22 Try.underlying5
  have hs2 := litsO w1 text9 #[.int .u8 67, .int .u8 114, .int .u8 121, .int .u8 112, .int .u8 116, .int .u8 111, .int .u8 103, .int .u8 114, .int .u8 97, .int .u8 112, .int .u8 104, .int .u8 105, .int .u8 99, .int .u8 32, .int .u8 70, .int .u8 111, .int .u8 114, .int .u8 117, .int .u8 109, .int .u8 32, .int .u8 82, .int .u8 101, .int .u8 115, .int .u8 101, .int .u8 97, .int .u8 114, .int .u8 99, .int .u8 104, .int .u8 32, .int .u8 71, .int .u8 114, .int .u8 111, .int .u8 117, .int .u8 112] rfl (34, 35) (w1.heap.size + 1) (Nat.lt_succ_self _)
  have b2 := (Below.refl w1.heap.size w1).alloc (Nat.le_refl _) (.cells #[.int .u8 67, .int .u8 114, .int .u8 121, .int .u8 112, .int .u8 116, .int .u8 111, .int .u8 103, .int .u8 114, .int .u8 97, .int .u8 112, .int .u8 104, .int .u8 105, .int .u8 99, .int .u8 32, .int .u8 70, .int .u8 111, .int .u8 114, .int .u8 117, .int .u8 109, .int .u8 32, .int .u8 82, .int .u8 101, .int .u8 115, .int .u8 101, .int .u8 97, .int .u8 114, .int .u8 99, .int .u8 104, .int .u8 32, .int .u8 71, .int .u8 114, .int .u8 111, .int .u8 117, .int .u8 112] 5 (34, 35))
  have hkc := kc w1 #[.int .u8 67, .int .u8 114, .int .u8 121, .int .u8 112, .int .u8 116, .int .u8 111, .int .u8 103, .int .u8 114, .int .u8 97, .int .u8 112, .int .u8 104, .int .u8 105, .int .u8 99, .int .u8 32, .int .u8 70, .int .u8 111, .int .u8 114, .int .u8 117, .int .u8 109, .int .u8 32, .int .u8 82, .int .u8 101, .int .u8 115, .int .u8 101, .int .u8 97, .int .u8 114, .int .u8 99, .int .u8 104, .int .u8 32, .int .u8 71, .int .u8 114, .int .u8 111, .int .u8 117, .int .u8 112] 34 34
  obtain ⟨w2, hw2⟩ : ∃ w2, w1.alloc (.cells #[.int .u8 67, .int .u8 114, .int .u8 121, .int .u8 112, .int .u8 116, .int .u8 111, .int .u8 103, .int .u8 114, .int .u8 97, .int .u8 112, .int .u8 104, .int .u8 105, .int .u8 99, .int .u8 32, .int .u8 70, .int .u8 111, .int .u8 114, .int .u8 117, .int .u8 109, .int .u8 32, .int .u8 82, .int .u8 101, .int .u8 115, .int .u8 101, .int .u8 97, .int .u8 114, .int .u8 99, .int .u8 104, .int .u8 32, .int .u8 71, .int .u8 114, .int .u8 111, .int .u8 117, .int .u8 112] 5 (34, 35)) = w2 := ⟨_, rfl⟩
  have hz2 : w2.heap.size = w1.heap.size + 1 := by rw [← hw2]; simp
  have hkc2 : (convert 22 22 (.slice (some ⟨w1.heap.size, 0, none⟩) 34 34)).run Try.prog (w1.alloc (.cells #[.int .u8 67, .int .u8 114, .int .u8 121, .int .u8 112, .int .u8 116, .int .u8 111, .int .u8 103, .int .u8 114, .int .u8 97, .int .u8 112, .int .u8 104, .int .u8 105, .int .u8 99, .int .u8 32, .int .u8 70, .int .u8 111, .int .u8 114, .int .u8 117, .int .u8 109, .int .u8 32, .int .u8 82, .int .u8 101, .int .u8 115, .int .u8 101, .int .u8 97, .int .u8 114, .int .u8 99, .int .u8 104, .int .u8 32, .int .u8 71, .int .u8 114, .int .u8 111, .int .u8 117, .int .u8 112] 5)) = .ok (.slice (some ⟨w1.heap.size, 0, none⟩) 34 34) w2 := by rw [← hw2]; exact hkc
  rw [hw2] at hs2 b2
  rw [← hz2] at hs2
  have X2 := Lib.hid (X1.out.trans (b2.mono X1.out.size))
  have hsu := osum_any A1 key9 c1 (some ⟨w1.heap.size, 0, none⟩) text9 34 w2 ((S1.out.below b2).more b2.size) hc1 hs2 (by decide) (by decide) (by decide)
  rw [show sumO key9 text9 = (tag9, 0) by unfold sumO; rw [if_pos (show key9.length = 32 from rfl)]; exact congrArg (fun x => (x, (0 : Int))) tag_rfc, show key9.length = 32 from rfl, show text9.length = 34 from rfl] at hsu
  have HSu := Lib.hid hsu
  clear kc hkc hs2 b2 hw2 hz2 hsu
  obtain ⟨T, hT⟩ : ∃ T, tag9 = T := ⟨_, rfl⟩
  have HTl := Lib.hid (show T.length = 16 by rw [← hT]; rfl)
  have N16 := Lib.hid (show (Lib.byteCells T).length = 16 by rw [← hT]; rfl)
  have HTh := Lib.hid (show (⟨(TextM.hex T).toArray⟩ : ByteArray) = ⟨#[97, 56, 48, 54, 49, 100, 99, 49, 51, 48, 53, 49, 51, 54, 99, 54, 99, 50, 50, 98, 56, 98, 97, 102, 48, 99, 48, 49, 50, 55, 97, 57]⟩ by rw [← hT]; decide +kernel)
  rw [hT] at HSu
  clear hT
  go_wp2_with fail
  refine HSu.out.mono ?_
  clear HSu
  clear hkc2
  rintro e w3 ⟨rfl, b3⟩
  have X3 := Lib.hid (X2.out.trans (b3.mono X2.out.size))
  clear b3
  go_upto_region 3 with (refine Arr.storeL (Arr.new w3 _ _) rfl 23 (.tmp 3) (.tmp 14) rfl rfl (Lib.byteCells T) rfl a16_size (by rfl) N16.out (bytes_one _) ?_)
  generalize hw4 : World.setRow _ _ _ = w4
  obtain ⟨p3, b4, -⟩ := filled hw4
  have X4 := Lib.hid (X3.out.trans (b4.mono X3.out.size))
  have P3 := Lib.hid p3
  obtain ⟨g3, hg3⟩ : ∃ g, w3.heap.size = g := ⟨_, rfl⟩
  rw [hg3] at P3 ⊢
  clear b4 hw4 p3 hg3
  have hh := RefHexW.hex_ref (some ⟨g3, 0, none⟩) T 16 w4 (arr_bs P3.out P3.out.lt) (by rw [HTl.out]; decide)
  rw [HTl.out, HTh.out] at hh
  have HH := Lib.hid hh
  clear hh
  go_wp2_with fail
  refine HH.out.mono ?_
  clear HH
  rintro e w5 ⟨rfl, b5⟩
  have x5 := X4.out.trans (b5.mono X4.out.size)
  go_wp2
  go_ret
  exact ⟨rfl, x5⟩
end Go.Proofs.Ytooaaacingaapaa.OneAliveW
