/-
  ticketwardkeep.alive3 returns true. Conditions: the table of math/bits.
-/
import Derived.Test.YtgmkbmfeaneaoaaDoorVintPut
import Derived.Test.YtgmkbmfeaneaoaaDoorVintTake
namespace Go.Proofs.YtgmkbmfeaneaoaaDoor.VintAliveW
open Go.RowKit BytesW VintM VintLongW VintTakeW VintPutW

theorem p1 : put 15293 = (0, [123, 189]) := by decide +kernel
theorem p2 : take [157, 127, 62, 125] = (0, 494878333, 4) := by decide +kernel
theorem p3 : strict [64, 37] = (1, 0, 0) := by decide +kernel

/-- A row of bytes that has just been laid, whatever its mark. -/
theorem lits (w : World) (l : List UInt8) (cs : Array Value) (hcs : cs = (Lib.byteCells l).toArray) (fz : Nat × Nat) (B : Nat) (hB : w.heap.size < B) : Bs (w.alloc (.cells cs 5 fz)) B (some ⟨w.heap.size, 0, none⟩) l := by
  subst hcs
  intro _
  refine ⟨_, rfl, hB, fun k hk => ?_⟩
  have e : (⟨w.heap.size, 0, none⟩ : Addr).add k = ⟨w.heap.size, k, none⟩ := by unfold Addr.add; split <;> simp_all
  rw [e]
  unfold World.cell?
  simp only [heap_alloc_new]
  simp [Lib.byteCells, List.getElem?_eq_getElem hk]

set_option maxHeartbeats 4000000 in
set_option maxRecDepth 100000 in
theorem alive_any (w : World) (hT : Tab w) : Calls Tryd.prog 16 #[] w fun e w' => e = .returned (.bool true) ∧ Below w.heap.size w w' := by
  have hp := Lib.hid (put_any 15293 w hT)
  have ht := fun w : World => take_any [157, 127, 62, 125] (some ⟨w.heap.size, 0, none⟩) 4 _ _ (lits w [157, 127, 62, 125] #[.int .u8 157, .int .u8 127, .int .u8 62, .int .u8 125] rfl (0, 0) (w.heap.size + 1) (by omega)) (by decide)
  have hs := fun w : World => strict_any [64, 37] (some ⟨w.heap.size, 0, none⟩) 2 _ _ (lits w [64, 37] #[.int .u8 64, .int .u8 37] rfl (0, 0) (w.heap.size + 1) (by omega)) (by decide)
  unfold ThPost at ht hs
  unfold ByPost at hp
  rw [p1] at hp
  rw [p2] at ht
  rw [p3] at hs
  simp only [show ((494878333 : Nat) : Int) = 494878333 from rfl, show ((4 : Nat) : Int) = 4 from rfl, show ((0 : Nat) : Int) = 0 from rfl, show ((1 : Nat) : Int) = 1 from rfl, List.length_cons, List.length_nil, Nat.zero_add, Nat.reduceAdd] at ht hs hp
  have HT := Lib.hid ht
  have HS := Lib.hid hs
  clear ht hs hT
  go_enter Tryd.func16, Tryd.ntmps16
  go_wp2_with fail
  refine hp.out.mono ?_
  clear hp
  rintro e w1 ⟨v1, rfl, r1, b1⟩
  go_wp2_with fail
  refine (HT.out w1).mono ?_
  clear HT
  rintro e w2 ⟨rfl, rfl⟩
  have hs1 := HS.out (w1.alloc (.cells #[.int .u8 157, .int .u8 127, .int .u8 62, .int .u8 125] 5))
  simp only [World.size_alloc] at hs1
  have HS1 := Lib.hid hs1
  clear hs1
  go_wp2_with fail
  refine HS1.out.mono ?_
  clear HS
  rintro e w2 ⟨rfl, rfl⟩
  have b2 := (b1.alloc b1.size (.cells #[.int .u8 157, .int .u8 127, .int .u8 62, .int .u8 125] 5)).alloc (Nat.le_trans b1.size (by simp)) (.cells #[.int .u8 64, .int .u8 37] 5)
  obtain ⟨A1, k1, rfl, s1, _⟩ := ((r1.alloc (.cells #[.int .u8 157, .int .u8 127, .int .u8 62, .int .u8 125] 5)).alloc (.cells #[.int .u8 64, .int .u8 37] 5)).form2
  have cv1 := s1.conv k1
  simp only [List.length_cons, List.length_nil, Nat.zero_add, Nat.reduceAdd] at cv1
  clear r1 s1 b1
  go_wp2
  go_ret
  exact ⟨rfl, b2⟩
end Go.Proofs.YtgmkbmfeaneaoaaDoor.VintAliveW
