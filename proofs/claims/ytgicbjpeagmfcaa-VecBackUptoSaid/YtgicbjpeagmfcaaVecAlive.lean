/-
  ticketwardkeep.alive2 returns true, in every world. Conditions: none.
-/
import Derived.Test.YtgicbjpeagmfcaaVecNest
import Derived.Test.YtgicbjpeagmfcaaSameRows
import Derived.Lib.SlBytesConst
namespace Go.Proofs.Ytgicbjpeagmfcaa.VecAliveW
open Go.RowKit BytesW RowsW VecFnsW VecNestW

theorem p1 : VecM.put 2 [97, 98, 99] = (0, [0, 3, 97, 98, 99]) := by decide +kernel
theorem p2 : VecM.take 1 [1, 97, 98] = (0, [97], [98]) := by decide +kernel
theorem p3 : VecM.nest 1 1 [[7], []] = (0, [3, 1, 7, 0]) := by decide +kernel

/-- A row of bytes that has just been laid, whatever its mark. -/
theorem lits (w : World) (l : List UInt8) (cs : Array Value) (hcs : cs = (Lib.byteCells l).toArray) (fz : Nat × Nat) (B : Nat) (hB : w.heap.size < B) : Bs (w.alloc (.cells cs 5 fz)) B (some ⟨w.heap.size, 0, none⟩) l := by
  subst hcs
  intro _
  refine ⟨_, rfl, hB, fun k hk => ?_⟩
  have e : (⟨w.heap.size, 0, none⟩ : Addr).add k = ⟨w.heap.size, k, none⟩ := by unfold Addr.add; split <;> simp_all
  rw [e]
  unfold World.cell?
  simp only [heap_alloc_new]
  simp [Lib.byteCells, List.getElem?_eq_getElem hk]

set_option maxHeartbeats 4000000 in
set_option maxRecDepth 100000 in
theorem alive_any (w : World) : Calls Try.prog 21 #[] w fun e w' => e = .returned (.bool true) ∧ Below w.heap.size w w' := by
  have kc := fun (w : World) (C : Array Value) (n c : Nat) => Lib.run_convert_bytes_const (P := Try.prog) w 22 5 C n c Try.underlying22 Try.underlying5
  go_enter Try.func21, Try.ntmps21
  go_wp2_with fail
  refine (put_any 2 [97, 98, 99] (some ⟨w.heap.size, 0, none⟩) 3 _ (lits w [97, 98, 99] #[.int .u8 97, .int .u8 98, .int .u8 99] rfl (3, 4) _ (by simp)) (by decide)).mono ?_
  rintro e w1 ⟨v1, rfl, r1, b1⟩
  rw [p1] at r1 ⊢
  go_wp2_with fail
  refine (take_any 1 [1, 97, 98] (some ⟨w1.heap.size, 0, none⟩) 3 _ (lits w1 [1, 97, 98] #[.int .u8 1, .int .u8 97, .int .u8 98] rfl (3, 4) _ (by simp)) (by decide) (by decide)).mono ?_
  rintro e w2 ⟨v2, v3, rfl, r2, r3, b2⟩
  rw [p2] at r2 r3 ⊢
  simp only [World.size_alloc] at b1 b2 r1 r2 r3
  have hb1 : Below w.heap.size w w1 := ((Below.refl _ w).alloc (Nat.le_refl _) _).trans (b1.mono (by omega))
  have hb2 : Below w1.heap.size w1 w2 := ((Below.refl _ w1).alloc (Nat.le_refl _) _).trans (b2.mono (by omega))
  have hbb := hb1.trans (hb2.mono hb1.size)
  have r1' := r1.below hb2
  obtain ⟨A1, k1, rfl, s1⟩ := r1'.form
  obtain ⟨A2, k2, rfl, s2⟩ := r2.form
  obtain ⟨A3, k3, rfl, s3⟩ := r3.form
  clear r1 r2 r3 r1' b1 b2 hb1 hb2
  have hm := Ms.laid2 (w2.alloc (.cells #[.int .u8 7] 5)) (some ⟨w2.heap.size, 0, none⟩) none [7] [] 1 0 1 0 rfl rfl (lits w2 [7] #[.int .u8 7] rfl (0, 0) _ (by simp)) (Bs.nil _ _ _) (by decide) (by decide) (0, 0) (w2.heap.size + 1 + 1) (by simp)
  simp only [World.size_alloc] at hm
  have HM := Lib.hid hm
  clear hm
  go_wp2_with fail
  refine (nest_any 1 1 [[7], []] (some ⟨w2.heap.size + 1, 0, none⟩) 2 _ (by simpa using HM.out) (by decide)).mono ?_
  rintro e w3 ⟨v4, rfl, r4, b3⟩
  rw [p3] at r4 ⊢
  simp only [World.size_alloc] at b3 r4
  have hb3 : Below w2.heap.size w2 w3 := (((Below.refl _ w2).alloc (Nat.le_refl _) _).alloc (by simp) _).trans (b3.mono (by omega))
  have hbb3 := hbb.trans (hb3.mono hbb.size)
  have t1 := s1.below hb3
  have t2 := s2.below hb3
  have t3 := s3.below hb3
  obtain ⟨A4, k4, rfl, t4⟩ := r4.form
  have cv1 : (convert 22 9 (.slice A1 5 k1)).run Try.prog w3 = .ok (.string ⟨#[0, 3, 97, 98, 99]⟩) w3 := t1.conv k1
  have cv2 : (convert 22 9 (.slice A2 1 k2)).run Try.prog w3 = .ok (.string ⟨#[97]⟩) w3 := t2.conv k2
  have cv3 : (convert 22 9 (.slice A3 1 k3)).run Try.prog w3 = .ok (.string ⟨#[98]⟩) w3 := t3.conv k3
  have cv4 : (convert 22 9 (.slice A4 4 k4)).run Try.prog w3 = .ok (.string ⟨#[3, 1, 7, 0]⟩) w3 := t4.conv k4
  clear s1 s2 s3 t1 t2 t3 t4 r4 b3 hb3 hbb HM
  go_wp2
  go_ret
  exact ⟨rfl, hbb3⟩
end Go.Proofs.Ytgicbjpeagmfcaa.VecAliveW
