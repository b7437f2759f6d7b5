/-
  ticketwardkeep.alive10 returns true. Conditions: none.
-/
import Derived.Test.YtohpgfefdlccmaaSealFace
import Derived.Test.YtohpgfefdlccmaaKc
import Derived.Test.YtohpgfefdlccmaaKd
import Derived.WalkKit
import Derived.BigCall
import Derived.Lib.Hide
import Derived.Outline
import Derived.Deep.DeepMust
import Derived.RegionTactic
import Derived.Deep.QuietTactic
import Derived.Deep.DeepCutAuto
import Derived.BigQuiet
import Derived.Lib.SlBytesConst
namespace Go.Proofs.Ytohpgfefdlccmaa.SealAliveW
open Go.RowKit BytesW ArrW ArrG SealM SealP SealFaceW

/-- A row of bytes that has just been laid, whatever its mark. -/
theorem lits (w : World) (l : List UInt8) (cs : Array Value) (hcs : cs = (Lib.byteCells l).toArray) (fz : Nat × Nat) (B : Nat) (hB : w.heap.size < B) : Bs (w.alloc (.cells cs 5 fz)) B (some ⟨w.heap.size, 0, none⟩) l := by
  subst hcs
  intro _
  refine ⟨_, rfl, hB, fun k hk => ?_⟩
  have e : (⟨w.heap.size, 0, none⟩ : Addr).add k = ⟨w.heap.size, k, none⟩ := by unfold Addr.add; split <;> simp_all
  rw [e]
  unfold World.cell?
  simp only [heap_alloc_new]
  simp [Lib.byteCells, List.getElem?_eq_getElem hk]
theorem madeB (n : Nat) : madeCells #[.int .u8 0] n = (Lib.byteCells (List.replicate n 0)).toArray := by
  apply Array.toList_inj.1
  rw [toList_madeCells_one]
  simp [Lib.byteCells]
/-- A constant's bytes, as the walk lays them. -/
theorem laidConst (w : World) (l : List UInt8) (n : Nat) (cs : Array Value) (hcs : cs = (Lib.byteCells l).toArray) : ∃ w', (convert 22 22 (.slice (some ⟨w.heap.size, 0, none⟩) n n)).run Try.prog (w.alloc (.cells cs 5)) = .ok (.slice (some ⟨w.heap.size, 0, none⟩) n n) w' ∧ Bs w' w'.heap.size (some ⟨w.heap.size, 0, none⟩) l ∧ Below w.heap.size w w' := by
  refine ⟨_, Lib.run_convert_bytes_const (P := Try.prog) w 22 5 cs n n Try.underlying22 Try.underlying5, lits w l cs hcs _ _ (by simp), (Below.refl w.heap.size w).alloc (Nat.le_refl _) _⟩

theorem arr_bs {w : World} {g B : Nat} {t : TypeId} {D : List UInt8} (h : Arr w g t (Lib.byteCells D)) (hB : g < B) : Bs w B (some ⟨g, 0, none⟩) D := by
  intro _
  refine ⟨_, rfl, hB, fun k hk => ?_⟩
  rw [show (⟨g, 0, none⟩ : Addr).add k = ⟨g, k, none⟩ from by by_cases h0 : k = 0 <;> simp [Addr.add, h0], h.cell]
  unfold Lib.byteCells
  rw [List.getElem?_map, List.getElem?_eq_getElem hk]
  rfl
set_option maxHeartbeats 4000000 in
set_option maxRecDepth 100000 in
theorem alive_any (w : World) : Calls Try.prog 11 #[] w fun e w' => e = .returned (.bool true) ∧ Below w.heap.size w w' := by
  obtain ⟨K, hK0⟩ : ∃ K : List UInt8, List.replicate 32 0 = K := ⟨_, rfl⟩
  obtain ⟨N, hN0⟩ : ∃ N : List UInt8, List.replicate 12 0 = N := ⟨_, rfl⟩
  have HKl := Lib.hid (show K.length = 32 by rw [← hK0]; rfl)
  have HNl := Lib.hid (show N.length = 12 by rw [← hN0]; rfl)
  have hmk : ∀ V : World, (Instr.makeSlice 22 (.int .i64 32) (.int .i64 32)).run Try.prog V = .ok (.slice (some ⟨V.heap.size, 0, none⟩) 32 32) (V.alloc (.cells (Lib.byteCells K).toArray 5)) := fun V => by
    have h := makeN 32 (by omega) V
    rw [madeB, hK0] at h
    exact h
  have hmn : ∀ V : World, (Instr.makeSlice 22 (.int .i64 12) (.int .i64 12)).run Try.prog V = .ok (.slice (some ⟨V.heap.size, 0, none⟩) 12 12) (V.alloc (.cells (Lib.byteCells N).toArray 5)) := fun V => by
    have h := makeN 12 (by omega) V
    rw [madeB, hN0] at h
    exact h
  have hw0 : wrongM K N [120] 3 = 0 := wrong_of HKl.out HNl.out (by decide) (by decide)
  have HW0 := Lib.hid hw0
  have HW1 := Lib.hid (wrong_of (extra := []) (n := -1) HKl.out HNl.out (by decide) (by decide))
  clear hK0 hN0 hw0
  go_enter Try.func11, Try.ntmps11
  go_upto_region 1 with (fail)
  refine wp_region_tree (Sch.graft (.fork 0 (.read 2 (.step 1 (.read 3 .done))) 1 (.step 0 (.read 2 (.read 3 .done)))) .done) (fun W => ∃ x : Ab w, W = x.val) (by kernel_rfl) (by kernel_rfl) (by decide) (fun _ _ d _ _ h => by cases d <;> exact h) (Cl.of (Below.refl _ _).drew) ?_
  have x0 := (Below.refl w.heap.size w).drew
  have hab := ab w
  obtain ⟨V0, hV0⟩ : ∃ x, w.drew = x := ⟨_, rfl⟩
  rw [hV0] at x0 ⊢
  clear hV0
  refine wp_graft (R := fun a V => ∃ g1 g2 : Nat, a = { tmps := #[.bool false, .slice (some ⟨g1, 0, none⟩) 32 32, .slice (some ⟨g2, 0, none⟩) 12 12, undef, undef, undef, undef, undef, undef, .slice (some ⟨g1, 0, none⟩) 32 32, .slice (some ⟨g2, 0, none⟩) 12 12, undef, undef, undef, undef, undef, undef, undef, undef, undef, undef, undef, undef, undef, undef, undef, undef, undef, undef, undef, undef, undef, undef, undef, undef, undef, undef, undef, undef, undef, undef, undef, undef, undef, undef, undef, undef, undef, undef, undef, undef, undef, undef, undef, undef, undef], defers := [] } ∧ Arr V g1 5 (Lib.byteCells K) ∧ Arr V g2 5 (Lib.byteCells N) ∧ Below w.heap.size w V) ?tail _ _ _ ?main
  case main =>
    refine tree_fork rfl rfl (Cl.of x0) (fun Kk hK => ?_) (fun Kk hK => ?_)
    · go_simp
      generalize hV1 : World.alloc _ _ = V1
      obtain ⟨q1, b1, -⟩ := start1 hV1
      have x1 := x0.trans (b1.mono x0.size)
      refine hK _ _ ⟨Cl.of x1, ?_⟩
      clear hK Kk hV1
      refine tree_read rfl (fun Kk hK => ?_); go_simp; refine hK _ ?_; clear hK Kk
      refine tree_step rfl (Cl.of x1) (fun Kk hK => ?_)
      go_simp
      generalize hV2 : World.alloc _ _ = V2
      obtain ⟨q2, b2, -⟩ := start1 hV2
      have x2 := x1.trans (b2.mono x1.size)
      refine hK _ _ ⟨Cl.of x2, ?_⟩
      clear hK Kk hV2
      refine tree_read rfl (fun Kk hK => ?_); go_simp; refine hK _ ?_; clear hK Kk
      refine tree_done ?_
      exact ⟨_, _, rfl, Arr.below (by simpa using q1) b2 q1.lt, by simpa using q2, x2⟩
    · go_simp
      generalize hV1 : World.alloc _ _ = V1
      obtain ⟨q1, b1, -⟩ := start1 hV1
      have x1 := x0.trans (b1.mono x0.size)
      refine hK _ _ ⟨Cl.of x1, ?_⟩
      clear hK Kk hV1
      refine tree_step rfl (Cl.of x1) (fun Kk hK => ?_)
      go_simp
      generalize hV2 : World.alloc _ _ = V2
      obtain ⟨q2, b2, -⟩ := start1 hV2
      have x2 := x1.trans (b2.mono x1.size)
      refine hK _ _ ⟨Cl.of x2, ?_⟩
      clear hK Kk hV2
      iterate 2 (refine tree_read rfl (fun Kk hK => ?_); go_simp; refine hK _ ?_; clear hK Kk)
      refine tree_done ?_
      exact ⟨_, _, rfl, by simpa using q2, Arr.below (by simpa using q1) b2 q1.lt, x2⟩
  case tail =>
    rintro a V ⟨g1, g2, rfl, p1, p2, hb⟩
    refine tree_done ?_
    have X0 := Lib.hid hb
    have P1 := Lib.hid p1
    have P2 := Lib.hid p2
    clear hb p1 p2 x0 hab V0 hmk hmn
    obtain ⟨w1, hk1, s1, b1⟩ := laidConst V [120] 1 #[.int .u8 120] rfl
    have hk1' : (convert 22 22 (.slice (some ⟨V.heap.size, 0, none⟩) 1 1)).run Try.prog (V.alloc (.cells #[.int .u8 120] 5)) = .ok (.slice (some ⟨V.heap.size, 0, none⟩) 1 1) w1 := hk1
    obtain ⟨w2, hk2, s2, b2⟩ := laidConst w1 [97, 98, 99] 3 #[.int .u8 97, .int .u8 98, .int .u8 99] rfl
    have X2 := Lib.hid ((X0.out.trans (b1.mono X0.out.size)).trans (b2.mono (Nat.le_trans X0.out.size b1.size)))
    have P12 := Lib.hid ((P1.out.below b1 P1.out.lt).below b2 (Nat.lt_of_lt_of_le P1.out.lt b1.size))
    have P22 := Lib.hid ((P2.out.below b1 P2.out.lt).below b2 (Nat.lt_of_lt_of_le P2.out.lt b1.size))
    have S12 := Lib.hid ((s1.below b2).more b2.size)
    have S2 := Lib.hid s2
    have SK := Lib.hid (arr_bs P12.out P12.out.lt)
    have SN := Lib.hid (arr_bs P22.out P22.out.lt)
    have hse := oseal_any (some ⟨g1, 0, none⟩) K 32 (some ⟨g2, 0, none⟩) N 12 (some ⟨V.heap.size, 0, none⟩) [120] 1 (some ⟨w1.heap.size, 0, none⟩) [97, 98, 99] 3 w2 SK.out (by rw [HKl.out]; exact Nat.le_refl _) (by rw [HKl.out]; decide) SN.out (by rw [HNl.out]; exact Nat.le_refl _) (by rw [HNl.out]; decide) S12.out (by decide) (by decide) S2.out (by decide) (by decide)
    rw [HKl.out, HNl.out] at hse
    have hsv : sealM K N [120] [97, 98, 99] = (sealed K N [120] [97, 98, 99], 0) := by unfold sealM; rw [show (([97, 98, 99] : List UInt8).length : Int) = 3 from rfl, if_pos HW0.out]
    rw [hsv] at hse
    have HSe := Lib.hid hse
    have HSl := Lib.hid (sealed_len K N [120] [97, 98, 99])
    have HOp := Lib.hid (open_sealed K N [120] [97, 98, 99] HW0.out)
    obtain ⟨C, hC⟩ : ∃ C, sealed K N [120] [97, 98, 99] = C := ⟨_, rfl⟩
    rw [hC] at HSe HSl HOp
    clear b1 s1 b2 s2 hk1 hse hsv hC P1 P2 X0
    go_wp2_with fail
    refine HSe.out.mono ?_
    clear HSe hk1' hk2
    rintro e w3 ⟨v3, rfl, r3, b3⟩
    obtain ⟨A3, d3, rfl, s3, hd3⟩ := r3.form2
    have hl19 : C.length = 19 := HSl.out
    simp only at s3 hd3 ⊢
    rw [hl19] at hd3 ⊢
    have X3 := Lib.hid (X2.out.trans (b3.mono X2.out.size))
    have SK3 := Lib.hid ((SK.out.below b3).more b3.size)
    have SN3 := Lib.hid ((SN.out.below b3).more b3.size)
    have S3 := Lib.hid s3
    obtain ⟨ad3, rfl⟩ : ∃ ad, A3 = some ad := by
      obtain ⟨ad, h, _, _⟩ := S3.out.at_ (k := 0) (by omega)
      exact ⟨ad, h⟩
    obtain ⟨w4, hk4, s4, b4⟩ := laidConst w3 [120] 1 #[.int .u8 120] rfl
    have hk4' : (convert 22 22 (.slice (some ⟨w3.heap.size, 0, none⟩) 1 1)).run Try.prog (w3.alloc (.cells #[.int .u8 120] 5)) = .ok (.slice (some ⟨w3.heap.size, 0, none⟩) 1 1) w4 := hk4
    have X4 := Lib.hid (X3.out.trans (b4.mono X3.out.size))
    have SK4 := Lib.hid ((SK3.out.below b4).more b4.size)
    have SN4 := Lib.hid ((SN3.out.below b4).more b4.size)
    have S34 := Lib.hid ((S3.out.below b4).more b4.size)
    have hop := oopen_any (some ⟨g1, 0, none⟩) K 32 (some ⟨g2, 0, none⟩) N 12 (some ⟨w3.heap.size, 0, none⟩) [120] 1 (some ad3) C d3 w4 SK4.out (by rw [HKl.out]; exact Nat.le_refl _) (by rw [HKl.out]; decide) SN4.out (by rw [HNl.out]; exact Nat.le_refl _) (by rw [HNl.out]; decide) s4 (by decide) (by decide) S34.out (by omega) (by omega)
    rw [HKl.out, HNl.out, hl19, HOp.out] at hop
    have HOp2 := Lib.hid hop
    have HCl := Lib.hid hl19
    have hd15 : 15 ≤ d3 := by omega
    have HSt := Lib.hid (S34.out.take 15)
    clear hop r3 s3 b3 s4 b4 hk4 hl19 S3 SK SN SK3 SN3 P12 P22 S12 S2 X2 hd3
    go_wp2_with fail
    refine HOp2.out.mono ?_
    clear HOp2 hk4'
    rintro e w5 ⟨v5, rfl, r5, b5⟩
    obtain ⟨A5, d5, rfl, s5, hd5⟩ := r5.form2
    simp only at s5 ⊢
    have X5 := Lib.hid (X4.out.trans (b5.mono X4.out.size))
    have htl : (C.take 15).length = 15 := by rw [List.length_take, HCl.out]; decide
    have hop3 := oopen_any (some ⟨g1, 0, none⟩) K 32 (some ⟨g2, 0, none⟩) N 12 none [] 0 (some ad3) (C.take 15) d3 w5 ((SK4.out.below b5).more b5.size) (by rw [HKl.out]; exact Nat.le_refl _) (by rw [HKl.out]; decide) ((SN4.out.below b5).more b5.size) (by rw [HNl.out]; exact Nat.le_refl _) (by rw [HNl.out]; decide) (Bs.nil _ _ _) (by decide) (by decide) ((HSt.out.below b5).more b5.size) (by omega) (by omega)
    rw [show openM K N [] (C.take 15) = ([], 8) by unfold openM; rw [htl, show ((15 : Nat) : Int) - 16 = -1 from rfl, if_pos HW1.out, if_pos (by decide)], HKl.out, HNl.out, htl] at hop3
    have HOp3 := Lib.hid hop3
    have S5 := Lib.hid s5
    clear hop3 htl r5 s5 b5 hd5
    go_wp2_with fail
    refine HOp3.out.mono ?_
    clear HOp3
    rintro e w6 ⟨v6, rfl, -, b6⟩
    have X6 := Lib.hid (X5.out.trans (b6.mono X5.out.size))
    have cv := ((S5.out.below b6).more b6.size).conv d5
    have cv' : (convert 22 9 (.slice A5 3 d5)).run Try.prog w6 = .ok (.string ⟨#[97, 98, 99]⟩) w6 := cv
    clear b6 cv
    go_wp2
    go_ret
    exact ⟨rfl, X6.out⟩
end Go.Proofs.Ytohpgfefdlccmaa.SealAliveW
