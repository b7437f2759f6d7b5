/-
  onetime.Sum, Check: what they hand back. Conditions: lengths that fit.
-/
import Derived.Test.YtohpgfefdlccmaaOneTag
import Derived.Test.YtohpgfefdlccmaaTextSameW
namespace Go.Proofs.Ytohpgfefdlccmaa.OneFaceW
open Go.RowKit BytesW ArrW ArrG ArrL OneM OneN OneA16 OneWW

def noughts : List UInt8 := List.replicate 16 0
/-- The document's words. -/
def sumO (key b : List UInt8) : List UInt8 × Int := if key.length = 32 then (tagS key b, 0) else (List.replicate 16 0, 1)
def checkO (key b s : List UInt8) : Bool × Int := if ¬ key.length = 32 then (false, 1) else if ¬ s.length = 16 then (false, 8) else (decide (tagS key b = s), 0)

theorem zero16 (w : World) : (Instr.build 33 #[]).run Try.prog w = .ok (.agg (Lib.byteCells (List.replicate 16 0)).toArray) w := by kernel_rfl

set_option maxHeartbeats 4000000 in
set_option maxRecDepth 100000 in
theorem osum_any (A : Option Addr) (key : List UInt8) (c : Nat) (A' : Option Addr) (b : List UInt8) (c' : Nat) (w : World) (hA : Bs w w.heap.size A key) (hc : key.length ≤ c) (hB : Bs w w.heap.size A' b) (hc' : b.length ≤ c') (_hk : key.length ≤ 140737488351232) (hb : b.length ≤ 140737488351232) :
    Calls Try.prog 15 #[.slice A key.length c, .slice A' b.length c'] w fun e w' => e = .returned (.tuple #[.agg (Lib.byteCells (sumO key b).1).toArray, .int .i64 (sumO key b).2]) ∧ Below w.heap.size w w' := by
  have N16 := Lib.hid (show (Lib.byteCells (List.replicate 16 (0 : UInt8))).length = 16 from rfl)
  by_cases h32 : key.length = 32
  · rw [show sumO key b = (tagS key b, 0) by unfold sumO; rw [if_pos h32]]
    have HA := Lib.hid hA
    have HB := Lib.hid hB
    have HK := Lib.hid h32
    have hfo := fun w => formed_any A key c w
    rw [decide_eq_true h32] at hfo
    have HF := Lib.hid hfo
    have HTg := Lib.hid (fun (V : World) (hV : Below w.heap.size w V) => tag_any A key c A' b c' V ((HA.out.below hV).more hV.size) hc h32 ((HB.out.below hV).more hV.size) hc' hb)
    have N2 := Lib.hid (show (Lib.byteCells (tagS key b)).length = 16 by rw [Lib.byteCells_length, tagS_len])
    obtain ⟨T, hT⟩ : ∃ T, tagS key b = T := ⟨_, rfl⟩
    rw [hT] at HTg N2 ⊢
    rw [h32] at HF ⊢
    clear hA hB h32 hfo hT hc
    go_enter Try.func15, Try.ntmps15
    go_upto_region 1 with (fail)
    generalize hW : World.alloc _ _ = W
    obtain ⟨H0, hbw, hsz⟩ := start1 hW
    clear hW
    have A0 : Hid (Arr W w.heap.size 33 (Lib.byteCells (List.replicate 16 0))) := Lib.hid H0
    have HBw := Lib.hid hbw
    have HSz := Lib.hid hsz
    clear H0 hbw hsz
    go_wp2_with fail
    refine (HF.out W).mono ?_
    clear HF
    rintro e w1 ⟨rfl, rfl⟩
    go_wp2_with fail
    refine (HTg.out W HBw.out).mono ?_
    clear HTg
    rintro e w2 ⟨rfl, b2⟩
    have A02 := Lib.hid (A0.out.below b2 A0.out.lt)
    have HB2 := Lib.hid (HBw.out.trans (b2.mono HBw.out.size))
    have AF := Lib.hid (A02.out.row (Lib.byteCells T))
    have HBF := Lib.hid (below_row HB2.out (Nat.le_refl _) (Lib.byteCells T).toArray)
    clear b2
    go_wp2_with (show wpList _ _ _ (⟨_, Op.store _ _ _, _, _, _, _⟩ :: _) _ _; refine Arr.storeL A02.out rfl 33 (.tmp 4) (.tmp 12) rfl rfl (Lib.byteCells T) rfl a16_size N16.out N2.out (bytes_one _) ?_)
    refine bodyPost_ret (v := .tuple #[.agg (Lib.byteCells T).toArray, .int .i64 0]) (by exact AF.out.ret2 rfl _ rfl rfl a16 rfl a16_size N2.out) rfl ⟨rfl, HBF.out⟩
  · rw [show sumO key b = (List.replicate 16 0, 1) by unfold sumO; rw [if_neg h32]]
    have hfo := fun w => formed_any A key c w
    rw [decide_eq_false h32] at hfo
    have HF := Lib.hid hfo
    obtain ⟨Z, hZe⟩ : ∃ Z : List UInt8, List.replicate 16 0 = Z := ⟨_, rfl⟩
    have HBd := Lib.hid zero16
    have HZe := Lib.hid hZe
    rw [hZe] at N16 HBd ⊢
    clear hA hB h32 hfo hc hZe
    go_enter Try.func15, Try.ntmps15
    go_upto_region 1 with (fail)
    generalize hW : World.alloc _ _ = W
    obtain ⟨H0, hbw, hsz⟩ := start1 hW
    clear hW
    have A0 : Hid (Arr W w.heap.size 33 (Lib.byteCells Z)) := Lib.hid (by rw [← HZe.out]; exact H0)
    have HBw := Lib.hid hbw
    clear H0 hbw hsz
    go_wp2_with fail
    refine (HF.out W).mono ?_
    clear HF
    rintro e w1 ⟨rfl, rfl⟩
    have AF := Lib.hid (A0.out.row (Lib.byteCells Z))
    have HBF := Lib.hid (below_row HBw.out (Nat.le_refl _) (Lib.byteCells Z).toArray)
    go_wp2_with (first | (show wpList _ _ _ (⟨_, Op.build _ _, _, _, _, _⟩ :: _) _ _; refine buildL rfl rfl rfl (HBd.out _) ?_) | (show wpList _ _ _ (⟨_, Op.store _ _ _, _, _, _, _⟩ :: _) _ _; refine Arr.storeL A0.out rfl 33 (.tmp 4) (.tmp 9) rfl rfl (Lib.byteCells Z) rfl a16_size N16.out N16.out (bytes_one _) ?_))
    refine bodyPost_ret (v := .tuple #[.agg (Lib.byteCells Z).toArray, .int .i64 1]) (by exact AF.out.ret2 rfl _ rfl rfl a16 rfl a16_size N16.out) rfl ⟨rfl, HBF.out⟩

set_option maxHeartbeats 4000000 in
set_option maxRecDepth 100000 in
theorem ocheck_any (A : Option Addr) (key : List UInt8) (c : Nat) (A' : Option Addr) (b : List UInt8) (c' : Nat) (A2 : Option Addr) (s : List UInt8) (c2 : Nat) (w : World) (hA : Bs w w.heap.size A key) (hc : key.length ≤ c) (hB : Bs w w.heap.size A' b) (hc' : b.length ≤ c') (hC : Bs w w.heap.size A2 s) (_hc2 : s.length ≤ c2) (_hk : key.length ≤ 140737488351232) (hb : b.length ≤ 140737488351232) (_hs : s.length ≤ 140737488351232) :
    Calls Try.prog 20 #[.slice A key.length c, .slice A' b.length c', .slice A2 s.length c2] w fun e w' => e = .returned (.tuple #[.bool (checkO key b s).1, .int .i64 (checkO key b s).2]) ∧ Below w.heap.size w w' := by
  have hfo := formed_any A key c w
  by_cases h32 : key.length = 32
  · rw [decide_eq_true h32] at hfo
    have HF := Lib.hid hfo
    by_cases h16 : s.length = 16
    · rw [show checkO key b s = (decide (tagS key b = s), 0) by unfold checkO; rw [if_neg (by simp [h32]), if_neg (by simp [h16])]]
      have HC := Lib.hid hC
      have HTg := Lib.hid (tag_any A key c A' b c' w hA hc h32 hB hc' hb)
      have HTl := Lib.hid (tagS_len key b)
      have HS16 := Lib.hid h16
      have N2 := Lib.hid (show (Lib.byteCells (tagS key b)).length = 16 by rw [Lib.byteCells_length, tagS_len])
      obtain ⟨T, hT⟩ : ∃ T, tagS key b = T := ⟨_, rfl⟩
      rw [hT] at HTg HTl N2 ⊢
      rw [h32] at HF ⊢
      rw [h16]
      clear hA hB hC h32 hfo hT hc h16
      go_enter Try.func20, Try.ntmps20
      go_wp2_with fail
      refine HF.out.mono ?_
      clear HF
      rintro e w1 ⟨rfl, rfl⟩
      go_wp2_with fail
      refine HTg.out.mono ?_
      clear HTg
      rintro e w2 ⟨rfl, b2⟩
      have HB2 := Lib.hid b2
      clear b2
      go_upto_region 6 with (show wpList _ _ _ (⟨_, Op.store _ _ _, _, _, _, _⟩ :: _) _ _; refine Arr.storeL (Arr.new w2 _ _) rfl 33 (.tmp 8) (.tmp 17) rfl rfl (Lib.byteCells T) rfl a16_size (by rfl) N2.out (bytes_one _) ?_)
      generalize hw3 : World.setRow _ _ _ = w3
      obtain ⟨a3, b3, z3⟩ := filled hw3
      have HB3 := Lib.hid (HB2.out.trans (b3.mono HB2.out.size))
      obtain ⟨p, hp⟩ : ∃ p, w2.heap.size = p := ⟨_, rfl⟩
      rw [hp] at a3 ⊢
      have hsa := TextSameW.same_below (some ⟨p, 0, none⟩) A2 T s 16 c2 w3 _ _ (arr_bs a3 a3.lt) ((HC.out.below HB3.out).more HB3.out.size) (by rw [HTl.out]; decide)
      rw [HTl.out, HS16.out, show (T == s) = decide (T = s) by by_cases h : T = s <;> simp [h]] at hsa
      have HSa := Lib.hid hsa
      clear a3 b3 z3 hw3 hp hsa
      go_wp2_with fail
      refine HSa.out.mono ?_
      clear HSa
      rintro e w4 ⟨rfl, b4⟩
      have HB4 := Lib.hid (HB3.out.trans (b4.mono HB3.out.size))
      clear b4
      go_wp2
      go_ret2
      exact ⟨rfl, HB4.out⟩
    · rw [show checkO key b s = (false, 8) by unfold checkO; rw [if_neg (by simp [h32]), if_pos h16]]
      have ct : ((s.length : Int) != 16) = true := by simp; omega
      rw [h32] at HF ⊢
      clear hA hB hC h32 hfo hc h16
      go_enter Try.func20, Try.ntmps20
      go_wp2_with fail
      refine HF.out.mono ?_
      clear HF
      rintro e w1 ⟨rfl, rfl⟩
      go_wp2
      go_ret2
      exact ⟨rfl, Below.refl _ _⟩
  · rw [show checkO key b s = (false, 1) by unfold checkO; rw [if_pos h32]]
    rw [decide_eq_false h32] at hfo
    have HF := Lib.hid hfo
    clear hA hB hC h32 hfo hc
    go_enter Try.func20, Try.ntmps20
    go_wp2_with fail
    refine HF.out.mono ?_
    clear HF
    rintro e w1 ⟨rfl, rfl⟩
    go_wp2
    go_ret2
    exact ⟨rfl, Below.refl _ _⟩
end Go.Proofs.Ytohpgfefdlccmaa.OneFaceW
