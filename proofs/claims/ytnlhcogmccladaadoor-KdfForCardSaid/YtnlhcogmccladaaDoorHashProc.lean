/-
  hash.process: what it hands back. Conditions: in the statement.
-/
import Derived.Test.YtnlhcogmccladaaDoorHashComp
import Derived.Test.YtnlhcogmccladaaDoorKc
import Derived.Test.YtnlhcogmccladaaDoorHashMath
namespace Go.Proofs.YtnlhcogmccladaaDoor.HashProcW
open Go.RowKit BytesW CellsW WordsW ArrW HashM HashX HashMath HashCompW


/-- A1 lies in A's block. -/
def Kin (A A1 : Option Addr) : Prop := ∀ ad1, A1 = some ad1 → ∃ ad, A = some ad ∧ ad1.block = ad.block
theorem Kin.refl (A : Option Addr) : Kin A A := fun ad h => ⟨ad, h, rfl⟩
theorem Kin.cut {A A1 : Option Addr} (h : Kin A A1) (n cap : Nat) : Kin A (if cap = n then A1 else A1.map (·.add n)) := by
  intro ad1 e
  split at e
  · exact h ad1 e
  · cases A1 with
    | none => cases e
    | some a =>
      cases e
      obtain ⟨ad, e, hb⟩ := h a rfl
      exact ⟨ad, e, by rw [add_block]; exact hb⟩
/-- The length of a slice's value. -/
def sliceLen' : Value → Nat
  | .slice _ n _ => n
  | _ => 0

set_option maxHeartbeats 8000000 in
set_option maxRecDepth 100000 in
theorem process_any (S : List Nat) (hS : Sm S) (A : Option Addr) (l : List UInt8) (c : Nat) (w : World) (hA : Bs w w.heap.size A l) (hc : l.length ≤ c) (hT : TabR w) :
    Calls Tryd.prog 44 #[.agg (wc S).toArray, .slice A l.length c] w fun e w' =>
      ∃ A' c', e = .returned (.tuple #[.agg (wc (run S l)).toArray, .slice A' (over l).length c']) ∧ (over l).length ≤ c' ∧ Bs w w.heap.size A' (over l) ∧ Kin A A' ∧ Below w.heap.size w w' := by
  have ht0 := hT.lt
  have HT := Lib.hid hT
  have HA := Lib.hid hA
  have HS := Lib.hid hS
  have N8 : Hid ((wc S).length = 8) := Lib.hid (by rw [wc_length]; exact hS.1)
  have u8 : Tryd.prog.underlying 59 = some (.array 8 58) := by kernel_rfl
  have i8 : (Tryd.prog.info? 59).map (·.size) = some 8 := by kernel_rfl
  have U8 := Lib.hid u8
  have I8 := Lib.hid i8
  clear hT hA hS u8 i8
  go_enter Tryd.func44, Tryd.ntmps44
  go_wp2
  generalize hW : World.alloc _ _ = W
  obtain ⟨H0, H1, hbw, hsz⟩ := start2 hW
  clear hW
  have a0 : Arr W w.heap.size 59 (wc S) := H0
  have a1 : Arr W (w.heap.size + 1) 59 (wc [0, 0, 0, 0, 0, 0, 0, 0]) := H1
  have HA0 := Lib.hid a0
  have HA1 := Lib.hid a1
  have HBW := Lib.hid hbw
  have HSZ := Lib.hid hsz
  have HTW := Lib.hid (HT.out.below hbw)
  clear a0 a1 H0 H1 hbw hsz
  go_loopw [1] (fun v wr => ∃ (i : Nat) (A1 : Option Addr) (c1 : Nat) (S1 : List Nat) (m : List UInt8), m = l.drop (64 * i) ∧ 64 * i ≤ l.length ∧ v = .slice A1 m.length c1 ∧ m.length ≤ c1 ∧ Bs w w.heap.size A1 m ∧ Kin A A1 ∧ Arr wr w.heap.size 59 (wc S1) ∧ Sm S1 ∧ run S1 m = run S l ∧ W.grownBy wr (some w.heap.size)) (fun v _ => sliceLen' v)
  case atStart => exact ⟨0, A, c, S, l, by rw [Nat.mul_zero, List.drop_zero], by omega, rfl, hc, HA.out, Kin.refl A, HA0.out, HS.out, rfl, grownRefl _ _⟩
  case round =>
    obtain ⟨i, A1, c1, S1, m, hm, hi, rfl, hc1, hb1, hkin, a0, hS1, hrun, hg⟩ := hrel
    have HK := Lib.hid hkin
    clear hkin
    have hml : m.length = l.length - 64 * i := by rw [hm, List.length_drop]
    by_cases hlt : 64 ≤ m.length
    · have ct : decide ((m.length : Int) ≥ 64) = true := decide_eq_true (by omega)
      have HRun := Lib.hid hrun
      have HSm1 := Lib.hid hS1
      have HM := Lib.hid hm
      have HML := Lib.hid hml
      have HTr := Lib.hid (HTW.out.grown hg (by omega))
      have N1 : Hid ((wc S1).length = 8) := Lib.hid (by rw [wc_length]; exact hS1.1)
      have h64 : (m.take 64).length = 64 := by rw [List.length_take]; omega
      have hbr := HBW.out.trans (grownBelow hg (Nat.le_refl _) HBW.out.size)
      have hcmp := compress_any S1 hS1 A1 (m.take 64) c1 wr.drew ((((hb1.take 64).below hbr).more hbr.size).drew) h64 HTr.out
      rw [h64] at hcmp
      have HC := Lib.hid hcmp
      have HB1 := Lib.hid (hb1.cut 64 c1 hc1)
      have HN := Lib.hid (run_next S1 m hlt)
      have A0 := Lib.hid a0.drew
      have HG := Lib.hid (grownTrans hg (grownDrew wr _))
      have hml2 : (m.drop 64).length = m.length - 64 := List.length_drop
      have HML2 := Lib.hid hml2
      have HBl := Lib.hid (sm_block S1 (m.take 64) hS1.1)
      have N2 : Hid ((wc (block S1 (m.take 64))).length = 8) := Lib.hid (by rw [wc_length]; exact HBl.out.1)
      clear hS1 hm hml hcmp hb1 a0 hbr h64 hg hml2
      go_upto_region 2 with (fail)
      refine Phase.wp_region_phases [([], [0, 1, 2], some 3), ([], [], some 4)] (fun W => W = wr.drew) (by kernel_rfl) (by kernel_rfl) (fun _ _ d _ _ h => by cases d <;> exact h) rfl ?_
      refine Phase.g_alone rfl (Phase.p_nil ?_)
      refine Phase.q_step rfl (fun K hK => want rfl ?_)
      refine Arr.loadQ (fun W (h : W = wr.drew) => by subst h; exact A0.out) 59 (.tmp 2) rfl rfl U8.out rfl I8.out N1.out ?_
      refine hK _ ?_
      clear hK K
      refine Phase.q_step rfl (fun K hK => ?_)
      go_simp
      refine hK _ ?_
      clear hK K
      refine Phase.q_step rfl (fun K hK => ?_)
      go_simp
      rw [if_pos (show (64 : Int) ≤ (c1 : Int) by omega)]
      refine ⟨_, ⟨rfl, rfl⟩, hK _ ?_⟩
      clear hK K
      refine Phase.q_nil ?_
      rintro _ rfl K hK
      go_simp
      refine HC.out.mono ?_
      clear HC
      rintro e w9 ⟨rfl, hb9⟩
      refine hK _ _ ⟨fun W => W = w9, rfl, ?_⟩
      clear hK K
      have A9 := Lib.hid (A0.out.below hb9 A0.out.lt)
      have HG9 := Lib.hid (grownTrans HG.out (grownTrans (grownOf hb9) (grown_row w9 w.heap.size (wc (block S1 (m.take 64))).toArray)))
      clear hb9 A0
      refine Phase.g_alone rfl (Phase.p_nil (Phase.q_nil ?_))
      intro wz hz K hK
      rw [show wz = w9 from hz]
      refine want rfl ?_
      refine Arr.storeO A9.out 59 (.tmp 2) (.tmp 12) rfl rfl (wc (block S1 (m.take 64))) rfl I8.out N1.out N2.out (wc_one _) ?_
      have A10 := Lib.hid (A9.out.row (wc (block S1 (m.take 64))))
      obtain ⟨wx, hwx⟩ : ∃ x, w9.setRow w.heap.size (wc (block S1 (m.take 64))).toArray = x := ⟨_, rfl⟩
      rw [hwx] at A10 HG9 ⊢
      refine hK _ _ ⟨fun W => W = wx, rfl, ?_⟩
      clear hK K hwx A9 HG
      refine Phase.g_nil ?_
      intro wz hz
      rw [show wz = wx from hz]
      clear hz
      go_wp2
      go_roundw
      case rel => exact ⟨i + 1, _, c1 - 64, _, m.drop 64, by rw [HM.out, List.drop_drop, Nat.mul_succ], by have := HML.out; omega, by rw [HML2.out]; rfl, by rw [HML2.out]; omega, HB1.out, HK.out.cut 64 c1, A10.out, HBl.out, by rw [← HN.out]; exact HRun.out, HG9.out⟩
      case measure => simp [sliceLen']; omega
    · have ct : decide ((m.length : Int) ≥ 64) = false := decide_eq_false (by omega)
      have hS : S1 = run S l := by rw [← hrun, run_stop _ _ (by omega)]
      have hov : m = over l := by rw [hm, over]; congr 1; omega
      subst hS hov
      have A0 := Lib.hid a0
      have N1 : Hid ((wc (run S l)).length = 8) := Lib.hid (by rw [wc_length]; exact hS1.1)
      have A1r := Lib.hid (arr_grown HA1.out hg (by omega))
      have HB1 := Lib.hid hb1
      have HBF := Lib.hid (below_row (HBW.out.trans (grownBelow hg (Nat.le_refl _) HBW.out.size)) (show w.heap.size ≤ w.heap.size + 1 by omega) (wc (run S l)).toArray)
      have AF := Lib.hid (A1r.out.row (wc (run S l)))
      clear a0 hb1 hg hrun hm hml
      go_wp2_with (first | (refine Arr.loadL A0.out rfl 59 (.tmp 2) rfl rfl U8.out rfl I8.out N1.out ?_) | (refine Arr.storeL A1r.out rfl 59 (.tmp 4) (.tmp 15) rfl rfl (wc (run S l)) rfl I8.out (by rfl) N1.out (wc_one _) ?_))
      refine bodyPost_ret (v := .tuple #[.agg (wc (run S l)).toArray, .slice A1 (over l).length c1]) (by exact AF.out.ret2 rfl _ rfl rfl U8.out rfl I8.out N1.out) rfl ⟨A1, c1, rfl, hc1, HB1.out, HK.out, HBF.out⟩
end Go.Proofs.YtnlhcogmccladaaDoor.HashProcW
