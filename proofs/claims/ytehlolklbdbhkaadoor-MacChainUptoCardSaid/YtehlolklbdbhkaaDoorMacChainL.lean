/-
  The walk of ticketwardkeep.MacChain: it returns true and writes nothing that was there. Conditions: the tables that mac.Sum asks for; bulk at most 1048576.
-/
import Derived.Test.YtehlolklbdbhkaaDoorMacAlive
import Derived.Test.YtehlolklbdbhkaaDoorSEqualD
import Derived.Test.YtehlolklbdbhkaaDoorKd
namespace Go.Proofs.YtehlolklbdbhkaaDoor.MacChainL
open Go.RowKit BytesW CellsW WordsW ArrW HashX HashSumW HashSameW HashFinW MacM MacSumW DigsW RowsW SEqualDW

def total (rs : List (List UInt8)) : Nat := rs.foldr (fun r n => r.length + n) 0
theorem total_le (ls : List (List UInt8)) (p : List UInt8) (h : p ∈ ls) : p.length ≤ total ls := by
  induction ls with
  | nil => exact absurd h (by simp)
  | cons x r ih =>
    have e : total (x :: r) = x.length + total r := rfl
    rcases List.mem_cons.1 h with h | h
    · rw [h, e]; omega
    · have := ih h; omega
theorem ms_take {w : World} {B : Nat} {A : Option Addr} {ls : List (List UInt8)} (h : Ms w B A ls) (k : Nat) : Ms w B A (ls.take k) := by
  intro h0
  rw [List.length_take] at h0
  obtain ⟨ad, e, hlt, hc⟩ := h (by omega)
  refine ⟨ad, e, hlt, fun j hj => ?_⟩
  rw [List.length_take] at hj
  obtain ⟨a, c, h1, h2, h3⟩ := hc j (by omega)
  have e2 : (ls.take k)[j]'(by rw [List.length_take]; exact hj) = ls[j] := List.getElem_take
  exact ⟨a, c, by rw [e2]; exact h1, by rw [e2]; exact h2, by rw [e2]; exact h3⟩
theorem ms_cut {w : World} {B : Nat} {ad : Addr} {ls : List (List UInt8)} (h : Ms w B (some ad) ls) (k cap : Nat) (hc : ls.length ≤ cap) : Ms w B (if cap = k then some ad else some (ad.add k)) (ls.drop k) := by
  intro h0
  rw [List.length_drop] at h0
  obtain ⟨ad', e, hlt, hcl⟩ := h (by omega)
  cases e
  refine ⟨ad.add k, by rw [if_neg (by omega)], by rw [add_block]; exact hlt, fun j hj => ?_⟩
  rw [List.length_drop] at hj
  obtain ⟨a, c, h1, h2, h3⟩ := hcl (k + j) (by omega)
  have e2 : (ls.drop k)[j]'(by rw [List.length_drop]; exact hj) = ls[k + j] := List.getElem_drop
  exact ⟨a, c, by rw [add_add, e2]; exact h1, by rw [e2]; exact h2, by rw [e2]; exact h3⟩

set_option maxHeartbeats 8000000 in
set_option maxRecDepth 100000 in
theorem walk (a0 : Option Addr) (l0 : List UInt8) (c0 : Nat) (a1 : Option Addr) (ps : List (List UInt8)) (c1 : Nat) (n : Int) (w : World) (hA : Bs w w.heap.size a0 l0) (hc0 : l0.length ≤ c0) (hl0 : l0.length ≤ 1048576) (hB : Ms w w.heap.size a1 ps) (hc1 : ps.length ≤ c1) (hl : total ps + ps.length ≤ 1048576) (_ : (Lit.int .i64 n).wf = true) (hT : Tabs w) :
    Calls Tryd.prog 7 #[.slice a0 l0.length c0, .slice a1 ps.length c1, .int .i64 n] w fun e w' => e = .returned (.bool true) ∧ Below w.heap.size w w' := by
  have hp : ∀ p ∈ ps, p.length ≤ 1099511627712 := fun p h => by have := total_le ps p h; omega
  have HT := Lib.hid hT
  have HA := Lib.hid hA
  have HB := Lib.hid hB
  have HP := Lib.hid hp
  have HCn := Lib.hid (fun (V : World) (hV : Below w.heap.size w V) => mchain_any a0 l0 c0 a1 ps c1 V ((hA.below hV).more hV.size) hc0 ((hB.below hV).more hV.size) hc1 (by omega) hp (by omega) (hT.below hV))
  have hps : ps.length ≤ 1048576 := by omega
  have HLn := Lib.hid (chain_len ps l0)
  clear hT hA hB hp hl
  go_enter Tryd.func7, Tryd.ntmps7
  go_wp2_with fail
  refine (MacAliveW.alive_any w HT.out).mono ?_
  rintro e w1 ⟨rfl, b1⟩
  have X1 := Lib.hid b1
  clear b1
  go_wp2_with fail
  refine (HCn.out w1 X1.out).mono ?_
  rintro e w2 ⟨v2, rfl, r2, b2⟩
  have X2 := Lib.hid (X1.out.trans (b2.mono X1.out.size))
  obtain ⟨A2, d2, rfl, s2, hd2⟩ := r2.form
  rw [HLn.out] at hd2 ⊢
  have S2 := Lib.hid s2
  clear b2 r2 s2
  by_cases h1 : n < 1
  · have ct : decide (n < 1) = true := decide_eq_true h1
    go_wp2
    go_ret
    exact ⟨rfl, X2.out⟩
  · have ct : decide (n < 1) = false := decide_eq_false h1
    by_cases h2 : n > (ps.length : Int)
    · have ct2 : decide (n > (ps.length : Int)) = true := decide_eq_true h2
      go_wp2
      go_ret
      exact ⟨rfl, X2.out⟩
    · have ct2 : decide (n > (ps.length : Int)) = false := decide_eq_false h2
      obtain ⟨m, rfl⟩ : ∃ m : Nat, n = (m : Int) := ⟨n.toNat, by omega⟩
      have hm1 : 1 ≤ m := by omega
      have hm2 : m ≤ ps.length := by omega
      go_upto_region 8 with (fail)
      obtain ⟨j, hj⟩ : ∃ j, m - 1 = j := ⟨_, rfl⟩
      have hjm : m = j + 1 := by omega
      have Hjm := Lib.hid hjm
      have hjl : j < ps.length := by omega
      obtain ⟨adL, rfl, _, l32, bL⟩ := S2.out.at_ (k := j) (by rw [HLn.out]; exact hjl)
      obtain ⟨adP, rfl⟩ : ∃ adP, a1 = some adP := by obtain ⟨adP, _, _, e, _⟩ := HB.out.at_ (k := 0) (by omega); exact ⟨adP, e⟩
      have BL := Lib.hid bL
      have HL32 := Lib.hid l32
      have HDr := Lib.hid (chain_drop ps l0 j hjl)
      have HTk := Lib.hid (chain_take ps l0 (j + 1))
      rw [← hjm] at HDr HTk
      obtain ⟨D, hD⟩ : ∃ D, (chain l0 ps)[j]'(by rw [HLn.out]; exact hjl) = D := ⟨_, rfl⟩
      rw [hD] at BL HL32 HDr
      have wj : IntKind.i64.wrap ((m : Int) - 1) = (j : Int) := by rw [IntWalk.i64_in _ (by omega)]; omega
      have ij : (j : Int) < (ps.length : Int) := by omega
      have im : (m : Int) ≤ (ps.length : Int) := by omega
      have imc : (m : Int) ≤ (c1 : Int) := by omega
      have imd : (m : Int) ≤ (d2 : Int) := by omega
      clear hj hjm bL l32 hD h1 h2
      have hab := ab w2
      have x0 := (Below.refl w2.heap.size w2).drew
      obtain ⟨V0, hV0⟩ : ∃ x, w2.drew = x := ⟨_, rfl⟩
      refine wp_region_tree (.read 0 (.read 1 (.read 2 (.read 3 (.read 4 (.read 5 (.read 6 (.read 7 (.step 8 (.read 9 .done)))))))))) (fun W => ∃ x : Ab w2, W = x.val) (by kernel_rfl) (by kernel_rfl) (by decide) (fun _ _ d _ _ h => by cases d <;> exact h) (Cl.of (Below.refl _ _).drew) ?_
      rw [hV0] at x0 ⊢
      clear hV0
      iterate 7 (refine tree_read rfl (fun K hK => ?_); go_simp; refine hK _ ?_; clear hK K)
      refine tree_read rfl (fun K hK => ?_)
      go_simp
      obtain ⟨A3, hA3⟩ : ∃ A3, (if c1 = m then some adP else some (adP.add m)) = A3 := ⟨_, rfl⟩
      have y0 := X2.out.trans (x0.mono X2.out.size)
      have HDl := Lib.hid (show (ps.drop m).length = ps.length - m from List.length_drop)
      have hM3 := ms_cut ((HB.out.below y0).more y0.size) m c1 hc1
      rw [hA3] at hM3 ⊢
      clear hA3
      refine hK _ ?_
      clear hK K
      have hch := mchain_any (some (adL.add (j * 32))) D 32 A3 (ps.drop m) (c1 - m) V0 ((BL.out.below x0).more x0.size) (by rw [HL32.out]; exact Nat.le_refl _) hM3 (by rw [HDl.out]; omega) (by rw [HL32.out]; omega) (fun p h => HP.out p (List.mem_of_mem_drop h)) (by rw [HDl.out]; omega) (HT.out.below y0)
      rw [HL32.out, HDl.out] at hch
      have HCh := Lib.hid hch
      clear hch hM3
      refine tree_step rfl (Cl.of x0) (fun K hK => ?_)
      go_simp
      refine HCh.out.mono ?_
      clear HCh
      rintro e V1 ⟨v3, rfl, r3, b1⟩
      obtain ⟨A4, d4, rfl, s4, _⟩ := r3.form
      have HLd := Lib.hid (show (chain D (ps.drop m)).length = ps.length - m by rw [chain_len, HDl.out])
      rw [HLd.out]
      have x1 := x0.trans (b1.mono x0.size)
      have S4 := Lib.hid s4
      refine hK _ _ ⟨Cl.of x1, ?_⟩
      clear hK K b1 r3 s4
      refine tree_read rfl (fun K hK => ?_)
      go_simp
      refine hK _ ?_
      clear hK K
      refine tree_done ?_
      have X5 := Lib.hid (X2.out.trans (x1.mono X2.out.size))
      have S5 := Lib.hid ((S2.out.below x1).more x1.size)
      have HPm := Lib.hid (show (ps.take m).length = m by rw [List.length_take]; omega)
      clear x0 x1 y0 hab
      go_upto_region 9 with (fail)
      have hab := ab V1
      have x0 := (Below.refl V1.heap.size V1).drew
      obtain ⟨V2, hV2⟩ : ∃ x, V1.drew = x := ⟨_, rfl⟩
      refine wp_region_tree (.read 0 (.read 1 (.read 2 (.read 3 (.step 4 (.read 5 (.read 6 (.read 7 (.read 8 (.read 9 (.read 11 (.read 12 (.read 13 (.step 10 (.step 14 (.read 15 (.read 16 .done))))))))))))))))) (fun W => ∃ x : Ab V1, W = x.val) (by kernel_rfl) (by kernel_rfl) (by decide) (fun _ _ d _ _ h => by cases d <;> exact h) (Cl.of (Below.refl _ _).drew) ?_
      rw [hV2] at x0 ⊢
      clear hV2
      iterate 2 (refine tree_read rfl (fun K hK => ?_); go_simp; refine hK _ ?_; clear hK K)
      refine tree_read rfl (fun K hK => ?_)
      go_simp
      obtain ⟨A5, hA5⟩ : ∃ A5, (if d2 = m then some adL else some (adL.add (m * 32))) = A5 := ⟨_, rfl⟩
      have hD5 := (S5.out.below x0).more x0.size
      have hD6 := hD5.cut m d2 (by rw [HLn.out]; exact hd2)
      rw [show (if d2 = m then some adL else (some adL).map (·.add (m * 32))) = A5 from hA5, HDr.out] at hD6
      rw [hA5]
      clear hA5
      refine hK _ ?_
      clear hK K
      have y0 := X5.out.trans (x0.mono X5.out.size)
      have heq := equal_any A5 A4 (chain D (ps.drop m)) (d2 - m) d4 V2 hD6 ((S4.out.below x0).more x0.size) (by rw [HLd.out]; omega)
      rw [HLd.out] at heq
      have HEq := Lib.hid heq
      have HD5 := Lib.hid hD5
      clear heq hD5 hD6
      iterate 1 (refine tree_read rfl (fun K hK => ?_); go_simp; refine hK _ ?_; clear hK K)
      refine tree_step rfl (Cl.of x0) (fun K hK => ?_)
      go_simp
      refine HEq.out.mono ?_
      clear HEq
      rintro e V3 ⟨rfl, n3, hV3⟩
      have b3 : Below V2.heap.size V2 V3 := by rw [hV3]; exact belowN _ _ _
      have x3 := x0.trans (b3.mono x0.size)
      have D53 := Lib.hid ((HD5.out.below b3).more b3.size)
      refine hK _ _ ⟨Cl.of x3, ?_⟩
      clear hK K hV3 HD5
      iterate 8 (refine tree_read rfl (fun K hK => ?_); go_simp; refine hK _ ?_; clear hK K)
      have y3 := X5.out.trans (x3.mono X5.out.size)
      have hch := mchain_any a0 l0 c0 (some adP) (ps.take m) c1 V3 ((HA.out.below y3).more y3.size) hc0 (ms_take ((HB.out.below y3).more y3.size) m) (by rw [HPm.out]; omega) (by omega) (fun p h => HP.out p (List.mem_of_mem_take h)) (by rw [HPm.out]; omega) (HT.out.below y3)
      rw [HPm.out, HTk.out] at hch
      have HCh := Lib.hid hch
      clear hch b3
      refine tree_step rfl (Cl.of x3) (fun K hK => ?_)
      go_simp
      refine HCh.out.mono ?_
      clear HCh
      rintro e V4 ⟨v6, rfl, r6, b4⟩
      obtain ⟨A6, d6, rfl, s6, _⟩ := r6.form
      have HLt := Lib.hid (show ((chain l0 ps).take m).length = m by rw [List.length_take, HLn.out]; omega)
      rw [HLt.out]
      have x4 := x3.trans (b4.mono x3.size)
      have D54 := Lib.hid (((D53.out.below b4).more b4.size).take m)
      have S6 := Lib.hid s6
      refine hK _ _ ⟨Cl.of x4, ?_⟩
      clear hK K b4 r6 s6 D53
      have heq := equal_any A6 (some adL) ((chain l0 ps).take m) d6 d2 V4 S6.out D54.out (by rw [HLt.out]; omega)
      rw [HLt.out] at heq
      have HEq := Lib.hid heq
      clear heq
      refine tree_step rfl (Cl.of x4) (fun K hK => ?_)
      go_simp
      refine HEq.out.mono ?_
      clear HEq
      rintro e V5 ⟨rfl, n5, hV5⟩
      have b5 : Below V4.heap.size V4 V5 := by rw [hV5]; exact belowN _ _ _
      have x5 := x4.trans (b5.mono x4.size)
      refine hK _ _ ⟨Cl.of x5, ?_⟩
      clear hK K hV5
      iterate 2 (refine tree_read rfl (fun K hK => ?_); go_simp; refine hK _ ?_; clear hK K)
      refine tree_done ?_
      go_wp2
      go_ret
      exact ⟨rfl, X5.out.trans (x5.mono X5.out.size)⟩
end Go.Proofs.YtehlolklbdbhkaaDoor.MacChainL
