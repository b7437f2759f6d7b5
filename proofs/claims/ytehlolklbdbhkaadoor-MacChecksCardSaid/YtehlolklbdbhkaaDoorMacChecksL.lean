/-
  The walk of ticketwardkeep.MacChecks: it returns true and writes nothing that was there. Conditions: the tables that mac.Sum asks for; the form's own reach.
-/
import Derived.Test.YtehlolklbdbhkaaDoorMacAlive
import Derived.Test.YtehlolklbdbhkaaDoorKd
namespace Go.Proofs.YtehlolklbdbhkaaDoor.MacChecksL
open Go.RowKit BytesW CellsW WordsW ArrW HashX HashSumW HashSameW HashFinW HashBlockW HashRefW MacM MacRefW MacSumW

set_option maxHeartbeats 8000000 in
set_option maxRecDepth 100000 in
theorem walk (a0 : Option Addr) (l0 : List UInt8) (c0 : Nat) (a1 : Option Addr) (l1 : List UInt8) (c1 : Nat) (n k : Int) (w : World) (hA : Bs w w.heap.size a0 l0) (hc0 : l0.length ≤ c0) (hl0 : l0.length ≤ 140737488351232) (hB : Bs w w.heap.size a1 l1) (hc1 : l1.length ≤ c1) (hl1 : l1.length ≤ 140737488351232) (_ : (Lit.int .i64 n).wf = true) (_ : (Lit.int .i64 k).wf = true) (hT : Tabs w) :
    Calls Tryd.prog 5 #[.slice a0 l0.length c0, .slice a1 l1.length c1, .int .i64 n, .int .i64 k] w fun e w' => e = .returned (.bool true) ∧ Below w.heap.size w w' := by
  have HT := Lib.hid hT
  have HA := Lib.hid hA
  have HB := Lib.hid hB
  obtain ⟨D, hD⟩ : ∃ D, hm l0 l1 = D := ⟨_, rfl⟩
  have HDl := Lib.hid (show D.length = 32 by rw [← hD]; exact hm_len _ _)
  have N32 := Lib.hid (show (Lib.byteCells D).length = 32 by rw [Lib.byteCells_length]; exact HDl.out)
  have HD := Lib.hid hD
  have HSu := Lib.hid (fun (V : World) (hV : Below w.heap.size w V) => msum_any a0 l0 c0 a1 l1 c1 V ((hA.below hV).more hV.size) hc0 ((hB.below hV).more hV.size) hc1 hl0 hl1 (hT.below hV))
  rw [hD] at HSu
  clear hT hA hB hD
  go_enter Tryd.func5, Tryd.ntmps5
  go_wp2_with fail
  refine (MacAliveW.alive_any w HT.out).mono ?_
  rintro e w1 ⟨rfl, b1⟩
  have X1 := Lib.hid b1
  clear b1
  by_cases h16 : n < 16
  · have ct : decide (n < 16) = true := decide_eq_true h16
    go_wp2
    go_ret
    exact ⟨rfl, X1.out⟩
  · have ct : decide (n < 16) = false := decide_eq_false h16
    by_cases h32 : n > 32
    · have ct2 : decide (n > 32) = true := decide_eq_true h32
      go_wp2
      go_ret
      exact ⟨rfl, X1.out⟩
    · have ct2 : decide (n > 32) = false := decide_eq_false h32
      obtain ⟨L, rfl⟩ : ∃ L : Nat, n = (L : Int) := ⟨n.toNat, by omega⟩
      have hL : L ≤ 32 := by omega
      go_wp2_with fail
      refine (HSu.out w1 X1.out).mono ?_
      clear HSu
      rintro e w2 ⟨rfl, b2⟩
      have X2 := Lib.hid (X1.out.trans (b2.mono X1.out.size))
      clear b2
      go_upto_region 6 with (refine Arr.storeL (Arr.new w2 _ _) rfl 24 (.tmp 9) (.tmp 24) rfl rfl (Lib.byteCells D) rfl dig_size (by rfl) N32.out (bytes_one _) ?_)
      generalize hw3 : World.setRow _ _ _ = w3
      obtain ⟨p9, b3, z3⟩ := filled hw3
      have X3 := Lib.hid (X2.out.trans (b3.mono X2.out.size))
      have P9 := Lib.hid p9
      obtain ⟨g9, hg9⟩ : ∃ g, w2.heap.size = g := ⟨_, rfl⟩
      have Hg9 := Lib.hid (show w.heap.size ≤ g9 by rw [← hg9]; exact X2.out.size)
      rw [hg9] at P9 ⊢
      clear b3 hw3 p9 hg9 z3
      have HTl := Lib.hid (show (D.take L).length = L by rw [List.length_take, HDl.out]; omega)
      have hck := mcheck_any a0 l0 c0 a1 l1 c1 (some ⟨g9, 0, none⟩) (D.take L) 32 w3 ((HA.out.below X3.out).more X3.out.size) hc0 ((HB.out.below X3.out).more X3.out.size) hc1 ((arr_bs P9.out P9.out.lt).take L) (by rw [HTl.out]; exact hL) hl0 hl1 (by rw [HTl.out]; omega) (HT.out.below X3.out)
      have e1 : checkM l0 l1 (D.take L) = (true, 0) := by
        unfold checkM
        rw [HTl.out, HD.out, if_neg (by omega), if_neg (by omega)]
        simp
      rw [HTl.out, e1] at hck
      have HCk := Lib.hid hck
      have iL : (L : Int) ≤ 32 := by omega
      clear hck e1
      go_wp2_with fail
      refine HCk.out.mono ?_
      clear HCk
      rintro e w4 ⟨rfl, b4⟩
      have X4 := Lib.hid (X3.out.trans (b4.mono X3.out.size))
      have P94 := Lib.hid (P9.out.below b4 P9.out.lt)
      clear b4 P9
      by_cases h0 : k < 0
      · have ct3 : decide (k < 0) = true := decide_eq_true h0
        go_wp2
        go_ret
        exact ⟨rfl, X4.out⟩
      · have ct3 : decide (k < 0) = false := decide_eq_false h0
        by_cases h8 : k ≥ 8 * (L : Int)
        · have ct4 : decide (k ≥ 8 * (L : Int)) = true := decide_eq_true h8
          go_wp2
          go_ret
          exact ⟨rfl, X4.out⟩
        · have ct4 : decide (k ≥ 8 * (L : Int)) = false := decide_eq_false h8
          obtain ⟨b, rfl⟩ : ∃ b : Nat, k = (b : Int) := ⟨k.toNat, by omega⟩
          have hb8 : b < 8 * L := by omega
          go_upto_region 11 with (fail)
          obtain ⟨i, hi⟩ : ∃ i, b / 8 = i := ⟨_, rfl⟩
          obtain ⟨j, hj⟩ : ∃ j, b % 8 = j := ⟨_, rfl⟩
          have d1 : (b : Int).tdiv 8 = (i : Int) := by rw [Int.tdiv_eq_ediv_of_nonneg (by omega)]; omega
          have d2 : (b : Int) / 8 = (i : Int) := by omega
          have m1 : (b : Int).tmod 8 = (j : Int) := by rw [Int.tmod_eq_emod_of_nonneg (by omega)]; omega
          have m2 : (b : Int) % 8 = (j : Int) := by omega
          have hi32 : i < 32 := by omega
          have hjl : j < 8 := by omega
          have ii : (i : Int) < 32 := by omega
          have c9 := P94.out.cell i
          rw [HashX.bc_getD D i (by rw [HDl.out]; exact hi32)] at c9
          obtain ⟨x, hx⟩ : ∃ x, D.getD i 0 = x := ⟨_, rfl⟩
          obtain ⟨y, hy⟩ : ∃ y, UInt8.ofNat (2 ^ j) = y := ⟨_, rfl⟩
          rw [hx] at c9
          have ws : IntKind.u8.wrap (2 ^ j) = (y.toNat : Int) := by
            rw [← hy, UInt8.toNat_ofNat']
            have h : ∀ m : Fin 8, IntKind.u8.wrap (2 ^ m.val) = ((2 ^ m.val % 2 ^ 8 : Nat) : Int) := by decide
            exact h ⟨j, hjl⟩
          have hX := Bits.xor_u8 x y
          have HNe := Lib.hid (show x ^^^ y ≠ D.getD i 0 by rw [hx, ← hy]; exact turned x j hjl)
          have Hii := Lib.hid (show i < L by omega)
          clear hx hy
          have f9 := P94.out.frozen i
          obtain ⟨D2, hD2⟩ : ∃ D2, D.set i (x ^^^ y) = D2 := ⟨_, rfl⟩
          have HD2 := Lib.hid hD2
          have wi : IntKind.i64.wrap (i : Int) = (i : Int) := IntWalk.i64_in _ (by omega)
          have wj : IntKind.i64.wrap (j : Int) = (j : Int) := IntWalk.i64_in _ (by omega)
          refine Phase.wp_region_phases [([], [0, 1, 2, 3, 4, 5, 6, 7, 8], some 9)] (fun W => W = w4.drew) (by kernel_rfl) (by kernel_rfl) (fun _ _ d _ _ h => by cases d <;> exact h) rfl ?_
          refine Phase.g_alone rfl (Phase.p_nil ?_)
          iterate 9 (refine Phase.q_step rfl (fun K hK => ?_); go_simp; refine hK _ ?_; clear hK K)
          refine Phase.q_nil ?_
          rintro _ rfl K hK
          go_simp
          have a2 := (P94.out.drew).set i (.int .u8 ((x ^^^ y).toNat : Int))
          rw [HashX.bc_set, hD2] at a2
          have x5 := X4.out.trans (grownBelow (grownTrans (grownDrew w4 (some g9)) (grownSet w4.drew g9 i (.int .u8 ((x ^^^ y).toNat : Int)))) Hg9.out X4.out.size)
          obtain ⟨w5, hw5⟩ : ∃ w5, w4.drew.setCell ⟨g9, i, none⟩ (.int .u8 ((x ^^^ y).toNat : Int)) = w5 := ⟨_, rfl⟩
          rw [hw5] at a2 x5
          refine hK _ _ ⟨fun W => W = w5, hw5, ?_⟩
          have X5 := Lib.hid x5
          have P95 := Lib.hid a2
          clear hK K c9 f9 a2 x5 hw5 hD2
          refine Phase.g_nil ?_
          intro wz hz
          rw [show wz = w5 from hz]
          clear hz
          have HTl2 := Lib.hid (show (D2.take L).length = L by rw [List.length_take, ← HD2.out, List.length_set, HDl.out]; omega)
          have hck := mcheck_any a0 l0 c0 a1 l1 c1 (some ⟨g9, 0, none⟩) (D2.take L) 32 w5 ((HA.out.below X5.out).more X5.out.size) hc0 ((HB.out.below X5.out).more X5.out.size) hc1 ((arr_bs P95.out P95.out.lt).take L) (by rw [HTl2.out]; exact hL) hl0 hl1 (by rw [HTl2.out]; omega) (HT.out.below X5.out)
          have e1 : checkM l0 l1 (D2.take L) = (false, 0) := by
            unfold checkM
            rw [HTl2.out, HD.out, if_neg (by omega), if_neg (by omega)]
            have hne := set_ne D i L (x ^^^ y) Hii.out (by rw [HDl.out]; exact hL) HNe.out
            rw [HD2.out] at hne
            rw [decide_eq_false hne]
          rw [HTl2.out, e1] at hck
          have HCk := Lib.hid hck
          clear hck e1 d1 d2 m1 m2 wi wj ws hX
          go_wp2_with fail
          refine HCk.out.mono ?_
          clear HCk
          rintro e w6 ⟨rfl, b6⟩
          have X6 := Lib.hid (X5.out.trans (b6.mono X5.out.size))
          clear b6
          go_wp2
          go_ret
          exact ⟨rfl, X6.out⟩
end Go.Proofs.YtehlolklbdbhkaaDoor.MacChecksL
