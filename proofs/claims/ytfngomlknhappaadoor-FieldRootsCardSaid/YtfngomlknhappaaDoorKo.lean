/-
  Several texts in one: KBig, KNum, KPow, KRoot. What each holds stands at its head. Conditions: in each statement.
-/
import Derived.Test.YtfngomlknhappaaDoorKm
import Derived.Test.YtfngomlknhappaaDoorKl
import Derived.Test.YtfngomlknhappaaDoorKn
import Derived.Test.YtfngomlknhappaaDoorKc
import Derived.Test.YtfngomlknhappaaDoorKd

/-
  The document's own field: KPrime, KBig, KRight. Conditions: in each statement.
-/
namespace Go.Proofs.YtfngomlknhappaaDoor.KBigW
open Go.RowKit BytesW CellsW WordsW ArrW ArrG ArrL BigW BigNewW BigMulW BigM BigCmpW BigSetNW BigNegW BigAddW BigSubW BigQuoW BigModW BigLshW FieldM NumA

/-- A new number. -/
def FreshV (x : Int) (w : World) (e : Ending) (w' : World) : Prop := ∃ g, e = .returned (.pointer (some ⟨g, 0, none⟩)) ∧ w.heap.size ≤ g ∧ IntV w' g x ∧ Below w.heap.size w w'
theorem big_lt (n : Nat) (h : n < 2 ^ 4096) : n < BIG := Nat.lt_of_lt_of_le h (by decide +kernel)
theorem intV_len {w : World} {g : Nat} {x : Int} (h : IntV w g x) (bx : x.natAbs < BIG) : ∀ neg d, IntAt w g neg d → d.length ≤ 1048576 := by
  obtain ⟨n, d, hi, rfl, hn⟩ := h
  rw [sgn_abs] at bx
  have hl := len_big hi.2.2 bx
  obtain ⟨A, c, ha⟩ := intAt_arr hi
  intro neg d' hi'
  obtain ⟨A', c', ha'⟩ := intAt_arr hi'
  unfold Arr at ha ha'
  have e := ha.symm.trans ha'
  simp at e
  omega
theorem mulv_any (gz gx gy : Nat) (x y : Int) (w : World) (hz : Shape w gz) (hx : IntV w gx x) (hy : IntV w gy y) (bx : x.natAbs < BIG) (by' : y.natAbs < BIG) :
    Calls Tryd.prog 18 #[.pointer (some ⟨gz, 0, none⟩), .pointer (some ⟨gx, 0, none⟩), .pointer (some ⟨gy, 0, none⟩)] w fun e w' => e = .returned (.pointer (some ⟨gz, 0, none⟩)) ∧ IntV w' gz (x * y) ∧ w.grownBy w' (some gz) := by
  obtain ⟨b, A, n, c, ha⟩ := hz
  exact mul_any gz gx gy b A n c x y w ha hx hy (intV_len hx bx) (intV_len hy by')

theorem zero_intV (w : World) : IntV (w.alloc zeroObj) w.heap.size 0 := ⟨false, [], ⟨⟨none, 0, zero_arr w, fun h => absurd h (by simp), Nat.le_refl _⟩, (fun x hx => by cases hx), .inl rfl⟩, rfl, fun h => by cases h⟩

def PD : List Nat := [4294967277, 4294967295, 4294967295, 4294967295, 4294967295, 4294967295, 4294967295, 2147483647]
theorem PD_val : dval PD = P := by decide +kernel
theorem P_big : P < BIG := by decide +kernel

set_option maxHeartbeats 2000000 in
set_option maxRecDepth 100000 in
theorem kprime_any (w : World) : Calls Tryd.prog 33 #[] w (FreshV (P : Int) w) := by
  have hu := us_new w PD 57 (w.heap.size + 1) (by omega)
  have ew : (wc PD).toArray = #[.int .u32 4294967277, .int .u32 4294967295, .int .u32 4294967295, .int .u32 4294967295, .int .u32 4294967295, .int .u32 4294967295, .int .u32 4294967295, .int .u32 2147483647] := rfl
  rw [ew] at hu
  obtain ⟨W1, hW1⟩ : ∃ W1, w.alloc (.cells #[.int .u32 4294967277, .int .u32 4294967295, .int .u32 4294967295, .int .u32 4294967295, .int .u32 4294967295, .int .u32 4294967295, .int .u32 4294967295, .int .u32 2147483647] 57) = W1 := ⟨_, rfl⟩
  have hb1 : Below w.heap.size w W1 := by rw [← hW1]; exact (Below.refl _ w).alloc (Nat.le_refl _) _
  have hz1 : W1.heap.size = w.heap.size + 1 := by rw [← hW1]; simp
  rw [hW1] at hu
  have a2 := Arr.new W1 #[.bool false, .slice (some ⟨w.heap.size, 0, none⟩) 8 8] 34
  have b2 := (Below.refl W1.heap.size W1).alloc (Nat.le_refl _) (.cells #[.bool false, .slice (some ⟨w.heap.size, 0, none⟩) 8 8] 34)
  have HI : Hid (IntV (W1.alloc (.cells #[.bool false, .slice (some ⟨w.heap.size, 0, none⟩) 8 8] 34)) W1.heap.size (P : Int)) := by
    refine Lib.hid ⟨false, PD, ⟨⟨some ⟨w.heap.size, 0, none⟩, 8, a2, ?_, by decide⟩, by decide, .inr (by decide)⟩, by rw [PD_val]; rfl, fun h => by cases h⟩
    rw [← hz1] at hu
    exact (hu.below b2).more b2.size
  have HB := Lib.hid (hb1.trans (b2.mono hb1.size))
  have HZ := Lib.hid hz1
  have HW := Lib.hid hW1
  clear hu ew hW1 hb1 hz1 a2 b2
  go_enter Tryd.func33, Tryd.ntmps33
  go_wp2
  rw [HW.out]
  go_ret
  exact ⟨w.heap.size + 1, rfl, by omega, by rw [← HZ.out]; exact HI.out, HB.out⟩

theorem leN_drop (a : List UInt8) (k : Nat) (h : k < a.length) : leN (a.drop k) = a[k].toNat + 256 * leN (a.drop (k + 1)) := by
  rw [List.drop_eq_getElem_cons h]
  rfl
theorem leN_drop_lt (a : List UInt8) (k : Nat) (h : a.length = 32) : leN (a.drop k) < 2 ^ 256 := by
  have := leN_lt (a.drop k)
  rw [List.length_drop, h] at this
  exact Nat.lt_of_lt_of_le this (by rw [show (256 : Nat) = 2 ^ 8 from rfl, ← Nat.pow_mul]; exact Nat.pow_le_pow_right (by decide) (by omega))

set_option maxHeartbeats 4000000 in
set_option maxRecDepth 100000 in
theorem kbig_any (a : List UInt8) (h32 : a.length = 32) (w : World) : Calls Tryd.prog 14 #[.agg (Lib.byteCells a).toArray] w (FreshV (leN a : Int) w) := by
  have HL := Lib.hid h32
  obtain ⟨W0, hW0⟩ : ∃ W0, w.alloc (.cells (Lib.byteCells a).toArray 22) = W0 := ⟨_, rfl⟩
  have hn := Lib.byteCells_length a
  obtain ⟨A0, B0, Z0⟩ := start1 hW0
  have HA := Lib.hid (show Arr W0 w.heap.size 22 (Lib.byteCells a) from A0)
  have HB0 := Lib.hid B0
  have HZ0 := Lib.hid Z0
  have HW0 := Lib.hid hW0
  clear A0 B0 Z0 hW0 hn
  go_enter Tryd.func14, Tryd.ntmps14
  go_upto_region 1 with (fail)
  rw [HW0.out]
  have HN0 := Lib.hid (zero_shape W0)
  have HBn := Lib.hid (zero_below W0)
  have HIn : Hid (IntV (W0.alloc zeroObj) W0.heap.size (leN (a.drop 32) : Int)) := Lib.hid (by
    rw [List.drop_of_length_le (by omega)]
    exact zero_intV W0)
  unfold zeroObj at HN0 HBn HIn
  obtain ⟨g, hg⟩ : ∃ g, W0.heap.size = g := ⟨_, rfl⟩
  have HG := Lib.hid hg
  rw [hg] at HN0 HIn
  clear HW0
  go_upto_region 2 with (fail)
  try simp only [hg]
  clear hg
  generalize hW1 : World.alloc _ _ = W1
  rw [hW1] at HN0 HIn HBn
  clear hW1
  go_wp2
  go_loopw [4] (fun vk wr => ∃ (k : Nat) (ix : Int), k ≤ 32 ∧ ix = (k : Int) - 1 ∧ vk = .int .i64 ix ∧ IntV wr g (leN (a.drop k) : Int) ∧ Below W0.heap.size W0 wr) (fun vk _ => (intOf vk + 1).toNat)
  case atStart => exact ⟨32, _, by omega, rfl, rfl, HIn.out, HBn.out⟩
  case round =>
    clear HIn HBn HN0
    obtain ⟨k, ix, hk, hix, rfl, ik, bk⟩ := hrel
    have IK := Lib.hid ik
    have BK := Lib.hid bk
    clear ik bk
    cases k with
    | zero =>
      obtain rfl : ix = -1 := by omega
      clear hix
      go_wp2
      go_ret
      have h := IK.out
      rw [List.drop_zero] at h
      exact ⟨g, rfl, by have := HG.out; have := HZ0.out; omega, h, HB0.out.trans (BK.out.mono (by have := HZ0.out; omega))⟩
    | succ k =>
      obtain rfl : ix = (k : Int) := by omega
      clear hix
      have hkl : k < a.length := by have := HL.out; omega
      have hld := leN_drop a k hkl
      have hlt := leN_drop_lt a (k + 1) HL.out
      have cx : ∀ x : Ab W0, x.val.cell? ⟨w.heap.size, k, none⟩ = some (.int .u8 (a[k].toNat : Int)) := fun x => by
        have h := (HA.out.below x.property HA.out.lt).cell k
        rw [h]
        simp [Lib.byteCells, List.getElem?_eq_getElem hkl]
      have hy := a[k].toNat_lt
      obtain ⟨y, hye⟩ : ∃ y, a[k].toNat = y := ⟨_, rfl⟩
      rw [hye] at cx hy hld
      obtain ⟨x, hx⟩ : ∃ x, leN (a.drop (k + 1)) = x := ⟨_, rfl⟩
      rw [hx] at IK hld hlt
      have HLd := Lib.hid hld
      have wy : IntKind.i64.wrap (y : Int) = (y : Int) := IntWalk.i64_in _ (by omega)
      have ik32 : (k : Int) < 32 := by omega
      have hbx : (x : Int).natAbs < BIG := by rw [Int.natAbs_natCast]; exact big_lt x (Nat.lt_of_lt_of_le hlt (by decide +kernel))
      have hbx2 : ((x : Int) * ((2 ^ 8 : Nat) : Int)).natAbs < BIG := by
        rw [show (x : Int) * ((2 ^ 8 : Nat) : Int) = ((x * 256 : Nat) : Int) by push_cast; rfl, Int.natAbs_natCast]
        exact big_lt _ (by
          have : x * 256 < 2 ^ 256 * 256 := by omega
          exact Nat.lt_of_lt_of_le this (by decide +kernel))
      have hls := lsh_any g g 8 (x : Int) wr.drew (intV_shape IK.out) IK.out hbx (by decide)
      have x0 : Below W0.heap.size W0 wr.drew := BK.out.drew
      have HLs := Lib.hid hls
      have HBx2 := Lib.hid hbx2
      have X0 := Lib.hid x0
      clear hkl hld hlt hye hx hbx hbx2 hls x0
      have hab := ab W0
      go_upto_region 5 with (fail)
      refine wp_region_tree (.read 0 (.read 1 (.read 2 (.read 4 (.read 5 (.read 6 (.read 7 (.step 3 (.step 8 (.step 9 .done)))))))))) (fun W => ∃ x : Ab W0, W = x.val) (by kernel_rfl) (by kernel_rfl) (by decide) (fun _ _ d _ _ h => by cases d <;> exact h) (Cl.of X0.out) ?_
      iterate 7 (refine tree_read rfl (fun K hK => ?_); go_simp; refine hK _ ?_; clear hK K)
      clear cx hab
      refine tree_step rfl (Cl.of X0.out) (fun K hK => ?_)
      go_simp
      refine HLs.out.mono ?_
      clear HLs
      rintro e V1 ⟨rfl, i1, g1⟩
      have X1 := Lib.hid (X0.out.trans (grownBelow g1 (by have := HG.out; omega) X0.out.size))
      have HN := Lib.hid (newv_any y V1 (by omega))
      have I1 := Lib.hid i1
      refine hK _ _ ⟨Cl.of X1.out, ?_⟩
      clear hK K i1 g1
      refine tree_step rfl (Cl.of X1.out) (fun K hK => ?_)
      go_simp
      refine HN.out.mono ?_
      clear HN
      rintro e V2 ⟨rfl, i2, b2⟩
      have X2 := Lib.hid (X1.out.trans (b2.mono X1.out.size))
      have i12 := intV_below I1.out b2
      have HAd := Lib.hid (add_any g g V1.heap.size _ (y : Int) V2 (intV_shape i12) i12 i2 HBx2.out (by rw [Int.natAbs_natCast]; exact big_lt y (Nat.lt_of_lt_of_le hy (by decide +kernel))))
      refine hK _ _ ⟨Cl.of X2.out, ?_⟩
      clear hK K i2 b2 i12
      refine tree_step rfl (Cl.of X2.out) (fun K hK => ?_)
      go_simp
      refine HAd.out.mono ?_
      clear HAd
      rintro e V3 ⟨rfl, i3, g3⟩
      have X3 := Lib.hid (X2.out.trans (grownBelow g3 (by have := HG.out; omega) X2.out.size))
      have I3 : Hid (IntV V3 g (leN (a.drop k) : Int)) := Lib.hid (by
        rw [HLd.out, show ((y + 256 * x : Nat) : Int) = (x : Int) * ((2 ^ 8 : Nat) : Int) + (y : Int) by push_cast; omega]
        exact i3)
      refine hK _ _ ⟨Cl.of X3.out, ?_⟩
      clear hK K i3 g3
      refine tree_done ?_
      go_wp2
      go_roundw
      case rel => exact ⟨k, _, by omega, rfl, rfl, I3.out, X3.out⟩
      case measure => simp [intOf]
end Go.Proofs.YtfngomlknhappaaDoor.KBigW

/-
  The document's own field: KRight, KNum. Conditions: in each statement.
-/
namespace Go.Proofs.YtfngomlknhappaaDoor.KBigW
open Go.RowKit BytesW CellsW WordsW ArrW ArrG ArrL BigW BigNewW BigMulW BigM BigCmpW BigSetNW BigNegW BigAddW BigSubW BigQuoW BigModW BigLshW BigRshW BigU64W FieldM NumA

theorem a32_u : Tryd.prog.underlying 22 = some (.array 32 5) := by kernel_rfl
theorem a32_size : (Tryd.prog.info? 22).map (·.size) = some 32 := by kernel_rfl
theorem cmp_less (x y : Int) : decide (cmpI x y < 0) = decide (x < y) := by
  unfold cmpI
  by_cases h : x < y
  · rw [if_pos h, decide_eq_true h]; rfl
  · rw [if_neg h, decide_eq_false h]
    split <;> rfl
theorem byte_big {l : List UInt8} (h : l.length = 32) : leN l < BIG := big_lt _ (by
  have h1 := leN_lt l
  rw [h] at h1
  exact Nat.lt_of_lt_of_le h1 (by decide +kernel))

set_option maxHeartbeats 2000000 in
set_option maxRecDepth 100000 in
theorem kright_any (a : List UInt8) (h32 : a.length = 32) (w : World) : Calls Tryd.prog 13 #[.agg (Lib.byteCells a).toArray] w fun e w' => e = .returned (.bool (decide (leN a < P))) ∧ Below w.heap.size w w' := by
  have HL := Lib.hid h32
  obtain ⟨W0, hW0⟩ : ∃ W0, w.alloc (.cells (Lib.byteCells a).toArray 22) = W0 := ⟨_, rfl⟩
  obtain ⟨A0, B0, Z0⟩ := start1 hW0
  have HA := Lib.hid (show Arr W0 w.heap.size 22 (Lib.byteCells a) from A0)
  have HB0 := Lib.hid B0
  have HW0 := Lib.hid hW0
  have N32 := Lib.hid (show (Lib.byteCells a).length = 32 by rw [Lib.byteCells_length]; exact h32)
  have HK := Lib.hid (kbig_any a h32 W0)
  have hd : decide (cmpI (leN a : Int) (P : Int) < 0) = decide (leN a < P) := by
    rw [cmp_less]
    by_cases h : leN a < P
    · rw [decide_eq_true h, decide_eq_true (by omega)]
    · rw [decide_eq_false h, decide_eq_false (by omega)]
  have HD := Lib.hid hd
  clear A0 B0 Z0 hW0 hd
  go_enter Tryd.func13, Tryd.ntmps13
  go_upto_region 1 with (fail)
  rw [HW0.out]
  clear HW0
  go_wp2_with (show wpList _ _ _ (⟨_, Op.load _ _, _, _, _, _⟩ :: _) _ _; refine Arr.loadL HA.out rfl 22 (.tmp 1) rfl rfl a32_u rfl a32_size N32.out ?_)
  refine HK.out.mono ?_
  clear HK
  rintro e w1 ⟨g1, rfl, -, i1, b1⟩
  have HP := Lib.hid (kprime_any w1)
  have I1 := Lib.hid i1
  have B1 := Lib.hid (HB0.out.trans (b1.mono HB0.out.size))
  clear i1 b1
  go_wp2_with fail
  refine HP.out.mono ?_
  clear HP
  rintro e w2 ⟨g2, rfl, -, i2, b2⟩
  have HC := Lib.hid (cmp_any g1 g2 _ _ w2 (intV_below I1.out b2) i2 (by rw [Int.natAbs_natCast]; exact byte_big HL.out) (by rw [Int.natAbs_natCast]; exact P_big))
  have B2 := Lib.hid (B1.out.trans (b2.mono B1.out.size))
  clear i2 b2
  go_wp2_with fail
  refine HC.out.mono ?_
  clear HC
  rintro e w3 ⟨rfl, b3⟩
  have B3 := Lib.hid (B2.out.trans (b3.mono B2.out.size))
  clear b3
  obtain ⟨c, hc⟩ : ∃ c, cmpI (leN a : Int) (P : Int) = c := ⟨_, rfl⟩
  rw [hc] at HD ⊢
  clear hc
  go_wp2
  go_ret
  exact ⟨by rw [← HD.out]; rfl, B3.out⟩

/-- The first k bytes written. -/
def outT (m k : Nat) : List UInt8 := (ln m).take k ++ List.replicate (32 - k) 0
theorem outT_len (m k : Nat) (h : k ≤ 32) : (outT m k).length = 32 := by
  unfold outT
  rw [List.length_append, List.length_take, ln_len, List.length_replicate]; omega
theorem outT_set (m k : Nat) (h : k < 32) : (outT m k).set k (UInt8.ofNat (m / 256 ^ k)) = outT m (k + 1) := by
  unfold outT
  have h1 : ((ln m).take k).length = k := by rw [List.length_take, ln_len]; omega
  rw [List.set_append, if_neg (by omega), h1, Nat.sub_self, show 32 - k = (32 - (k + 1)) + 1 by omega, List.replicate_succ, List.set_cons_zero, List.take_succ_eq_append_getElem (by rw [ln_len]; exact h), List.append_assoc]
  congr 1
  simp [ln]
theorem outT_all (m : Nat) : outT m 32 = ln m := by
  unfold outT
  rw [List.take_of_length_le (by rw [ln_len]; exact Nat.le_refl _)]
  simp
theorem ulowv_any (g n : Nat) (w : World) (h : IntV w g (n : Int)) (bn : n < BIG) :
    Calls Tryd.prog 38 #[.pointer (some ⟨g, 0, none⟩)] w fun e w' => e = .returned (.int .u64 ((n % 18446744073709551616 : Nat) : Int)) ∧ w = w' := by
  obtain ⟨neg, d, hi, hv, -⟩ := h
  have e : n = dval d := by
    have h1 := congrArg Int.natAbs hv
    rw [sgn_abs, Int.natAbs_natCast] at h1
    exact h1
  subst e
  exact ulow_any g neg d w hi (by have := len_big hi.2.2 bn; omega)

set_option maxHeartbeats 4000000 in
set_option maxRecDepth 100000 in
theorem knum_any (gn : Nat) (z : Int) (w : World) (hn : IntV w gn z) (bz : z.natAbs < BIG) : Calls Tryd.prog 15 #[.pointer (some ⟨gn, 0, none⟩)] w fun e w' => e = .returned (.agg (Lib.byteCells (ln (z % (P : Int)).toNat)).toArray) ∧ Below w.heap.size w w' := by
  have HN := Lib.hid hn
  have BZ := Lib.hid bz
  have hm0 : 0 ≤ z % (P : Int) := Int.emod_nonneg _ (by have := NumF.P_pos; omega)
  have hmP : z % (P : Int) < (P : Int) := Int.emod_lt_of_pos _ (by have := NumF.P_pos; omega)
  obtain ⟨m, hm⟩ : ∃ m : Nat, z % (P : Int) = (m : Int) := ⟨(z % (P : Int)).toNat, by omega⟩
  rw [hm, Int.toNat_natCast]
  have HM := Lib.hid hm
  have HMP := Lib.hid (show m < P by omega)
  clear hn bz hm0 hmP hm
  go_enter Tryd.func15, Tryd.ntmps15
  go_upto_region 1 with (fail)
  generalize hW : World.alloc _ _ = W
  obtain ⟨a0, b0, z0⟩ := start1 hW
  have A0 : Hid (Arr W w.heap.size 22 (Lib.byteCells (List.replicate 32 0))) := Lib.hid a0
  have HB0 := Lib.hid b0
  have HZ0 := Lib.hid z0
  obtain ⟨g0, hg0⟩ : ∃ g0, w.heap.size = g0 := ⟨_, rfl⟩
  have HG0 := Lib.hid hg0
  rw [hg0] at A0 HZ0
  simp only [hg0]
  clear hW a0 b0 z0 hg0
  have HS1 := Lib.hid (zero_shape W)
  have HB1 := Lib.hid (zero_below W)
  unfold zeroObj at HS1 HB1
  obtain ⟨W1, hW1⟩ : ∃ W1, W.alloc (.cells #[.bool false, .slice none 0 0] 34) = W1 := ⟨_, rfl⟩
  rw [hW1] at HS1 HB1
  have HKp := Lib.hid (kprime_any W1)
  have HW1 := Lib.hid hW1
  clear hW1
  go_wp2_with fail
  rw [HW1.out]
  clear HW1
  refine HKp.out.mono ?_
  clear HKp
  rintro e w2 ⟨gp, rfl, -, i2, b2⟩
  have BW2 := Lib.hid (HB1.out.trans (b2.mono HB1.out.size))
  have X2 := Lib.hid (HB0.out.trans (BW2.out.mono HB0.out.size))
  have HMd := Lib.hid (mod_any W.heap.size gn gp z P w2 (shape_below HS1.out b2) (intV_below HN.out X2.out) i2 NumF.P_pos BZ.out P_big)
  rw [HM.out] at HMd
  clear i2 b2 HS1 HB1
  go_wp2_with fail
  refine HMd.out.mono ?_
  clear HMd
  rintro e w3 ⟨rfl, i3, g3⟩
  have X3 := Lib.hid (X2.out.trans (grownBelow g3 (by have := HB0.out.size; omega) X2.out.size))
  have A3 := Lib.hid ((A0.out.below (BW2.out) (A0.out.lt)).below (B := g0 + 1) (w' := w3) (w := w2) (grownBelow g3 (by have := HZ0.out; omega) (by have := BW2.out.size; have := HZ0.out; omega)) (by omega))
  obtain ⟨g1, hg1⟩ : ∃ g1, W.heap.size = g1 := ⟨_, rfl⟩
  rw [hg1] at i3 ⊢
  have I3 := Lib.hid i3
  clear i3 g3 hg1 BW2 X2 A0 HZ0 HB0 HN
  go_upto_region 3 with (fail)
  generalize hW4 : World.alloc _ _ = W4
  obtain ⟨a4, b4, z4⟩ := start1 hW4
  have A4 : Hid (Arr W4 w3.heap.size 22 (Lib.byteCells (outT m 0))) := Lib.hid a4
  have B4 := Lib.hid b4
  obtain ⟨go, hgo⟩ : ∃ go, w3.heap.size = go := ⟨_, rfl⟩
  have HGo := Lib.hid hgo
  rw [hgo] at A4
  simp only [hgo]
  clear a4 b4 z4 hW4 hgo
  go_wp2
  go_loopw [9] (fun vk wr => ∃ k : Nat, k ≤ 32 ∧ vk = .int .i64 (k : Int) ∧ Arr wr go 22 (Lib.byteCells (outT m k)) ∧ Below w3.heap.size w3 wr) (fun vk _ => 32 - (intOf vk).toNat)
  case atStart => exact ⟨0, by omega, rfl, A4.out, B4.out⟩
  case round =>
    clear A4 B4
    obtain ⟨k, hk, rfl, ak, bk⟩ := hrel
    have AK := Lib.hid ak
    have BK := Lib.hid bk
    clear ak bk
    by_cases hlt : k < 32
    · have ct : decide ((k : Int) < 32) = true := decide_eq_true (by omega)
      have hm256 : m < 2 ^ 255 := by have := HMP.out; have e : P ≤ 2 ^ 255 := by decide +kernel
                                     omega
      have hi4 := intV_below I3.out BK.out
      have hrs := rsh_any wr.heap.size g1 (8 * k) m (wr.alloc zeroObj) (zero_shape wr) (intV_below hi4 (zero_below wr)) (big_lt m (Nat.lt_of_lt_of_le hm256 (by decide +kernel))) (by omega)
      have hzb := zero_below wr
      unfold zeroObj at hrs hzb
      obtain ⟨sh, hsh⟩ : ∃ sh, 8 * k = sh := ⟨_, rfl⟩
      have hdiv : m / 2 ^ sh = m / 256 ^ k := by rw [← hsh, show (256 : Nat) = 2 ^ 8 from rfl, ← Nat.pow_mul]
      rw [hsh, hdiv] at hrs
      have wsh : IntKind.i64.wrap (8 * (k : Int)) = (sh : Int) := by rw [IntWalk.i64_in _ (by omega)]; omega
      have wsu : IntKind.u64.wrap (sh : Int) = (sh : Int) := IntWalk.u64_in _ (by omega)
      obtain ⟨v, hv⟩ : ∃ v, m / 256 ^ k = v := ⟨_, rfl⟩
      have hset := outT_set m k hlt
      obtain ⟨y, hy⟩ : ∃ y, UInt8.ofNat (m / 256 ^ k) = y := ⟨_, rfl⟩
      rw [hy] at hset
      have hvl : v < BIG := by rw [← hv]; exact big_lt _ (Nat.lt_of_le_of_lt (Nat.div_le_self _ _) (Nat.lt_of_lt_of_le hm256 (by decide +kernel)))
      have wy : IntKind.u8.wrap ((v % 18446744073709551616 : Nat) : Int) = (y.toNat : Int) := by rw [← hy, hv, UInt8.toNat_ofNat', IntKind.wrap_u8]; omega
      rw [hv] at hrs
      obtain ⟨vv, hvv⟩ : ∃ vv, v % 18446744073709551616 = vv := ⟨_, rfl⟩
      rw [hvv] at wy
      have HRs := Lib.hid hrs
      have HZb := Lib.hid hzb
      have HSet := Lib.hid hset
      have HVl := Lib.hid hvl
      have HVv := Lib.hid hvv
      have hvvl : vv < 18446744073709551616 := by rw [← hvv]; exact Nat.mod_lt _ (by decide)
      have wy2 : (vv : Int) % 256 = (y.toNat : Int) := by rw [← wy, IntKind.wrap_u8]
      have ik : (k : Int) < 32 := by omega
      have hgow : go ≤ wr.heap.size := by have := BK.out.size; have := HGo.out; omega
      have HGw := Lib.hid hgow
      have hszb : (wr.alloc (.cells #[.bool false, .slice none 0 0] 34)).heap.size = wr.heap.size + 1 := by simp
      have HSzb := Lib.hid hszb
      clear hm256 hi4 hrs hzb hsh hdiv hv hset hy hvl hvv hgow hszb
      go_wp2_with fail
      refine HRs.out.mono ?_
      clear HRs
      rintro e w5 ⟨rfl, i5, g5⟩
      have hb5 : Below wr.heap.size wr w5 := HZb.out.trans (grownBelow g5 (Nat.le_refl _) (by have := HSzb.out; omega))
      have HU := Lib.hid (ulowv_any wr.heap.size v w5 i5 HVl.out)
      rw [HVv.out] at HU
      have A5 := AK.out.below hb5 AK.out.lt
      have B5 := Lib.hid (BK.out.trans (hb5.mono BK.out.size))
      have co := A5.cell k
      rw [show (Lib.byteCells (outT m k))[k]? = some (.int .u8 (((outT m k).getD k 0).toNat : Int)) by simp [Lib.byteCells, List.getD_eq_getElem?_getD, List.getElem?_eq_getElem (show k < (outT m k).length by rw [outT_len m k hk]; exact hlt)]] at co
      have fo := A5.frozen k
      generalize (outT m k).getD k 0 = old at co
      have an := A5.set k (.int .u8 (y.toNat : Int))
      rw [show (Lib.byteCells (outT m k)).set k (.int .u8 (y.toNat : Int)) = Lib.byteCells ((outT m k).set k y) by simp [Lib.byteCells, List.map_set], HSet.out] at an
      have AN := Lib.hid an
      have BN := Lib.hid (B5.out.trans (grownBelow (grownSet w5 go k (.int .u8 (y.toNat : Int))) (by have := HGo.out; omega) B5.out.size))
      clear i5 g5 hb5 A5 an
      go_wp2_with fail
      refine HU.out.mono ?_
      clear HU
      rintro e w6 ⟨rfl, rfl⟩
      go_wp2
      go_roundw
      case rel => exact ⟨k + 1, by omega, by go_num, AN.out, BN.out⟩
      case measure => simp [intOf]; omega
    · obtain rfl : k = 32 := by omega
      have ct : decide (((32 : Nat) : Int) < 32) = false := rfl
      have af := AK.out
      rw [outT_all] at af
      have AF := Lib.hid af
      have N32 := Lib.hid (show (Lib.byteCells (ln m)).length = 32 by rw [Lib.byteCells_length, ln_len])
      have N0 := Lib.hid (show (Lib.byteCells (List.replicate 32 (0 : UInt8))).length = 32 by rw [Lib.byteCells_length]; rfl)
      have A0r := Lib.hid (A3.out.below BK.out A3.out.lt)
      have AZ := Lib.hid (A0r.out.row (Lib.byteCells (ln m)))
      have BZ2 := Lib.hid (below_row (X3.out.trans (BK.out.mono X3.out.size)) (show w.heap.size ≤ g0 by rw [HG0.out]; exact Nat.le_refl _) (Lib.byteCells (ln m)).toArray)
      clear af AK
      go_wp2_with (first | (show wpList _ _ _ (⟨_, Op.load _ _, _, _, _, _⟩ :: _) _ _; refine Arr.loadL AF.out rfl 22 (.tmp 3) rfl rfl a32_u rfl a32_size N32.out ?_) | (show wpList _ _ _ (⟨_, Op.store _ _ _, _, _, _, _⟩ :: _) _ _; refine Arr.storeL A0r.out rfl 22 (.tmp 2) (.tmp 23) rfl rfl (Lib.byteCells (ln m)) rfl a32_size N0.out N32.out (bytes_one _) ?_))
      refine bodyPost_ret (v := .agg (Lib.byteCells (ln m)).toArray) (by exact AZ.out.ret rfl _ rfl a32_u rfl a32_size N32.out) rfl ⟨rfl, BZ2.out⟩
end Go.Proofs.YtfngomlknhappaaDoor.KBigW

/-
  The document's own field: KPow, KInv, KRoot. Conditions: in each statement.
-/
namespace Go.Proofs.YtfngomlknhappaaDoor.KBigW
open Go.RowKit BytesW CellsW WordsW ArrW ArrG ArrL BigW BigNewW BigMulW BigM BigCmpW BigSetNW BigNegW BigAddW BigSubW BigQuoW BigModW BigLshW BigRshW BigBitW BigU64W FieldM NumA

theorem pow_next (x n j P : Nat) : x ^ (n / 2 ^ j) % P = (x ^ (n / 2 ^ (j + 1)) % P * (x ^ (n / 2 ^ (j + 1)) % P) % P) * x ^ (n / 2 ^ j % 2) % P := by
  have e : n / 2 ^ j = n / 2 ^ (j + 1) + n / 2 ^ (j + 1) + n / 2 ^ j % 2 := by
    rw [Nat.pow_succ, ← Nat.div_div_eq_div_mul]
    omega
  conv => lhs; rw [e, Nat.pow_add, Nat.pow_add]
  simp only [Nat.mul_mod, Nat.mod_mod]
theorem P_sq (a b : Nat) (ha : a < P) (hb : b < P) : a * b < BIG := by
  have h : a * b ≤ P * P := Nat.mul_le_mul (by omega) (by omega)
  exact Nat.lt_of_le_of_lt h (by decide +kernel)
theorem int_mod (a b : Nat) : ((a : Int) * (b : Int)) % (P : Int) = ((a * b % P : Nat) : Int) := by push_cast; rfl

theorem two_mono {a b : Nat} (h : a ≤ b) : 2 ^ a ≤ 2 ^ b := Nat.pow_le_pow_right (by decide) h

set_option maxHeartbeats 4000000 in
set_option maxRecDepth 100000 in
theorem kpow_any (ga gn x n : Nat) (w : World) (ha : IntV w ga (x : Int)) (hn : IntV w gn (n : Int)) (hx : x < P) (bn : n < BIG) : Calls Tryd.prog 47 #[.pointer (some ⟨ga, 0, none⟩), .pointer (some ⟨gn, 0, none⟩)] w (FreshV ((x ^ n % P : Nat) : Int) w) := by
  have HA := Lib.hid ha
  have HN := Lib.hid hn
  have HX := Lib.hid hx
  have BN := Lib.hid bn
  have H1 := Lib.hid (newv_any 1 w (by decide))
  clear ha hn hx bn
  go_enter Tryd.func47, Tryd.ntmps47
  go_wp2_with fail
  refine H1.out.mono ?_
  clear H1
  rintro e w1 ⟨rfl, i1, b1⟩
  have I1 := Lib.hid i1
  have B1 := Lib.hid b1
  have HBl := Lib.hid (bitlen_any gn n w1 (intV_below HN.out b1) BN.out)
  obtain ⟨g, hg⟩ : ∃ g, w.heap.size = g := ⟨_, rfl⟩
  have HG := Lib.hid hg
  rw [hg] at I1 ⊢
  clear i1 b1 hg
  go_wp2_with fail
  refine HBl.out.mono ?_
  clear HBl
  rintro e w2 ⟨⟨N, rfl, hN1, hN2⟩, b2⟩
  have hNb : N ≤ 40000 := by
    rcases Nat.eq_zero_or_pos N with h | h
    · omega
    · have h3 := hN2 h
      apply Classical.byContradiction
      intro hc
      have h40 : 32768 ≤ N - 1 := by omega
      have h4 := two_mono h40
      have h5 : BIG ≤ 2 ^ 32768 := by decide +kernel
      exact Nat.lt_irrefl _ (Nat.lt_of_lt_of_le BN.out (Nat.le_trans h5 (Nat.le_trans h4 h3)))
  have hst : x ^ (n / 2 ^ N) % P = 1 := by rw [Nat.div_eq_of_lt hN1, Nat.pow_zero]; decide +kernel
  have I2 : Hid (IntV w2 g ((x ^ (n / 2 ^ N) % P : Nat) : Int)) := Lib.hid (by rw [hst]; exact intV_below I1.out b2)
  have B2 := Lib.hid (B1.out.trans (b2.mono B1.out.size))
  have eN : IntKind.i64.wrap ((N : Int) - 1) = (N : Int) - 1 := IntWalk.i64_in _ (by omega)
  clear hN1 hN2 b2 hst I1 B1
  go_wp2
  go_loopw [6] (fun vk wr => ∃ (k : Nat) (ix : Int), k ≤ N ∧ ix = (k : Int) - 1 ∧ vk = .int .i64 ix ∧ IntV wr g ((x ^ (n / 2 ^ k) % P : Nat) : Int) ∧ Below w.heap.size w wr) (fun vk _ => (intOf vk + 1).toNat)
  case atStart => exact ⟨N, _, by omega, rfl, rfl, I2.out, B2.out⟩
  case round =>
    clear I2 B2
    obtain ⟨k, ix, hk, hix, rfl, ik, bk⟩ := hrel
    have IK := Lib.hid ik
    have BK := Lib.hid bk
    clear ik bk
    cases k with
    | zero =>
      obtain rfl : ix = -1 := by omega
      clear hix
      go_wp2
      go_ret
      have h := IK.out
      rw [Nat.pow_zero, Nat.div_one] at h
      exact ⟨g, rfl, by have := HG.out; omega, h, BK.out⟩
    | succ j =>
      obtain rfl : ix = (j : Int) := by omega
      clear hix
      have hpn := pow_next x n j P
      have hal : x ^ (n / 2 ^ (j + 1)) % P < P := Nat.mod_lt _ NumF.P_pos
      obtain ⟨A, hA⟩ : ∃ A, x ^ (n / 2 ^ (j + 1)) % P = A := ⟨_, rfl⟩
      rw [hA] at IK hpn hal
      have HPn := Lib.hid hpn
      have HAl := Lib.hid hal
      have hmu := mulv_any g g g (A : Int) (A : Int) wr (intV_shape IK.out) IK.out IK.out (by rw [Int.natAbs_natCast]; exact Nat.lt_trans hal P_big) (by rw [Int.natAbs_natCast]; exact Nat.lt_trans hal P_big)
      have HMu := Lib.hid hmu
      clear hpn hal hA hmu
      go_wp2_with fail
      refine HMu.out.mono ?_
      clear HMu
      rintro e w3 ⟨rfl, i3, g3⟩
      have HKp := Lib.hid (kprime_any w3)
      have I3 := Lib.hid i3
      have X3 := Lib.hid (BK.out.trans (grownBelow g3 (by have := HG.out; omega) BK.out.size))
      clear i3 g3 IK BK
      go_wp2_with fail
      refine HKp.out.mono ?_
      clear HKp
      rintro e w4 ⟨gp, rfl, -, i4, b4⟩
      have i34 := intV_below I3.out b4
      have hmd := mod_any g g gp _ P w4 (intV_shape i34) i34 i4 NumF.P_pos (by rw [← Int.natCast_mul, Int.natAbs_natCast]; exact P_sq A A HAl.out HAl.out) P_big
      rw [int_mod] at hmd
      have HMd := Lib.hid hmd
      have X4 := Lib.hid (X3.out.trans (b4.mono X3.out.size))
      clear i4 b4 i34 hmd I3 X3
      go_wp2_with fail
      refine HMd.out.mono ?_
      clear HMd
      rintro e w5 ⟨rfl, i5, g5⟩
      have I5 := Lib.hid i5
      have X5 := Lib.hid (X4.out.trans (grownBelow g5 (by have := HG.out; omega) X4.out.size))
      clear i5 g5 X4
      have hq : A * A % P < P := Nat.mod_lt _ NumF.P_pos
      obtain ⟨q, hqe⟩ : ∃ q, A * A % P = q := ⟨_, rfl⟩
      rw [hqe] at HPn I5 hq
      have HQ := Lib.hid hq
      have HBt := Lib.hid (bit_any gn j n w5 (intV_below HN.out X5.out) BN.out (by omega))
      have hb01 : n / 2 ^ j % 2 = 0 ∨ n / 2 ^ j % 2 = 1 := by omega
      obtain ⟨bb, hbb⟩ : ∃ bb, n / 2 ^ j % 2 = bb := ⟨_, rfl⟩
      rw [hbb] at HPn HBt hb01
      clear hqe hq hbb HAl
      go_wp2_with fail
      refine HBt.out.mono ?_
      clear HBt
      rintro e w6 ⟨rfl, b6⟩
      have I6 := Lib.hid (intV_below I5.out b6)
      have X6 := Lib.hid (X5.out.trans (b6.mono X5.out.size))
      clear b6 I5 X5
      rcases hb01 with rfl | rfl
      · have IN : Hid (IntV w6 g ((x ^ (n / 2 ^ j) % P : Nat) : Int)) := Lib.hid (by
          rw [HPn.out, Nat.pow_zero, Nat.mul_one, Nat.mod_eq_of_lt HQ.out]
          exact I6.out)
        clear HPn I6 HQ
        go_wp2
        go_roundw
        case rel => exact ⟨j, _, by omega, rfl, rfl, IN.out, X6.out⟩
        case measure => simp [intOf]
      · have hmu := mulv_any g g ga (q : Int) (x : Int) w6 (intV_shape I6.out) I6.out (intV_below HA.out X6.out) (by rw [Int.natAbs_natCast]; exact Nat.lt_trans HQ.out P_big) (by rw [Int.natAbs_natCast]; exact Nat.lt_trans HX.out P_big)
        have HMu := Lib.hid hmu
        clear hmu I6
        go_wp2_with fail
        refine HMu.out.mono ?_
        clear HMu
        rintro e w7 ⟨rfl, i7, g7⟩
        have HKp := Lib.hid (kprime_any w7)
        have I7 := Lib.hid i7
        have X7 := Lib.hid (X6.out.trans (grownBelow g7 (by have := HG.out; omega) X6.out.size))
        clear i7 g7 X6
        go_wp2_with fail
        refine HKp.out.mono ?_
        clear HKp
        rintro e w8 ⟨gp2, rfl, -, i8, b8⟩
        have i78 := intV_below I7.out b8
        have hmd := mod_any g g gp2 _ P w8 (intV_shape i78) i78 i8 NumF.P_pos (by rw [← Int.natCast_mul, Int.natAbs_natCast]; exact P_sq q x HQ.out HX.out) P_big
        rw [int_mod] at hmd
        have HMd := Lib.hid hmd
        have X8 := Lib.hid (X7.out.trans (b8.mono X7.out.size))
        clear i8 b8 i78 hmd I7 X7
        go_wp2_with fail
        refine HMd.out.mono ?_
        clear HMd
        rintro e w9 ⟨rfl, i9, g9⟩
        have IN : Hid (IntV w9 g ((x ^ (n / 2 ^ j) % P : Nat) : Int)) := Lib.hid (by
          rw [HPn.out, Nat.pow_one]
          exact i9)
        have X9 := Lib.hid (X8.out.trans (grownBelow g9 (by have := HG.out; omega) X8.out.size))
        clear i9 g9 X8 HPn HQ
        go_wp2
        go_roundw
        case rel => exact ⟨j, _, by omega, rfl, rfl, IN.out, X9.out⟩
        case measure => simp [intOf]

set_option maxHeartbeats 2000000 in
set_option maxRecDepth 100000 in
theorem kinv_any (ga x : Nat) (w : World) (ha : IntV w ga (x : Int)) (hx : x < P) : Calls Tryd.prog 22 #[.pointer (some ⟨ga, 0, none⟩)] w (FreshV ((x ^ (P - 2) % P : Nat) : Int) w) := by
  have HA := Lib.hid ha
  have HX := Lib.hid hx
  have HS0 := Lib.hid (zero_shape w)
  have HB0 := Lib.hid (zero_below w)
  unfold zeroObj at HS0 HB0
  obtain ⟨W0, hW0⟩ : ∃ W0, w.alloc (.cells #[.bool false, .slice none 0 0] 34) = W0 := ⟨_, rfl⟩
  rw [hW0] at HS0 HB0
  have HW0 := Lib.hid hW0
  have HKp := Lib.hid (kprime_any W0)
  clear ha hx hW0
  go_enter Tryd.func22, Tryd.ntmps22
  go_wp2_with fail
  rw [HW0.out]
  clear HW0
  refine HKp.out.mono ?_
  clear HKp
  rintro e w1 ⟨gp, rfl, -, i1, b1⟩
  have HNw := Lib.hid (newv_any 2 w1 (by decide))
  have I1 := Lib.hid i1
  have X1 := Lib.hid (HB0.out.trans (b1.mono HB0.out.size))
  have S1 := Lib.hid (shape_below HS0.out b1)
  clear i1 b1 HS0 HB0
  go_wp2_with fail
  refine HNw.out.mono ?_
  clear HNw
  rintro e w2 ⟨rfl, i2, b2⟩
  have hsb := sub_any w.heap.size gp w1.heap.size (P : Int) 2 w2 (shape_below S1.out b2) (intV_below I1.out b2) i2 (by rw [Int.natAbs_natCast]; exact P_big) (by decide +kernel)
  have h2P : 2 ≤ P := by decide +kernel
  rw [show (P : Int) - 2 = ((P - 2 : Nat) : Int) by omega] at hsb
  clear h2P
  have HSb := Lib.hid hsb
  have X2 := Lib.hid (X1.out.trans (b2.mono X1.out.size))
  clear i2 b2 hsb I1 X1 S1
  obtain ⟨E, hE⟩ : ∃ E, P - 2 = E := ⟨_, rfl⟩
  have hEP : E < BIG := by rw [← hE]; exact Nat.lt_of_le_of_lt (Nat.sub_le _ _) P_big
  have HE := Lib.hid hE
  rw [hE] at HSb
  clear hE
  go_wp2_with fail
  refine HSb.out.mono ?_
  clear HSb
  rintro e w3 ⟨rfl, i3, g3⟩
  have X3 := Lib.hid (X2.out.trans (grownBelow g3 (Nat.le_refl _) X2.out.size))
  have HPw := Lib.hid (kpow_any ga w.heap.size x E w3 (intV_below HA.out X3.out) i3 HX.out hEP)
  clear i3 g3 X2 hEP
  go_wp2_with fail
  refine HPw.out.mono ?_
  clear HPw
  rintro e w4 ⟨g, rfl, hg, i4, b4⟩
  have I4 := Lib.hid i4
  have X4 := Lib.hid (X3.out.trans (b4.mono X3.out.size))
  have HGs := Lib.hid (Nat.le_trans X3.out.size hg)
  clear i4 b4 hg X3
  go_wp2
  go_ret
  rw [HE.out]
  exact ⟨g, rfl, HGs.out, I4.out, X4.out⟩
end Go.Proofs.YtfngomlknhappaaDoor.KBigW

/-
  The document's own field: KRoot. Conditions: in the statement.
-/
namespace Go.Proofs.YtfngomlknhappaaDoor.KBigW
open Go.RowKit BytesW CellsW WordsW ArrW ArrG ArrL BigW BigNewW BigMulW BigM BigCmpW BigSetNW BigNegW BigAddW BigSubW BigQuoW BigModW BigLshW BigRshW BigBitW BigU64W FieldM NumA NumF

/-- A new number, or none. -/
def RootPost (o : Option F) (w : World) (e : Ending) (w' : World) : Prop := match o with
  | some r => FreshV (r.val : Int) w e w'
  | none => e = .returned (.pointer none) ∧ Below w.heap.size w w'
theorem root_some {r : F} {w w' : World} {e : Ending} (h : FreshV (r.val : Int) w e w') : RootPost (some r) w e w' := h
theorem root_none {w w' : World} {e : Ending} (h : e = .returned (.pointer none) ∧ Below w.heap.size w w') : RootPost none w e w' := h
theorem cmpI_zero (x y : Nat) : (cmpI (x : Int) (y : Int) == 0) = decide (x = y) := by
  unfold cmpI
  by_cases h : (x : Int) < (y : Int)
  · rw [if_pos h, decide_eq_false (by omega)]; rfl
  · rw [if_neg h]
    by_cases h2 : (x : Int) = (y : Int)
    · rw [if_pos h2, decide_eq_true (by omega)]; rfl
    · rw [if_neg h2, decide_eq_false (by omega)]; rfl
theorem nat_abs_lt {n : Nat} (h : n < BIG) : (n : Int).natAbs < BIG := by rw [Int.natAbs_natCast]; exact h
theorem val_big (r : F) : ((r.val : Int)).natAbs < BIG := nat_abs_lt (Nat.lt_trans r.isLt P_big)

set_option maxHeartbeats 4000000 in
set_option maxRecDepth 100000 in
theorem kroot_any (ga x : Nat) (w : World) (ha : IntV w ga (x : Int)) (hx : x < P) : Calls Tryd.prog 23 #[.pointer (some ⟨ga, 0, none⟩)] w (RootPost (rootF (el x)) w) := by
  have HA := Lib.hid ha
  have HX := Lib.hid hx
  have HXv := Lib.hid (show (el x).val = x from Nat.mod_eq_of_lt hx)
  obtain ⟨a, hae⟩ : ∃ a, el x = a := ⟨_, rfl⟩
  rw [hae] at HXv ⊢
  have HS0 := Lib.hid (zero_shape w)
  have HB0 := Lib.hid (zero_below w)
  unfold zeroObj at HS0 HB0
  obtain ⟨W0, hW0⟩ : ∃ W0, w.alloc (.cells #[.bool false, .slice none 0 0] 34) = W0 := ⟨_, rfl⟩
  rw [hW0] at HS0 HB0
  have HW0 := Lib.hid hW0
  have HKp := Lib.hid (kprime_any W0)
  obtain ⟨gn, hgn⟩ : ∃ gn, w.heap.size = gn := ⟨_, rfl⟩
  have HGn := Lib.hid hgn
  rw [hgn] at HS0
  clear ha hx hW0 hae
  go_enter Tryd.func23, Tryd.ntmps23
  go_wp2_with fail
  rw [HW0.out]
  clear HW0
  refine HKp.out.mono ?_
  clear HKp
  rintro e w1 ⟨gp, rfl, -, i1, b1⟩
  have HNw := Lib.hid (newv_any 3 w1 (by decide))
  have I1 := Lib.hid i1
  have X1 := Lib.hid (HB0.out.trans (b1.mono HB0.out.size))
  have S1 := Lib.hid (shape_below HS0.out b1)
  clear i1 b1 HS0 HB0
  go_wp2_with fail
  refine HNw.out.mono ?_
  clear HNw
  rintro e w2 ⟨rfl, i2, b2⟩
  have hsb := add_any gn gp w1.heap.size (P : Int) 3 w2 (shape_below S1.out b2) (intV_below I1.out b2) i2 (nat_abs_lt P_big) (by decide +kernel)
  rw [show (P : Int) + 3 = ((P + 3 : Nat) : Int) by omega] at hsb
  have HSb := Lib.hid hsb
  have X2 := Lib.hid (X1.out.trans (b2.mono X1.out.size))
  clear i2 b2 hsb I1 X1 S1
  try rw [hgn]
  clear hgn
  go_wp2_with fail
  refine HSb.out.mono ?_
  clear HSb
  rintro e w3 ⟨rfl, i3, g3⟩
  have X3 := Lib.hid (X2.out.trans (grownBelow g3 (by have := HGn.out; omega) X2.out.size))
  have hrs := rsh_any gn gn 3 (P + 3) w3 (intV_shape i3) i3 (by decide +kernel) (by decide)
  rw [show (P + 3) / 2 ^ 3 = E8 by decide +kernel] at hrs
  have HRs := Lib.hid hrs
  clear i3 g3 hrs X2
  go_wp2_with fail
  refine HRs.out.mono ?_
  clear HRs
  rintro e w4 ⟨rfl, i4, g4⟩
  have X4 := Lib.hid (X3.out.trans (grownBelow g4 (by have := HGn.out; omega) X3.out.size))
  have hpw := kpow_any ga gn x E8 w4 (intV_below HA.out X4.out) i4 HX.out (by decide +kernel)
  rw [show x ^ E8 % P = (rk a 0).val by rw [rk_zero, fp_val, HXv.out]] at hpw
  have HPw := Lib.hid hpw
  clear i4 g4 hpw X3
  go_wp2_with fail
  refine HPw.out.mono ?_
  clear HPw
  rintro e w5 ⟨gr, rfl, hgr, i5, b5⟩
  have X5 := Lib.hid (X4.out.trans (b5.mono X4.out.size))
  have I5 := Lib.hid i5
  have GR := Lib.hid (Nat.le_trans X4.out.size hgr)
  clear hgr i5 b5 X4
  have HS6 := Lib.hid (zero_shape w5)
  have HB6 := Lib.hid (zero_below w5)
  unfold zeroObj at HS6 HB6
  obtain ⟨w6, hw6⟩ : ∃ w6, w5.alloc (.cells #[.bool false, .slice none 0 0] 34) = w6 := ⟨_, rfl⟩
  rw [hw6] at HS6 HB6
  have HW6 := Lib.hid hw6
  have HKp := Lib.hid (kprime_any w6)
  obtain ⟨gq, hgq⟩ : ∃ gq, w5.heap.size = gq := ⟨_, rfl⟩
  have HGq := Lib.hid (show w.heap.size ≤ gq by have := X5.out.size; omega)
  have HGrq := Lib.hid (show gr < gq by have := intV_lt I5.out; omega)
  have X6 := Lib.hid (X5.out.trans (HB6.out.mono X5.out.size))
  have I6 := Lib.hid (intV_below I5.out HB6.out)
  rw [hgq] at HS6
  clear hw6 X5 I5 HB6
  go_wp2_with fail
  rw [HW6.out]
  clear HW6
  refine HKp.out.mono ?_
  clear HKp
  rintro e w7 ⟨gp7, rfl, -, i7, b7⟩
  have HNw := Lib.hid (newv_any 1 w7 (by decide))
  have I7 := Lib.hid i7
  have J7 := Lib.hid (intV_below I6.out b7)
  have X7 := Lib.hid (X6.out.trans (b7.mono X6.out.size))
  have S7 := Lib.hid (shape_below HS6.out b7)
  clear i7 b7 HS6 I6 X6
  go_wp2_with fail
  refine HNw.out.mono ?_
  clear HNw
  rintro e w8 ⟨rfl, i8, b8⟩
  have hsb := sub_any gq gp7 w7.heap.size (P : Int) 1 w8 (shape_below S7.out b8) (intV_below I7.out b8) i8 (nat_abs_lt P_big) (by decide +kernel)
  have h1P : 1 ≤ P := by decide +kernel
  rw [show (P : Int) - 1 = ((P - 1 : Nat) : Int) by omega] at hsb
  have HSb := Lib.hid hsb
  have X8 := Lib.hid (X7.out.trans (b8.mono X7.out.size))
  have J8 := Lib.hid (intV_below J7.out b8)
  have S8 := Lib.hid (shape_below S7.out b8)
  clear i8 b8 hsb I7 X7 S7 J7 h1P
  try rw [hgq]
  clear hgq
  go_wp2_with fail
  refine HSb.out.mono ?_
  clear HSb
  rintro e w9 ⟨rfl, i9, g9⟩
  have X9 := Lib.hid (X8.out.trans (grownBelow g9 HGq.out X8.out.size))
  have J9 := Lib.hid (intV_keep J8.out S8.out g9 (by have := HGrq.out; omega))
  have I9 := Lib.hid i9
  have HNw := Lib.hid (newv_any 2 w9 (by decide))
  clear i9 g9 X8 J8 S8
  go_wp2_with fail
  refine HNw.out.mono ?_
  clear HNw
  rintro e w10 ⟨rfl, i10, b10⟩
  have X10 := Lib.hid (X9.out.trans (b10.mono X9.out.size))
  have J10 := Lib.hid (intV_below J9.out b10)
  have i910 := intV_below I9.out b10
  have S10 := Lib.hid (intV_shape i910)
  have hrs := rsh_any gq gq 2 (P - 1) w10 (intV_shape i910) i910 (by decide +kernel) (by decide)
  rw [show (P - 1) / 2 ^ 2 = Q4 by decide +kernel] at hrs
  have HRs := Lib.hid hrs
  have I10 := Lib.hid i10
  have hg2 := intV_lt I9.out
  have HG2 := Lib.hid (show w9.heap.size ≠ gq by omega)
  clear i10 b10 i910 hrs hg2 X9 J9 I9
  go_wp2_with fail
  refine HRs.out.mono ?_
  clear HRs
  rintro e w11 ⟨rfl, i11, g11⟩
  have X11 := Lib.hid (X10.out.trans (grownBelow g11 HGq.out X10.out.size))
  have J11 := Lib.hid (intV_keep J10.out S10.out g11 (by have := HGrq.out; omega))
  have K11 := intV_keep I10.out S10.out g11 HG2.out
  have hpw := kpow_any w9.heap.size gq 2 Q4 w11 K11 i11 (by decide +kernel) (by decide +kernel)
  rw [show 2 ^ Q4 % P = I4.val by rw [← I4_fp, fp_val, two_val]] at hpw
  have HPw := Lib.hid hpw
  clear i11 g11 K11 hpw X10 J10 I10 S10 HG2
  go_wp2_with fail
  refine HPw.out.mono ?_
  clear HPw
  rintro e w12 ⟨gi, rfl, hgi, i12, b12⟩
  have X12 := Lib.hid (X11.out.trans (b12.mono X11.out.size))
  have J12 := Lib.hid (intV_below J11.out b12)
  have I12 := Lib.hid i12
  clear hgi i12 b12 X11 J11
  go_wp2
  go_loopw [26, 4] (fun vk vr wr => ∃ (k g : Nat), k ≤ 2 ∧ vk = .int .i64 (k : Int) ∧ vr = .pointer (some ⟨g, 0, none⟩) ∧ w.heap.size ≤ g ∧ IntV wr g ((rk a k).val : Int) ∧ (∀ j, j < k → rk a j * rk a j ≠ a) ∧ Below w12.heap.size w12 wr) (fun vk _ _ => 2 - (intOf vk).toNat)
  case atStart => exact ⟨0, gr, by omega, rfl, rfl, GR.out, J12.out, fun j h => absurd h (by omega), Below.refl _ _⟩
  case round =>
    obtain ⟨k, g, hk, rfl, rfl, hgg, ik, hne, bk⟩ := hrel
    have IK := Lib.hid ik
    have BK := Lib.hid bk
    have NE := Lib.hid hne
    have GG := Lib.hid hgg
    clear ik bk hne hgg
    by_cases hlt : k < 2
    · have ct : decide ((k : Int) < 2) = true := decide_eq_true (by omega)
      obtain ⟨r, hr⟩ : ∃ r, rk a k = r := ⟨_, rfl⟩
      have HRk := Lib.hid hr
      rw [hr] at IK
      have HSm := Lib.hid (zero_shape wr)
      have HBm := Lib.hid (zero_below wr)
      have hmu := mulv_any wr.heap.size g g (r.val : Int) (r.val : Int) (wr.alloc zeroObj) (zero_shape wr) (intV_below IK.out (zero_below wr)) (intV_below IK.out (zero_below wr)) (val_big r) (val_big r)
      unfold zeroObj at HSm HBm hmu
      have HMu := Lib.hid hmu
      have hszb : (wr.alloc (.cells #[.bool false, .slice none 0 0] 34)).heap.size = wr.heap.size + 1 := by simp
      have HSzb := Lib.hid hszb
      clear hr hmu hszb
      go_wp2_with fail
      refine HMu.out.mono ?_
      clear HMu
      rintro e v1 ⟨rfl, i1, g1⟩
      have Y1 := Lib.hid (HBm.out.trans (grownBelow g1 (Nat.le_refl _) (by have := HSzb.out; omega)))
      have I1 := Lib.hid i1
      have HKp := Lib.hid (kprime_any v1)
      clear i1 g1 HSm HBm HSzb
      go_wp2_with fail
      refine HKp.out.mono ?_
      clear HKp
      rintro e v2 ⟨gp2, rfl, -, i2, b2⟩
      have Y2 := Lib.hid (Y1.out.trans (b2.mono Y1.out.size))
      have i12' := intV_below I1.out b2
      have hmd := mod_any wr.heap.size wr.heap.size gp2 _ P v2 (intV_shape i12') i12' i2 NumF.P_pos (by rw [← Int.natCast_mul]; exact nat_abs_lt (P_sq r.val r.val r.isLt r.isLt)) P_big
      rw [int_mod, ← val_mul r r] at hmd
      have HMd := Lib.hid hmd
      clear i2 b2 i12' hmd I1 Y1
      go_wp2_with fail
      refine HMd.out.mono ?_
      clear HMd
      rintro e v3 ⟨rfl, i3, g3⟩
      have Y3 := Lib.hid (Y2.out.trans (grownBelow g3 (Nat.le_refl _) Y2.out.size))
      have Z3 := Lib.hid (X12.out.trans ((BK.out.trans (Y3.out.mono BK.out.size)).mono X12.out.size))
      have HCm := Lib.hid (cmp_any wr.heap.size ga _ (x : Int) v3 i3 (intV_below HA.out Z3.out) (val_big _) (nat_abs_lt (Nat.lt_trans HX.out P_big)))
      have hcz := cmpI_zero (r * r).val x
      obtain ⟨c, hc⟩ : ∃ c, cmpI ((r * r).val : Int) (x : Int) = c := ⟨_, rfl⟩
      rw [hc] at hcz HCm
      clear i3 g3 hc Y2 Z3
      go_wp2_with fail
      refine HCm.out.mono ?_
      clear HCm
      rintro e v4 ⟨rfl, b4⟩
      have Y4 := Lib.hid (Y3.out.trans (b4.mono Y3.out.size))
      have Z4 := Lib.hid (BK.out.trans (Y4.out.mono BK.out.size))
      have I4' := Lib.hid (intV_below IK.out Y4.out)
      clear b4 Y3 IK BK
      by_cases hrr : r * r = a
      · have hce : (c == 0) = true := by rw [hcz]; exact decide_eq_true (by rw [hrr, HXv.out])
        have hroot := rootF_hit hlt NE.out (by rw [HRk.out]; exact hrr)
        rw [HRk.out] at hroot
        have hev := even_val r
        have HRoot := Lib.hid hroot
        have HEv := Lib.hid hev
        have hbt := bit_any g 0 r.val v4 I4'.out (Nat.lt_trans r.isLt P_big) (by decide)
        rw [Nat.pow_zero, Nat.div_one] at hbt
        have HBt := Lib.hid hbt
        clear hcz hroot hrr hev hbt
        go_wp2_with fail
        refine HBt.out.mono ?_
        clear HBt
        rintro e v5 ⟨rfl, b5⟩
        have I5 := Lib.hid (intV_below I4'.out b5)
        have Z5 := Lib.hid (X12.out.trans ((Z4.out.trans (b5.mono Z4.out.size)).mono X12.out.size))
        clear b5
        by_cases hodd : r.val % 2 = 1
        · have h1 := HEv.out
          rw [if_pos hodd] at h1
          have H1 := Lib.hid h1
          rw [hodd]
          have HSm := Lib.hid (zero_shape v5)
          have HBm := Lib.hid (zero_below v5)
          unfold zeroObj at HSm HBm
          obtain ⟨v6, hv6⟩ : ∃ v6, v5.alloc (.cells #[.bool false, .slice none 0 0] 34) = v6 := ⟨_, rfl⟩
          rw [hv6] at HSm HBm
          have HV6 := Lib.hid hv6
          have HKp := Lib.hid (kprime_any v6)
          clear h1 hodd hv6
          go_wp2_with fail
          rw [HV6.out]
          clear HV6
          refine HKp.out.mono ?_
          clear HKp
          rintro e v7 ⟨gp7, rfl, -, i7, b7⟩
          have hsb := sub_any v5.heap.size gp7 g (P : Int) (r.val : Int) v7 (shape_below HSm.out b7) i7 (intV_below (intV_below I5.out HBm.out) b7) (nat_abs_lt P_big) (val_big r)
          have hrl := r.isLt
          rw [show (P : Int) - (r.val : Int) = ((P - r.val : Nat) : Int) by omega, ← H1.out] at hsb
          have HSb := Lib.hid hsb
          have Z7 := Lib.hid (Z5.out.trans ((HBm.out.trans (b7.mono HBm.out.size)).mono Z5.out.size))
          clear i7 b7 hsb hrl
          go_wp2_with fail
          refine HSb.out.mono ?_
          clear HSb
          rintro e v8 ⟨rfl, i8, g8⟩
          have Z8 := Lib.hid (Z7.out.trans (grownBelow g8 Z5.out.size Z7.out.size))
          have I8 := Lib.hid i8
          clear i8 g8
          go_wp2
          go_ret
          rw [HRoot.out]
          exact root_some ⟨_, rfl, Z5.out.size, I8.out, Z8.out⟩
        · have h1 := HEv.out
          rw [if_neg hodd] at h1
          have H1 := Lib.hid h1
          have he0 : r.val % 2 = 0 := by omega
          rw [he0]
          clear h1 hodd he0
          go_wp2
          go_ret
          rw [HRoot.out]
          exact root_some ⟨g, rfl, GG.out, by rw [H1.out]; exact I5.out, Z5.out⟩
      · have hce : (c == 0) = false := by
          rw [hcz]
          exact decide_eq_false (fun h => hrr (of_val (by rw [h, HXv.out])))
        have NE2 := Lib.hid (show ∀ j, j < k + 1 → rk a j * rk a j ≠ a from fun j hj => by
          by_cases hjk : j = k
          · subst hjk; rw [HRk.out]; exact hrr
          · exact NE.out j (by omega))
        have HR2 := Lib.hid (show rk a (k + 1) = r * I4 by rw [← HRk.out, rk])
        have HSm := Lib.hid (zero_shape v4)
        have HBm := Lib.hid (zero_below v4)
        have J4 := intV_below I12.out Z4.out
        have hmu := mulv_any v4.heap.size g gi (r.val : Int) (I4.val : Int) (v4.alloc zeroObj) (zero_shape v4) (intV_below I4'.out (zero_below v4)) (intV_below J4 (zero_below v4)) (val_big r) (val_big _)
        unfold zeroObj at HSm HBm hmu
        have HMu := Lib.hid hmu
        have hszb : (v4.alloc (.cells #[.bool false, .slice none 0 0] 34)).heap.size = v4.heap.size + 1 := by simp
        have HSzb := Lib.hid hszb
        clear hcz hrr hmu J4 hszb
        go_wp2_with fail
        refine HMu.out.mono ?_
        clear HMu
        rintro e v5 ⟨rfl, i5, g5⟩
        have Y5 := Lib.hid (HBm.out.trans (grownBelow g5 (Nat.le_refl _) (by have := HSzb.out; omega)))
        have I5 := Lib.hid i5
        have HKp := Lib.hid (kprime_any v5)
        clear i5 g5 HSm HBm HSzb
        go_wp2_with fail
        refine HKp.out.mono ?_
        clear HKp
        rintro e v6 ⟨gp6, rfl, -, i6, b6⟩
        have Y6 := Lib.hid (Y5.out.trans (b6.mono Y5.out.size))
        have i56 := intV_below I5.out b6
        have hmd := mod_any v4.heap.size v4.heap.size gp6 _ P v6 (intV_shape i56) i56 i6 NumF.P_pos (by rw [← Int.natCast_mul]; exact nat_abs_lt (P_sq r.val I4.val r.isLt I4.isLt)) P_big
        rw [int_mod, ← val_mul r I4] at hmd
        have HMd := Lib.hid hmd
        clear i6 b6 i56 hmd I5 Y5
        go_wp2_with fail
        refine HMd.out.mono ?_
        clear HMd
        rintro e v7 ⟨rfl, i7, g7⟩
        have Y7 := Y6.out.trans (grownBelow g7 (Nat.le_refl _) Y6.out.size)
        have Z7 := Lib.hid (Z4.out.trans (Y7.mono Z4.out.size))
        have I7 : Hid (IntV v7 v4.heap.size ((rk a (k + 1)).val : Int)) := Lib.hid (by rw [HR2.out]; exact i7)
        have G7 := Lib.hid (show w.heap.size ≤ v4.heap.size by have := X12.out.size; have := Z4.out.size; omega)
        clear i7 g7 Y7 Y6
        go_wp2
        go_roundw
        case rel => exact ⟨k + 1, _, by omega, by go_num, rfl, G7.out, I7.out, NE2.out, Z7.out⟩
        case measure => simp [intOf]; omega
    · obtain rfl : k = 2 := by omega
      have ct : decide (((2 : Nat) : Int) < 2) = false := rfl
      have HMiss := Lib.hid (rootF_miss NE.out)
      have ZF := Lib.hid (X12.out.trans (BK.out.mono X12.out.size))
      go_wp2
      go_ret
      rw [HMiss.out]
      exact root_none ⟨rfl, ZF.out⟩
end Go.Proofs.YtfngomlknhappaaDoor.KBigW
