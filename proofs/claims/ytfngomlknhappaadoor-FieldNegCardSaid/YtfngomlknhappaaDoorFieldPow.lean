/-
  field.times, squares, ones, inverse: what they hand back. Conditions: in each statement.
-/
import Derived.Test.YtfngomlknhappaaDoorFieldRed
import Derived.Test.YtfngomlknhappaaDoorGrow
import Derived.Deep.DeepCutAuto
namespace Go.Proofs.YtfngomlknhappaaDoor.FieldWW
open Go.RowKit BytesW ArrW ArrG ArrL FieldM NumA NumF FieldN Grow

theorem eval_tmp {a : Act} {k : Nat} {v : Value} (h : a.tmps[k]? = some v) : a.eval (.tmp k) = v := by
  simp [Act.eval, h]
/-- A new variable. -/
def AL (B : Nat) (v : Value) (W : World) : Prop := ∃ g, v = .pointer (some ⟨g, 0, none⟩) ∧ B ≤ g ∧ Arr W g 46 (nc (wd 0 4))
theorem AL.grow {B : Nat} {v : Value} {w w' : World} (h : AL B v w) (hb : Below w.heap.size w w') : AL B v w' := by
  obtain ⟨g, e, hg, hs⟩ := h
  exact ⟨g, e, hg, hs.below hb hs.lt⟩
theorem lt_B4 (x : F) : x.val < 18446744073709551616 ^ 4 := Nat.lt_trans x.isLt (by decide +kernel)
theorem prod_lt (x y : F) : x.val * y.val < 13407807929942597099574024998205846127479365820592393377723561443721764030073546976801874298166903427690031858186486050853753882811946569946433649006084096 := by
  have hx := lt_B4 x
  have hy := lt_B4 y
  rw [B4] at hx hy
  exact Nat.lt_of_lt_of_le (Nat.mul_lt_mul'' hx hy) (by decide)
theorem fp_dbl (x : F) (k : Nat) : fp x (2 ^ k) * fp x (2 ^ k) = fp x (2 ^ (k + 1)) := by rw [← fp_add, Nat.pow_succ, Nat.mul_two]
theorem pow_pos' (k : Nat) : 1 ≤ 2 ^ k := Nat.pow_pos (by decide)
theorem ones_even (x : F) (m : Nat) : fp (fp x (2 ^ m - 1)) (2 ^ m) * fp x (2 ^ m - 1) = fp x (2 ^ (2 * m) - 1) := by
  rw [← fp_fp, ← fp_add]
  congr 1
  have h := pow_pos' m
  rw [show 2 ^ (2 * m) = 2 ^ m * 2 ^ m by rw [← Nat.pow_add]; congr 1; omega]
  generalize 2 ^ m = z at *
  obtain ⟨y, rfl⟩ : ∃ y, z = y + 1 := ⟨z - 1, by omega⟩
  rw [Nat.add_sub_cancel, Nat.add_mul, Nat.one_mul]
  omega
theorem ones_odd (x : F) (m : Nat) : fp (fp x (2 ^ (2 * m) - 1)) (2 ^ 1) * x = fp x (2 ^ (2 * m + 1) - 1) := by
  rw [← fp_fp]
  show fp x _ * x = _
  have e : 2 ^ (2 * m + 1) - 1 = (2 ^ (2 * m) - 1) * 2 ^ 1 + 1 := by
    have h := pow_pos' (2 * m)
    rw [Nat.pow_succ]
    omega
  rw [e, fp]

set_option maxHeartbeats 4000000 in
set_option maxRecDepth 100000 in
theorem times_any (x y : F) (w : World) :
    Calls Tryd.prog 31 #[.agg (nc (wd x.val 4)).toArray, .agg (nc (wd y.val 4)).toArray] w fun e w' => e = .returned (.agg (nc (wd (x * y).val 4)).toArray) ∧ Below w.heap.size w w' := by
  have HM := Lib.hid (fun w => mul_any x.val y.val (lt_B4 x) (lt_B4 y) w)
  have HR := Lib.hid (fun w => reduce_any (x.val * y.val) (prod_lt x y) w)
  rw [← val_mul] at HR
  obtain ⟨R, hR⟩ : ∃ R, (x * y).val = R := ⟨_, rfl⟩
  obtain ⟨Pr, hPr⟩ : ∃ R, x.val * y.val = R := ⟨_, rfl⟩
  rw [hR] at HR ⊢
  rw [hPr] at HR HM
  clear hR hPr
  go_enter Tryd.func31, Tryd.ntmps31
  go_upto_region 1 with (fail)
  generalize hW : World.alloc _ _ = W
  obtain ⟨H0, H1, H2, hbw, hsz⟩ := start3 hW
  clear hW
  have A0 : Hid (Arr W w.heap.size 46 (nc (wd x.val 4))) := Lib.hid H0
  have A1 : Hid (Arr W (w.heap.size + 1) 46 (nc (wd y.val 4))) := Lib.hid H1
  have A2 : Hid (Arr W (w.heap.size + 2) 46 (nc (wd 0 4))) := Lib.hid H2
  obtain ⟨g, hg⟩ : ∃ g, w.heap.size = g := ⟨_, rfl⟩
  have HBw : Hid (Below g w W) := Lib.hid (by rw [← hg]; exact hbw)
  have HSZ : Hid (g + 3 ≤ W.heap.size) := Lib.hid (by rw [← hg]; omega)
  have HG := Lib.hid hg
  rw [hg] at A0 A1 A2
  simp only [hg]
  clear H0 H1 H2 hbw hsz hg
  go_wp2_with (first | (show wpList _ _ _ (⟨_, Op.load _ (.tmp 2), _, _, _, _⟩ :: _) _ _; refine Arr.loadL A0.out rfl 46 (.tmp 2) rfl rfl wnum_u rfl wnum_size (wd4 _) ?_) | (show wpList _ _ _ (⟨_, Op.load _ (.tmp 3), _, _, _, _⟩ :: _) _ _; refine Arr.loadL A1.out rfl 46 (.tmp 3) rfl rfl wnum_u rfl wnum_size (wd4 _) ?_))
  refine (HM.out W).mono ?_
  clear HM
  rintro e w1 ⟨rfl, b1⟩
  replace A2 := Lib.hid (A2.out.below b1 A2.out.lt)
  have HB1 := Lib.hid (HBw.out.trans (b1.mono (by have := HSZ.out; omega)))
  have HZ1 := Lib.hid (Nat.le_trans HSZ.out b1.size)
  clear b1 HBw HSZ A0 A1
  go_wp2_with fail
  refine (HR.out w1).mono ?_
  clear HR
  rintro e w2 ⟨rfl, b2⟩
  replace A2 := Lib.hid (A2.out.below b2 A2.out.lt)
  have HB2 := Lib.hid (HB1.out.trans (b2.mono (by have := HZ1.out; omega)))
  have AF := Lib.hid (A2.out.row (nc (wd R 4)))
  have HBF := Lib.hid (below_row HB2.out (show g ≤ g + 2 by omega) (nc (wd R 4)).toArray)
  clear b2 HB1 HZ1
  go_wp2_with (show wpList _ _ _ (⟨_, Op.store _ (.tmp 4) _, _, _, _, _⟩ :: _) _ _; refine Arr.storeL A2.out rfl 46 (.tmp 4) (.tmp 8) rfl rfl (nc (wd R 4)) rfl wnum_size (by rfl) (wd4 _) (nc_one _) ?_)
  refine bodyPost_ret (v := .agg (nc (wd R 4)).toArray) (by exact AF.out.ret rfl _ rfl wnum_u rfl wnum_size (wd4 _)) rfl ⟨rfl, by rw [HG.out]; exact HBF.out⟩

set_option maxHeartbeats 4000000 in
set_option maxRecDepth 100000 in
theorem squares_any (x : F) (n : Nat) (hn : n < 2 ^ 62) (w : World) :
    Calls Tryd.prog 58 #[.agg (nc (wd x.val 4)).toArray, .int .i64 (n : Int)] w fun e w' => e = .returned (.agg (nc (wd (fp x (2 ^ n)).val 4)).toArray) ∧ Below w.heap.size w w' := by
  have hx1 : fp x (2 ^ 0) = x := by rw [Nat.pow_zero, fp, fp]; grind
  go_enter Tryd.func58, Tryd.ntmps58
  go_upto_region 1 with (fail)
  generalize hW : World.alloc _ _ = W
  obtain ⟨H0, H1, hbw, hsz⟩ := start2 hW
  clear hW
  have A0 : Hid (Arr W w.heap.size 46 (nc (wd (fp x (2 ^ 0)).val 4))) := Lib.hid (by rw [hx1]; exact H0)
  have A1 : Hid (Arr W (w.heap.size + 1) 46 (nc (wd 0 4))) := Lib.hid H1
  obtain ⟨g, hg⟩ : ∃ g, w.heap.size = g := ⟨_, rfl⟩
  have HBw : Hid (Below g w W) := Lib.hid (by rw [← hg]; exact hbw)
  have HSZ : Hid (g + 2 ≤ W.heap.size) := Lib.hid (by rw [← hg]; omega)
  have HG := Lib.hid hg
  rw [hg] at A0 A1
  simp only [hg]
  clear H0 H1 hbw hsz hg hx1
  go_wp2
  go_loopw [6] (fun vk wr => ∃ k : Nat, k ≤ n ∧ vk = .int .i64 (k : Int) ∧ Arr wr g 46 (nc (wd (fp x (2 ^ k)).val 4)) ∧ W.grownBy wr (some g)) (fun vk _ => n - (intOf vk).toNat)
  case atStart => exact ⟨0, by omega, rfl, A0.out, grownRefl _ _⟩
  case round =>
    clear A0
    obtain ⟨k, hk, rfl, ak, gk⟩ := hrel
    have AK := Lib.hid ak
    have GK := Lib.hid gk
    clear ak gk
    by_cases hlt : k < n
    · have ct : decide ((k : Int) < (n : Int)) = true := decide_eq_true (by omega)
      have HTm := Lib.hid (times_any (fp x (2 ^ k)) (fp x (2 ^ k)) wr)
      rw [fp_dbl] at HTm
      obtain ⟨y, hy⟩ : ∃ y, fp x (2 ^ k) = y := ⟨_, rfl⟩
      obtain ⟨z, hz⟩ : ∃ y, fp x (2 ^ (k + 1)) = y := ⟨_, rfl⟩
      rw [hz, hy] at HTm
      rw [hy] at AK
      have HZ := Lib.hid hz
      have HLT := Lib.hid hlt
      have wk : IntKind.i64.wrap ((k : Int) + 1) = ((k + 1 : Nat) : Int) := by rw [IntWalk.i64_in _ (by omega)]; omega
      clear hy hz hlt hk
      go_wp2_with (show wpList _ _ _ (⟨_, Op.load _ (.tmp 2), _, _, _, _⟩ :: _) _ _; refine Arr.loadL AK.out rfl 46 (.tmp 2) rfl rfl wnum_u rfl wnum_size (wd4 _) ?_)
      refine HTm.out.mono ?_
      clear HTm
      rintro e w1 ⟨rfl, b1⟩
      have A2 := Lib.hid (AK.out.below b1 AK.out.lt)
      have AN := Lib.hid (A2.out.row (nc (wd z.val 4)))
      have GN := Lib.hid (grownTrans GK.out (grownTrans (grownOf (g := g) b1) (grown_row w1 g (nc (wd z.val 4)).toArray)))
      clear b1
      go_wp2_with (show wpList _ _ _ (⟨_, Op.store _ (.tmp 2) _, _, _, _, _⟩ :: _) _ _; refine Arr.storeL A2.out rfl 46 (.tmp 2) (.tmp 10) rfl rfl (nc (wd z.val 4)) rfl wnum_size (by rfl) (wd4 _) (nc_one _) ?_)
      generalize World.setRow _ _ _ = w2 at *
      go_roundw
      case rel => exact ⟨k + 1, by have := HLT.out; omega, rfl, by rw [HZ.out]; exact AN.out, GN.out⟩
      case measure => have := HLT.out; simp [intOf]; omega
    · obtain rfl : k = n := by omega
      have ct : decide ((k : Int) < (k : Int)) = false := decide_eq_false (by omega)
      have A1K := Lib.hid (arr_grown A1.out GK.out (by omega))
      have HBX := Lib.hid (HBw.out.trans (grownBelow GK.out (Nat.le_refl g) (by have := HSZ.out; omega)))
      obtain ⟨z, hz⟩ : ∃ y, fp x (2 ^ k) = y := ⟨_, rfl⟩
      rw [hz] at AK
      have HZ := Lib.hid hz
      have AF := Lib.hid (A1K.out.row (nc (wd z.val 4)))
      have HBF := Lib.hid (below_row HBX.out (show g ≤ g + 1 by omega) (nc (wd z.val 4)).toArray)
      clear hlt hz
      go_wp2_with (first | (show wpList _ _ _ (⟨_, Op.load _ (.tmp 2), _, _, _, _⟩ :: _) _ _; refine Arr.loadL AK.out rfl 46 (.tmp 2) rfl rfl wnum_u rfl wnum_size (wd4 _) ?_) | (show wpList _ _ _ (⟨_, Op.store _ (.tmp 4) _, _, _, _, _⟩ :: _) _ _; refine Arr.storeL A1K.out rfl 46 (.tmp 4) (.tmp 12) rfl rfl (nc (wd z.val 4)) rfl wnum_size (by rfl) (wd4 _) (nc_one _) ?_))
      refine bodyPost_ret (v := .agg (nc (wd z.val 4)).toArray) (by exact AF.out.ret rfl _ rfl wnum_u rfl wnum_size (wd4 _)) rfl ⟨by rw [HZ.out], by rw [HG.out]; exact HBF.out⟩

set_option maxHeartbeats 1000000 in
set_option maxRecDepth 100000 in
theorem ones_any (n : Nat) : 1 ≤ n → n < 2 ^ 62 → ∀ (x : F) (w : World),
    Calls Tryd.prog 59 #[.agg (nc (wd x.val 4)).toArray, .int .i64 (n : Int)] w fun e w' => e = .returned (.agg (nc (wd (fp x (2 ^ n - 1)).val 4)).toArray) ∧ Below w.heap.size w w' := by
  induction n using Nat.strongRecOn with
  | _ n ih =>
  intro h1 h2 x w
  obtain ⟨R, hR⟩ : ∃ R, fp x (2 ^ n - 1) = R := ⟨_, rfl⟩
  rw [hR]
  by_cases hn : n = 1
  · have ct : ((n : Int) == 1) = true := by rw [beq_iff_eq]; omega
    obtain rfl : x = R := by
      rw [← hR, hn]
      show x = fp x 1
      rw [fp, fp]; grind
    clear hR hn ih
    go_enter Tryd.func59, Tryd.ntmps59
    go_upto_region 1 with (fail)
    generalize hW : World.alloc _ _ = W
    obtain ⟨H0, H1, hbw, hsz⟩ := start2 hW
    clear hW
    obtain ⟨g, hg⟩ : ∃ g, w.heap.size = g := ⟨_, rfl⟩
    have HBw : Hid (Below g w W) := Lib.hid (by rw [← hg]; exact hbw)
    have HG := Lib.hid hg
    rw [hg] at H0 H1
    have A0 : Hid (Arr W g 46 (nc (wd x.val 4))) := Lib.hid H0
    have A1 : Hid (Arr W (g + 1) 46 (nc (wd 0 4))) := Lib.hid H1
    simp only [hg]
    have AF := Lib.hid (A1.out.row (nc (wd x.val 4)))
    have HBF := Lib.hid (below_row HBw.out (show g ≤ g + 1 by omega) (nc (wd x.val 4)).toArray)
    clear H0 H1 hbw hsz hg
    go_wp2_with (first | (show wpList _ _ _ (⟨_, Op.load _ (.tmp 2), _, _, _, _⟩ :: _) _ _; refine Arr.loadL A0.out rfl 46 (.tmp 2) rfl rfl wnum_u rfl wnum_size (wd4 _) ?_) | (show wpList _ _ _ (⟨_, Op.store _ (.tmp 4) _, _, _, _, _⟩ :: _) _ _; refine Arr.storeL A1.out rfl 46 (.tmp 4) (.tmp 9) rfl rfl (nc (wd x.val 4)) rfl wnum_size (by rfl) (wd4 _) (nc_one _) ?_))
    refine bodyPost_ret (v := .agg (nc (wd x.val 4)).toArray) (by exact AF.out.ret rfl _ rfl wnum_u rfl wnum_size (wd4 _)) rfl ⟨rfl, by rw [HG.out]; exact HBF.out⟩
  · have ct : ((n : Int) == 1) = false := by rw [beq_eq_false_iff_ne]; omega
    obtain ⟨m, hm⟩ : ∃ m, n / 2 = m := ⟨_, rfl⟩
    have HIH := Lib.hid (ih m (by omega) (by omega) (by omega) x)
    have he := ones_even x m
    have ho := ones_odd x m
    obtain ⟨h, hh⟩ : ∃ h, fp x (2 ^ m - 1) = h := ⟨_, rfl⟩
    rw [hh] at HIH he
    obtain ⟨o, hoo⟩ : ∃ h, fp x (2 ^ (2 * m) - 1) = h := ⟨_, rfl⟩
    rw [hoo] at he ho
    have HSQ := Lib.hid (fun w => squares_any h m (by omega) w)
    have HTM := Lib.hid (fun w => times_any (fp h (2 ^ m)) h w)
    rw [he] at HTM
    obtain ⟨q, hq⟩ : ∃ q, fp h (2 ^ m) = q := ⟨_, rfl⟩
    rw [hq] at HTM HSQ
    have d1 : (n : Int).tdiv 2 = (m : Int) := by rw [Int.tdiv_eq_ediv_of_nonneg (by omega)]; omega
    have d2 : (n : Int) / 2 = (m : Int) := by omega
    have wm : IntKind.i64.wrap (m : Int) = (m : Int) := IntWalk.i64_in _ (by omega)
    have par : (n % 2 = 1 ∧ n = 2 * m + 1) ∨ (n % 2 = 0 ∧ n = 2 * m) := by omega
    have HP : Hid ((((n : Int).tmod 2 == 1) = true ∧ (((n : Int) % 2 == 1) = true) ∧ R = fp o (2 ^ 1) * x) ∨ (((n : Int).tmod 2 == 1) = false ∧ (((n : Int) % 2 == 1) = false) ∧ R = o)) := Lib.hid (by
      rcases par with ⟨e, e2⟩ | ⟨e, e2⟩
      · refine .inl ⟨?_, ?_, ?_⟩
        · rw [beq_iff_eq, Int.tmod_eq_emod_of_nonneg (by omega)]; omega
        · rw [beq_iff_eq]; omega
        · rw [ho, ← hR, e2]
      · refine .inr ⟨?_, ?_, ?_⟩
        · rw [beq_eq_false_iff_ne, Int.tmod_eq_emod_of_nonneg (by omega)]; omega
        · rw [beq_eq_false_iff_ne]; omega
        · rw [← hoo, ← hR, e2])
    clear ih hR hn hm he ho hh hoo par h1 h2 hq
    go_enter Tryd.func59, Tryd.ntmps59
    go_upto_region 1 with (fail)
    generalize hW : World.alloc _ _ = W
    obtain ⟨H0, H1, hbw, hsz⟩ := start2 hW
    clear hW
    have A0 : Hid (Arr W w.heap.size 46 (nc (wd x.val 4))) := Lib.hid H0
    have A1 : Hid (Arr W (w.heap.size + 1) 46 (nc (wd 0 4))) := Lib.hid H1
    obtain ⟨g, hg⟩ : ∃ g, w.heap.size = g := ⟨_, rfl⟩
    have HBw : Hid (Below g w W) := Lib.hid (by rw [← hg]; exact hbw)
    have HSZ : Hid (g + 2 ≤ W.heap.size) := Lib.hid (by rw [← hg]; omega)
    have HG := Lib.hid hg
    rw [hg] at A0 A1
    simp only [hg]
    clear H0 H1 hbw hsz hg
    go_wp2_with (show wpList _ _ _ (⟨_, Op.load _ (.tmp 2), _, _, _, _⟩ :: _) _ _; refine Arr.loadL A0.out rfl 46 (.tmp 2) rfl rfl wnum_u rfl wnum_size (wd4 _) ?_)
    refine (HIH.out W).mono ?_
    clear HIH
    rintro e w1 ⟨rfl, b1⟩
    replace A0 := Lib.hid (A0.out.below b1 A0.out.lt)
    replace A1 := Lib.hid (A1.out.below b1 A1.out.lt)
    have HB1 := Lib.hid (HBw.out.trans (b1.mono (by have := HSZ.out; omega)))
    have HZ1 := Lib.hid (Nat.le_trans HSZ.out b1.size)
    clear b1 HBw HSZ
    go_upto_region 4 with (show wpList _ _ _ (⟨_, Op.store _ (.tmp 5) _, _, _, _, _⟩ :: _) _ _; refine Arr.storeL (Arr.new w1 _ _) rfl 46 (.tmp 5) (.tmp 13) rfl rfl (nc (wd h.val 4)) rfl wnum_size (by rfl) (wd4 _) (nc_one _) ?_)
    generalize hw3 : World.setRow _ _ _ = w3
    obtain ⟨a3, b3, z3⟩ := filled hw3
    obtain ⟨p5, hp⟩ : ∃ p, w1.heap.size = p := ⟨_, rfl⟩
    replace A0 := Lib.hid (A0.out.below b3 A0.out.lt)
    replace A1 := Lib.hid (A1.out.below b3 A1.out.lt)
    have HB3 := Lib.hid (HB1.out.trans (b3.mono (by have := HZ1.out; omega)))
    have HZ3 := Lib.hid (Nat.le_trans HZ1.out b3.size)
    rw [hp] at a3 ⊢
    have A5 := Lib.hid a3
    clear a3 b3 z3 hw3 hp HB1 HZ1
    let C : Nat → Value → World → Prop := fun i v V0 => match i with
      | 0 => v = .agg (nc (wd h.val 4)).toArray
      | 1 => v = .int .i64 (n : Int)
      | 2 => v = .int .i64 (m : Int)
      | 3 => v = .agg (nc (wd q.val 4)).toArray
      | 4 => v = .agg (nc (wd h.val 4)).toArray
      | 5 => v = .agg (nc (wd o.val 4)).toArray
      | _ => AL w3.heap.size v V0
    refine wp_region_grow [0, 1, 2, 3, 4, 5, 6] (fun i => [14, 15, 16, 17, 18, 19, 6].getD i 0) C (.step 7 .done) (fun V0 => Below w3.heap.size w3 V0) (by kernel_rfl) (by kernel_rfl) (fun _ _ d _ _ h => by cases d <;> exact h) ((Below.refl _ _).drew) ?_ ?_ ?_
    · intro i hi v V V' h hb
      simp only [List.mem_cons, List.not_mem_nil, or_false] at hi
      rcases hi with rfl | rfl | rfl | rfl | rfl | rfl | rfl <;> first | exact h | exact AL.grow h hb
    · intro i hi
      simp only [List.mem_cons, List.not_mem_nil, or_false] at hi
      rcases hi with rfl | rfl | rfl | rfl | rfl | rfl | rfl
      · rintro o ⟨⟩ ac V hS hoff hdep K hK
        have q50 : ac.tmps[5]? = some (.pointer (some ⟨p5, 0, none⟩)) := (hoff 5 (by decide)).trans rfl
        clear hoff hdep
        refine Arr.loadO (A5.out.below hS A5.out.lt) 46 (.tmp 5) rfl (eval_tmp q50) wnum_u rfl wnum_size (wd4 _) ?_
        exact hK _ _ (Below.refl _ _) hS rfl
      · rintro o ⟨⟩ ac V hS hoff hdep K hK
        have q10 : ac.tmps[1]? = some (.int .i64 (n : Int)) := (hoff 1 (by decide)).trans rfl
        clear hoff hdep
        replace hK := Lib.hid hK
        go_simp
        exact hK.out _ _ (Below.refl _ _) hS rfl
      · rintro o ⟨⟩ ac V hS hoff hdep K hK
        obtain ⟨v1, h1, c1⟩ := hdep 1 (by decide) (by rfl)
        obtain rfl : v1 = .int .i64 (n : Int) := c1
        have q1 : ac.tmps[15]? = some (.int .i64 (n : Int)) := h1
        clear h1
        clear hoff hdep
        replace hK := Lib.hid hK
        go_simp
        exact hK.out _ _ (Below.refl _ _) hS rfl
      · rintro o ⟨⟩ ac V hS hoff hdep K hK
        obtain ⟨v0, h0, c0⟩ := hdep 0 (by decide) (by rfl)
        obtain rfl : v0 = .agg (nc (wd h.val 4)).toArray := c0
        have q0 : ac.tmps[14]? = some (.agg (nc (wd h.val 4)).toArray) := h0
        clear h0
        obtain ⟨v2, h2, c2⟩ := hdep 2 (by decide) (by rfl)
        obtain rfl : v2 = .int .i64 (m : Int) := c2
        have q2 : ac.tmps[16]? = some (.int .i64 (m : Int)) := h2
        clear h2
        clear hoff hdep
        replace hK := Lib.hid hK
        go_simp
        refine (HSQ.out V).mono ?_
        rintro e V' ⟨rfl, hb⟩
        exact hK.out _ _ hb (Below.trans hS (hb.mono (Below.size hS))) rfl
      · rintro o ⟨⟩ ac V hS hoff hdep K hK
        have q50 : ac.tmps[5]? = some (.pointer (some ⟨p5, 0, none⟩)) := (hoff 5 (by decide)).trans rfl
        clear hoff hdep
        refine Arr.loadO (A5.out.below hS A5.out.lt) 46 (.tmp 5) rfl (eval_tmp q50) wnum_u rfl wnum_size (wd4 _) ?_
        exact hK _ _ (Below.refl _ _) hS rfl
      · rintro o ⟨⟩ ac V hS hoff hdep K hK
        obtain ⟨v3, h3, c3⟩ := hdep 3 (by decide) (by rfl)
        obtain rfl : v3 = .agg (nc (wd q.val 4)).toArray := c3
        have q3 : ac.tmps[17]? = some (.agg (nc (wd q.val 4)).toArray) := h3
        clear h3
        obtain ⟨v4, h4, c4⟩ := hdep 4 (by decide) (by rfl)
        obtain rfl : v4 = .agg (nc (wd h.val 4)).toArray := c4
        have q4 : ac.tmps[18]? = some (.agg (nc (wd h.val 4)).toArray) := h4
        clear h4
        clear hoff hdep
        replace hK := Lib.hid hK
        go_simp
        refine (HTM.out V).mono ?_
        rintro e V' ⟨rfl, hb⟩
        exact hK.out _ _ hb (Below.trans hS (hb.mono (Below.size hS))) rfl
      · rintro o ⟨⟩ ac V hS hoff hdep K hK
        clear hoff hdep
        replace hK := Lib.hid hK
        go_simp
        have hb := (Below.refl V.heap.size V).alloc (Nat.le_refl _) (.cells #[.int .u64 0, .int .u64 0, .int .u64 0, .int .u64 0] 46)
        exact hK.out _ _ hb (Below.trans hS (hb.mono (Below.size hS))) ⟨V.heap.size, rfl, Below.size hS, Arr.new V _ _⟩
    · intro f V hS hf
      obtain ⟨p6, ea, hgz, az⟩ : AL w3.heap.size (f 6) V := hf 6 (by decide)
      have er : f 5 = .agg (nc (wd o.val 4)).toArray := hf 5 (by decide)
      unfold puts
      simp only [List.map_cons, List.map_nil, List.foldl_cons, List.foldl_nil, Act.put]
      rw [ea, er]
      clear hf ea er
      generalize f 0 = uf0
      generalize f 1 = uf1
      generalize f 2 = uf2
      generalize f 3 = uf3
      generalize f 4 = uf4
      clear C f
      go_simp
      refine tree_step rfl hS (fun K hK => ?_)
      rw [if_pos (show Region.wanted _ _ = true from rfl)]
      refine Arr.storeO az 46 (.tmp 6) (.tmp 19) rfl rfl (nc (wd o.val 4)) rfl wnum_size (by rfl) (wd4 _) (nc_one _) ?_
      have an := az.row (nc (wd o.val 4))
      have bn := below_row hS hgz (nc (wd o.val 4)).toArray
      generalize World.setRow _ _ _ = w4 at *
      refine hK _ _ ⟨bn, ?_⟩
      clear hK K az hS
      refine tree_done ?_
      replace A0 := Lib.hid (A0.out.below bn A0.out.lt)
      replace A1 := Lib.hid (A1.out.below bn A1.out.lt)
      have HB4 := Lib.hid (HB3.out.trans (bn.mono (by have := HZ3.out; omega)))
      have HZ4 := Lib.hid (Nat.le_trans HZ3.out bn.size)
      have A6 := Lib.hid an
      have HP6 := Lib.hid (show g + 2 ≤ p6 from Nat.le_trans HZ3.out hgz)
      clear an bn hgz A5 HB3 HZ3 HSQ HTM ct d1 d2 wm
      rcases HP.out with ⟨t1, t2, rfl⟩ | ⟨t1, t2, rfl⟩
      · clear HP
        go_upto_region 6 with (fail)
        have hab := ab w4
        have HSq : ∀ V, Below w4.heap.size w4 V → Calls Tryd.prog 58 #[.agg (nc (wd o.val 4)).toArray, .int .i64 1] V fun e w' => e = .returned (.agg (nc (wd (fp o (2 ^ 1)).val 4)).toArray) ∧ Below w4.heap.size w4 w' := fun V hV =>
          (squares_any o 1 (by decide) V).mono fun e w' ⟨he, hb⟩ => ⟨he, hV.trans (hb.mono hV.size)⟩
        have HTm : ∀ V, Below w4.heap.size w4 V → Calls Tryd.prog 31 #[.agg (nc (wd (fp o (2 ^ 1)).val 4)).toArray, .agg (nc (wd x.val 4)).toArray] V fun e w' => e = .returned (.agg (nc (wd (fp o (2 ^ 1) * x).val 4)).toArray) ∧ Below w4.heap.size w4 w' := fun V hV =>
          (times_any (fp o (2 ^ 1)) x V).mono fun e w' ⟨he, hb⟩ => ⟨he, hV.trans (hb.mono hV.size)⟩
        have HSq' := Lib.hid HSq
        have HTm' := Lib.hid HTm
        clear HSq HTm
        obtain ⟨oo, hoo⟩ : ∃ z, fp o (2 ^ 1) = z := ⟨_, rfl⟩
        rw [hoo] at HSq' HTm'
        have HOO := Lib.hid hoo
        clear hoo
        refine Phase.wp_region_phases [([], [0, 1, 2, 3], some 4)] (fun V => ∃ x : Ab w4, V = x.val) (by kernel_rfl) (by kernel_rfl) (fun _ _ d _ _ h => by cases d <;> exact h) (Cl.of (Below.refl _ _).drew) ?_
        refine Phase.g_alone rfl ?_
        refine Phase.p_nil ?_
        refine Phase.q_step rfl (fun K hK => want rfl ?_)
        refine Arr.loadQ (fun V (h : ∃ x : Ab w4, V = x.val) => A6.out.below (Cl.below h) A6.out.lt) 46 (.tmp 6) rfl rfl wnum_u rfl wnum_size (wd4 _) ?_
        refine hK _ ?_
        clear hK K
        refine Phase.q_step rfl (fun K hK => ?_); go_simp; apply Exists.intro; refine ⟨fun x => ?_, hK _ ?_⟩; (exact call_cl HSq'.out x); clear hK K
        refine Phase.q_step rfl (fun K hK => want rfl ?_)
        refine Arr.loadQ (fun V (h : ∃ x : Ab w4, V = x.val) => A0.out.below (Cl.below h) A0.out.lt) 46 (.tmp 2) rfl rfl wnum_u rfl wnum_size (wd4 _) ?_
        refine hK _ ?_
        clear hK K
        refine Phase.q_step rfl (fun K hK => ?_); go_simp; apply Exists.intro; refine ⟨fun x => ?_, hK _ ?_⟩; (exact call_cl HTm'.out x); clear hK K
        refine Phase.q_nil ?_
        rintro V hV K hK
        have hBV := Cl.below hV
        have hAV := A6.out.below hBV A6.out.lt
        refine want rfl ?_
        refine Arr.storeO hAV 46 (.tmp 6) (.tmp 26) rfl rfl (nc (wd (oo * x).val 4)) rfl wnum_size (wd4 _) (wd4 _) (nc_one _) ?_
        have an := hAV.row (nc (wd (oo * x).val 4))
        have gr := grownTrans (grownOf (g := p6) hBV) (grown_row V p6 (nc (wd (oo * x).val 4)).toArray)
        generalize World.setRow _ _ _ = w5 at *
        refine hK _ _ ⟨fun X => X = w5, rfl, ?_⟩
        clear hK K
        refine Phase.g_nil ?_
        intro wz hz
        rw [show wz = w5 from hz]
        have AN := Lib.hid an
        have A1N := Lib.hid (arr_grown A1.out gr (by have := HP6.out; omega))
        have BN := Lib.hid (HB4.out.trans (grownBelow gr (show g ≤ p6 by have := HP6.out; omega) (by have := HZ4.out; omega)))
        have AF := Lib.hid (A1N.out.row (nc (wd (oo * x).val 4)))
        have HBF := Lib.hid (below_row BN.out (show g ≤ g + 1 by omega) (nc (wd (oo * x).val 4)).toArray)
        clear hz an gr hBV hAV hV hab t1 t2 A6 A1 A0 HSq' HTm'
        go_wp2_with (first | (show wpList _ _ _ (⟨_, Op.load _ (.tmp 6), _, _, _, _⟩ :: _) _ _; refine Arr.loadL AN.out rfl 46 (.tmp 6) rfl rfl wnum_u rfl wnum_size (wd4 _) ?_) | (show wpList _ _ _ (⟨_, Op.store _ (.tmp 4) _, _, _, _, _⟩ :: _) _ _; refine Arr.storeL A1N.out rfl 46 (.tmp 4) (.tmp 27) rfl rfl (nc (wd (oo * x).val 4)) rfl wnum_size (by rfl) (wd4 _) (nc_one _) ?_))
        refine bodyPost_ret (v := .agg (nc (wd (oo * x).val 4)).toArray) (by exact AF.out.ret rfl _ rfl wnum_u rfl wnum_size (wd4 _)) rfl ⟨by rw [HOO.out], by rw [HG.out]; exact HBF.out⟩
      · clear HP
        have AF := Lib.hid (A1.out.row (nc (wd R.val 4)))
        have HBF := Lib.hid (below_row HB4.out (show g ≤ g + 1 by omega) (nc (wd R.val 4)).toArray)
        go_wp2_with (first | (show wpList _ _ _ (⟨_, Op.load _ (.tmp 6), _, _, _, _⟩ :: _) _ _; refine Arr.loadL A6.out rfl 46 (.tmp 6) rfl rfl wnum_u rfl wnum_size (wd4 _) ?_) | (show wpList _ _ _ (⟨_, Op.store _ (.tmp 4) _, _, _, _, _⟩ :: _) _ _; refine Arr.storeL A1.out rfl 46 (.tmp 4) (.tmp 27) rfl rfl (nc (wd R.val 4)) rfl wnum_size (by rfl) (wd4 _) (nc_one _) ?_))
        refine bodyPost_ret (v := .agg (nc (wd R.val 4)).toArray) (by exact AF.out.ret rfl _ rfl wnum_u rfl wnum_size (wd4 _)) rfl ⟨rfl, by rw [HG.out]; exact HBF.out⟩
end Go.Proofs.YtfngomlknhappaaDoor.FieldWW
