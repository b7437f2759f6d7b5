/-
  Several texts in one: OneW, OneAdd, OneMul, OneRead, OneMark, OneRem, OneRed. What each holds stands at its head. Conditions: in each statement.
-/
import Derived.Test.YtohpgfefdlccmaaKf
import Derived.Test.YtohpgfefdlccmaaKc
import Derived.Test.YtohpgfefdlccmaaKa
import Derived.Test.YtohpgfefdlccmaaBits64
import Derived.Test.YtohpgfefdlccmaaOneI
import Derived.Test.YtohpgfefdlccmaaOneR
import Derived.Test.YtohpgfefdlccmaaOneA16
import Derived.Lib.Mul64
import Derived.Laws.Externs
import Derived.Deep.DeepCutAuto

/-
  Rows of uint64 as cells; math/bits.Add64, Mul64 and onetime.multiplyAdd: what they hand back. Conditions: in each statement.
-/
namespace Go.Proofs.Ytohpgfefdlccmaa.OneWW
open Go.RowKit BytesW ArrW ArrG ArrL OneM OneN

/-- Words as cells. -/
def nc (l : List Nat) : List Value := l.map fun (n : Nat) => .int .u64 (n : Int)
theorem nc_len (l : List Nat) : (nc l).length = l.length := by simp [nc]
theorem nc_getD (l : List Nat) (k : Nat) (h : k < l.length) : (nc l)[k]? = some (.int .u64 ((l.getD k 0 : Nat) : Int)) := by
  rw [List.getD_eq_getElem?_getD, List.getElem?_eq_getElem h]
  simp [nc, List.getElem?_eq_getElem h]
theorem nc_set (l : List Nat) (k x : Nat) : (nc l).set k (.int .u64 (x : Int)) = nc (l.set k x) := by simp [nc, List.map_set]
theorem nc_one (l : List Nat) : ∀ v ∈ nc l, v.oneCell' = true := by
  intro v hv
  simp only [nc, List.mem_map] at hv
  obtain ⟨x, _, rfl⟩ := hv
  rfl
theorem num_u : Try.prog.underlying 63 = some (.array 3 61) := by kernel_rfl
theorem num_size : (Try.prog.info? 63).map (·.size) = some 3 := by kernel_rfl
theorem pro_u : Try.prog.underlying 71 = some (.array 6 61) := by kernel_rfl
theorem pro_size : (Try.prog.info? 71).map (·.size) = some 6 := by kernel_rfl
theorem wd3 (v : Nat) : (nc (wd v 3)).length = 3 := by rw [nc_len, wd_len]
theorem wd6 (v : Nat) : (nc (wd v 6)).length = 6 := by rw [nc_len, wd_len]
theorem build1 (a : Int) (w : World) : (Instr.build 63 #[(0, .int .u64 a)]).run Try.prog w = .ok (.agg #[.int .u64 a, .int .u64 0, .int .u64 0]) w := by kernel_rfl
theorem build2 (a b : Int) (w : World) : (Instr.build 63 #[(0, .int .u64 a), (1, .int .u64 b)]).run Try.prog w = .ok (.agg #[.int .u64 a, .int .u64 b, .int .u64 0]) w := by kernel_rfl
theorem build3 (a b c : Int) (w : World) : (Instr.build 63 #[(0, .int .u64 a), (1, .int .u64 b), (2, .int .u64 c)]).run Try.prog w = .ok (.agg #[.int .u64 a, .int .u64 b, .int .u64 c]) w := by kernel_rfl
theorem nc3 (a b c : Nat) : (nc [a, b, c]).toArray = #[.int .u64 (a : Int), .int .u64 (b : Int), .int .u64 (c : Int)] := rfl

/-- math/bits.Add64: its carry 0 or 1. -/
theorem add64_n (x y c : Nat) (hc : c ≤ 1) (w : World) : (callFunc 53 #[.int .u64 (x : Int), .int .u64 (y : Int), .int .u64 (c : Int)]).run Try.prog w =
    .ok (.value (.tuple #[.int .u64 (((x + y + c) % 18446744073709551616 : Nat) : Int), .int .u64 (((x + y + c) / 18446744073709551616 : Nat) : Int)])) w := by
  rw [run_callFunc_extern Try.func53 (by kernel_rfl) (by kernel_rfl) (by kernel_rfl) (e := add64Entry) (by kernel_rfl), run_add64 x y c (by omega) (by omega) (by omega) (by omega)]
  simp only [Result.andThen]
  congr 5 <;> omega
theorem add64_0 (x y : Nat) (w : World) : (callFunc 53 #[.int .u64 (x : Int), .int .u64 (y : Int), .int .u64 0]).run Try.prog w =
    .ok (.value (.tuple #[.int .u64 (((x + y) % 18446744073709551616 : Nat) : Int), .int .u64 (((x + y) / 18446744073709551616 : Nat) : Int)])) w := add64_n x y 0 (by decide) w

theorem maskN (a : Nat) (ha : a < 18446744073709551616) : bits .and .u64 (a : Int) 4294967295 = ((a % 4294967296 : Nat) : Int) := by
  have h := Bits.and_u64 a 4294967295 ha (by decide)
  rw [show (4294967295 : Nat) = 2 ^ 32 - 1 from rfl, Nat.and_two_pow_sub_one_eq_mod] at h
  exact h
theorem divN (a : Nat) : (a : Int) / 4294967296 = ((a / 4294967296 : Nat) : Int) := by omega
theorem mulN (a b : Nat) : (a : Int) * (b : Int) = ((a * b : Nat) : Int) := (Int.natCast_mul a b).symm
theorem addN (a b : Nat) : (a : Int) + (b : Int) = ((a + b : Nat) : Int) := (Int.natCast_add a b).symm
theorem wrapN (a : Nat) (ha : a < 18446744073709551616) : IntKind.u64.wrap (a : Int) = (a : Int) := by rw [IntKind.wrap_u64]; omega
theorem wrapM (a : Nat) : IntKind.u64.wrap (a : Int) = ((a % 18446744073709551616 : Nat) : Int) := by rw [IntKind.wrap_u64]; omega

set_option maxHeartbeats 1000000 in
theorem mul64_any (x y : Nat) (hx : x < 18446744073709551616) (hy : y < 18446744073709551616) (w : World) :
    Calls Try.prog 55 #[.int .u64 (x : Int), .int .u64 (y : Int)] w fun e w' => e = .returned (.tuple #[.int .u64 ((x * y / 18446744073709551616 : Nat) : Int), .int .u64 ((x * y % 18446744073709551616 : Nat) : Int)]) ∧ w = w' := by
  obtain ⟨bd, bt, bw, hhi⟩ := Lib.mul64_hi x y hx hy
  have ba := Lib.half_mul_le (a := x / 4294967296) (b := y / 4294967296) (by omega) (by omega)
  have bb := Lib.half_mul_le (a := x / 4294967296) (b := y % 4294967296) (by omega) (by omega)
  have bc := Lib.half_mul_le (a := x % 4294967296) (b := y / 4294967296) (by omega) (by omega)
  have ba' : x / 4294967296 * (y / 4294967296) < 18446744073709551616 := by omega
  have bb' : x / 4294967296 * (y % 4294967296) < 18446744073709551616 := by omega
  have bc' : x % 4294967296 * (y / 4294967296) < 18446744073709551616 := by omega
  have bh1 : x / 4294967296 * (y / 4294967296) + (x / 4294967296 * (y % 4294967296) + x % 4294967296 * (y % 4294967296) / 4294967296) / 4294967296 < 18446744073709551616 := by omega
  have bh : x / 4294967296 * (y / 4294967296) + (x / 4294967296 * (y % 4294967296) + x % 4294967296 * (y % 4294967296) / 4294967296) / 4294967296 + ((x / 4294967296 * (y % 4294967296) + x % 4294967296 * (y % 4294967296) / 4294967296) % 4294967296 + x % 4294967296 * (y / 4294967296)) / 4294967296 < 18446744073709551616 := by omega
  go_enter Try.func55, Try.ntmps55
  go_wp2
  simp only [maskN x hx, maskN y hy, divN, mulN, addN, wrapN _ bd, wrapN _ bb', wrapN _ bt, maskN _ bt, wrapN _ bc', wrapN _ bw, wrapN _ ba', wrapN _ bh1, wrapN _ bh, wrapM (x * y)]
  rw [hhi]
  go_ret2
  exact ⟨rfl, rfl⟩

set_option maxHeartbeats 1000000 in
theorem mulAdd_any (a b c d : Nat) (ha : a < 18446744073709551616) (hb : b < 18446744073709551616) (hc : c < 18446744073709551616) (hd : d < 18446744073709551616) (w : World) :
    Calls Try.prog 52 #[.int .u64 (a : Int), .int .u64 (b : Int), .int .u64 (c : Int), .int .u64 (d : Int)] w fun e w' => e = .returned (.tuple #[.int .u64 (((a * b + c + d) % 18446744073709551616 : Nat) : Int), .int .u64 (((a * b + c + d) / 18446744073709551616 : Nat) : Int)]) ∧ w = w' := by
  have HM := Lib.hid (mul64_any a b ha hb w)
  have hi : a * b / 18446744073709551616 ≤ 18446744073709551614 := by
    have h1 : a * b ≤ 18446744073709551615 * 18446744073709551615 := Nat.mul_le_mul (by omega) (by omega)
    omega
  have ht := two_words a b c d _ ha hb hc hd
  obtain ⟨t, htt⟩ : ∃ t, a * b = t := ⟨_, rfl⟩
  rw [htt] at HM hi ht ⊢
  obtain ⟨h, hh⟩ : ∃ h, t / 18446744073709551616 = h := ⟨_, rfl⟩
  obtain ⟨l, hl⟩ : ∃ l, t % 18446744073709551616 = l := ⟨_, rfl⟩
  rw [hh, hl] at HM
  rw [hh] at hi
  obtain ⟨l1, hl1⟩ : ∃ z, (l + c) % 18446744073709551616 = z := ⟨_, rfl⟩
  obtain ⟨k1, hk1⟩ : ∃ z, (l + c) / 18446744073709551616 = z := ⟨_, rfl⟩
  obtain ⟨l2, hl2⟩ : ∃ z, (l1 + d) % 18446744073709551616 = z := ⟨_, rfl⟩
  obtain ⟨k2, hk2⟩ : ∃ z, (l1 + d) / 18446744073709551616 = z := ⟨_, rfl⟩
  have e1 := fun w => add64_0 l c w
  have e2 := fun w => add64_0 l1 d w
  rw [hl1, hk1] at e1
  rw [hl2, hk2] at e2
  obtain ⟨u, hu⟩ : ∃ u, h + k1 = u := ⟨_, rfl⟩
  obtain ⟨v, hv⟩ : ∃ v, u + k2 = v := ⟨_, rfl⟩
  have f1 : IntKind.u64.wrap ((h : Int) + (k1 : Int)) = (u : Int) := by rw [IntKind.wrap_u64]; omega
  have f2 : IntKind.u64.wrap ((u : Int) + (k2 : Int)) = (v : Int) := by rw [IntKind.wrap_u64]; omega
  have r1 : (t + c + d) % 18446744073709551616 = l2 := by omega
  have r2 : (t + c + d) / 18446744073709551616 = v := by omega
  rw [r1, r2]
  clear r1 r2 hh hl hl1 hk1 hl2 hk2 hu hv hi ht htt ha hb hc hd
  go_enter Try.func52, Try.ntmps52
  go_wp2_with fail
  refine HM.out.mono ?_
  clear HM
  rintro e w' ⟨rfl, rfl⟩
  go_wp2
  go_ret2
  exact ⟨rfl, rfl⟩
end Go.Proofs.Ytohpgfefdlccmaa.OneWW

/-
  onetime.add: what it hands back. Conditions: none.
-/
namespace Go.Proofs.Ytohpgfefdlccmaa.OneWW
open Go.RowKit BytesW ArrW ArrG ArrL OneM OneN

set_option maxHeartbeats 4000000 in
set_option maxRecDepth 100000 in
theorem add_any (X Y : Nat) (w : World) :
    Calls Try.prog 42 #[.agg (nc (wd X 3)).toArray, .agg (nc (wd Y 3)).toArray] w fun e w' => e = .returned (.agg (nc (wd (X + Y) 3)).toArray) ∧ Below w.heap.size w w' := by
  go_enter Try.func42, Try.ntmps42
  go_upto_region 1 with (fail)
  generalize hW : World.alloc _ _ = W
  obtain ⟨H0, H1, H2, hbw, hsz⟩ := start3 hW
  clear hW
  have A0 : Hid (Arr W w.heap.size 63 (nc (wd X 3))) := Lib.hid H0
  have A1 : Hid (Arr W (w.heap.size + 1) 63 (nc (wd Y 3))) := Lib.hid H1
  have A2 : Hid (Arr W (w.heap.size + 2) 63 (nc (wd 0 3))) := Lib.hid H2
  obtain ⟨g, hg⟩ : ∃ g, w.heap.size = g := ⟨_, rfl⟩
  have HBw : Hid (Below g w W) := Lib.hid (by rw [← hg]; exact hbw)
  have HSZ : Hid (W.heap.size = g + 3) := Lib.hid (by rw [← hg]; exact hsz)
  have HG := Lib.hid hg
  rw [hg] at A0 A1 A2
  simp only [hg]
  clear H0 H1 H2 hbw hsz hg
  go_upto_region 2 with (fail)
  generalize hV : World.alloc _ _ = V
  obtain ⟨H3, hbv, hsv⟩ := start1 hV
  rw [HSZ.out] at H3 hsv hbv ⊢
  have A3 : Hid (Arr V (g + 3) 63 (nc (fst (X + Y) 3 0))) := Lib.hid (by rw [fst_zero]; exact H3)
  have A01 := Lib.hid (A0.out.below hbv (by omega))
  have A11 := Lib.hid (A1.out.below hbv (by omega))
  have A21 := Lib.hid (A2.out.below hbv (by omega))
  have HBv := Lib.hid (HBw.out.trans (hbv.mono (by omega)))
  have HSV := Lib.hid hsv
  have HC0 := Lib.hid (carB_zero 18446744073709551616 X Y)
  clear H3 hbv hsv hV A0 A1 A2 HBw HSZ
  go_wp2
  go_loopw [6, 8] (fun vc vk wr => ∃ k : Nat, k ≤ 3 ∧ vk = .int .i64 (k : Int) ∧ vc = .int .u64 ((carB 18446744073709551616 X Y k : Nat) : Int) ∧ Arr wr (g + 3) 63 (nc (fst (X + Y) 3 k)) ∧ V.grownBy wr (some (g + 3))) (fun _ vk _ => 3 - (intOf vk).toNat)
  case atStart => exact ⟨0, by omega, rfl, by rw [HC0.out]; rfl, A3.out, grownRefl _ _⟩
  case round =>
    obtain ⟨k, hk, rfl, rfl, ak, gk⟩ := hrel
    have AK := Lib.hid ak
    have GK := Lib.hid gk
    clear ak gk HC0
    by_cases hlt : k < 3
    · have ct : decide ((k : Int) < 3) = true := decide_eq_true (by omega)
      have c0 := (arr_grown A01.out GK.out (by omega)).cell k
      have c1 := (arr_grown A11.out GK.out (by omega)).cell k
      rw [nc_getD _ k (by rw [wd_len]; exact hlt), wd_at _ _ _ hlt] at c0 c1
      have co := AK.out.cell k
      rw [nc_getD _ k (by rw [fst_len _ _ _ hk]; exact hlt)] at co
      have fo := AK.out.frozen k
      have hst := carB_step 18446744073709551616 X Y k (by decide)
      have hcl := carB_le 18446744073709551616 X Y k (by decide)
      have hse := fst_set (X + Y) 3 k hlt
      obtain ⟨x, hx⟩ : ∃ x, X / 18446744073709551616 ^ k % 18446744073709551616 = x := ⟨_, rfl⟩
      obtain ⟨y, hy⟩ : ∃ y, Y / 18446744073709551616 ^ k % 18446744073709551616 = y := ⟨_, rfl⟩
      obtain ⟨c, hc⟩ : ∃ c, carB 18446744073709551616 X Y k = c := ⟨_, rfl⟩
      obtain ⟨d, hd⟩ : ∃ d, carB 18446744073709551616 X Y (k + 1) = d := ⟨_, rfl⟩
      obtain ⟨z, hz⟩ : ∃ z, (X + Y) / 18446744073709551616 ^ k % 18446744073709551616 = z := ⟨_, rfl⟩
      generalize (fst (X + Y) 3 k).getD k 0 = old at co
      rw [hx] at c0 hst
      rw [hy] at c1 hst
      rw [hc, hd, hz] at hst
      rw [hz] at hse
      rw [hc] at hcl ⊢
      have hadd := add64_n x y c hcl
      rw [hst.1, hst.2] at hadd
      have HD := Lib.hid hd
      have ik : (k : Int) < 3 := by omega
      have an := AK.out.drew.set k (.int .u64 (z : Int))
      rw [nc_set, hse] at an
      have gn := grownTrans GK.out (grownTrans (grownDrew wr (some (g + 3))) (grownSet wr.drew (g + 3) k (.int .u64 (z : Int))))
      have AN := Lib.hid an
      have GN := Lib.hid gn
      have HLT := Lib.hid hlt
      clear hx hy hc hd hz hst hse hcl an gn hlt hk
      go_upto_region 6 with (fail)
      refine Phase.wp_region_phases [([0], [1, 2, 3, 4, 5, 6, 7, 8, 9], none), ([11], [10, 12], some 13), ([], [14], none)] (fun W => W = wr.drew) (by kernel_rfl) (by kernel_rfl) (fun _ _ d _ _ h => by cases d <;> exact h) rfl ?_
      refine Phase.g_quiet ?_
      refine Phase.p_step rfl (fun K hK => ?_); go_simp; refine hK _ ?_; clear hK K
      refine Phase.p_nil ?_
      iterate 9 (refine Phase.q_step rfl (fun K hK => ?_); go_simp; refine hK _ ?_; clear hK K)
      refine Phase.q_nil ?_
      refine Phase.g_alone rfl ?_
      refine Phase.p_step rfl (fun K hK => ?_); go_simp; refine hK _ ?_; clear hK K
      refine Phase.p_nil ?_
      iterate 2 (refine Phase.q_step rfl (fun K hK => ?_); go_simp; refine hK _ ?_; clear hK K)
      refine Phase.q_nil ?_
      rintro _ rfl K hK
      go_simp
      obtain ⟨w2, hw2⟩ : ∃ x, wr.drew.setCell ⟨g + 3, k, none⟩ (.int .u64 (z : Int)) = x := ⟨_, rfl⟩
      rw [hw2] at AN GN
      refine hK _ _ ⟨fun W => W = w2, hw2, ?_⟩
      clear hK K hw2 co fo c0 c1 hadd
      refine Phase.g_quiet ?_
      refine Phase.p_nil ?_
      iterate 1 (refine Phase.q_step rfl (fun K hK => ?_); go_simp; refine hK _ ?_; clear hK K)
      refine Phase.q_nil ?_
      refine Phase.g_nil ?_
      intro wz hz
      rw [show wz = w2 from hz]
      clear hz
      go_wp2
      go_roundw
      case rel => exact ⟨k + 1, by have := HLT.out; omega, by go_num, by rw [HD.out], AN.out, GN.out⟩
      case measure => have := HLT.out; simp [intOf]; omega
    · obtain rfl : k = 3 := by omega
      have ct : decide (((3 : Nat) : Int) < 3) = false := rfl
      rw [fst_all] at AK
      have A2F := Lib.hid (arr_grown A21.out GK.out (by omega))
      have HBX := Lib.hid (HBv.out.trans (grownBelow GK.out (show g ≤ g + 3 by omega) (by have := HSV.out; omega)))
      have AF := Lib.hid (A2F.out.row (nc (wd (X + Y) 3)))
      have HBF := Lib.hid (below_row HBX.out (show g ≤ g + 2 by omega) (nc (wd (X + Y) 3)).toArray)
      clear hlt
      go_wp2_with (first | (refine Arr.loadL AK.out rfl 63 (.tmp 5) rfl rfl num_u rfl num_size (wd3 _) ?_) | (refine Arr.storeL A2F.out rfl 63 (.tmp 4) (.tmp 25) rfl rfl (nc (wd (X + Y) 3)) rfl num_size (wd3 _) (wd3 _) (nc_one _) ?_))
      refine bodyPost_ret (v := .agg (nc (wd (X + Y) 3)).toArray) (by exact AF.out.ret rfl _ rfl num_u rfl num_size (wd3 _)) rfl ⟨rfl, by rw [HG.out]; exact HBF.out⟩
end Go.Proofs.Ytohpgfefdlccmaa.OneWW

/-
  onetime.multiply: what it hands back. Conditions: both below 2^192.
-/
namespace Go.Proofs.Ytohpgfefdlccmaa.OneWW
open Go.RowKit BytesW ArrW ArrG ArrL OneM OneN

theorem idx3 (w : World) (v k : Nat) (hk : k < 3) : (Instr.index 63 (.agg (nc (wd v 3)).toArray) (.int .i64 (k : Int))).run Try.prog w = .ok (.int .u64 ((v / 18446744073709551616 ^ k % 18446744073709551616 : Nat) : Int)) w := by
  refine run_index_arr w _ 61 3 _ k _ _ num_u Try.underlying61 rfl (by kernel_rfl) hk ?_
  have h := nc_getD (wd v 3) k (by rw [wd_len]; exact hk)
  rw [wd_at v 3 k hk] at h
  simpa using h

set_option maxHeartbeats 4000000 in
set_option maxRecDepth 100000 in
theorem mul_any (X Y : Nat) (hX : X < 18446744073709551616 ^ 3) (hY : Y < 18446744073709551616 ^ 3) (w : World) :
    Calls Try.prog 41 #[.agg (nc (wd X 3)).toArray, .agg (nc (wd Y 3)).toArray] w fun e w' => e = .returned (.agg (nc (wd (X * Y) 6)).toArray) ∧ Below w.heap.size w w' := by
  have HX := Lib.hid hX
  have HY := Lib.hid hY
  clear hX hY
  go_enter Try.func41, Try.ntmps41
  go_upto_region 1 with (fail)
  generalize hW : World.alloc _ _ = W
  obtain ⟨H0, H1, H2, hbw, hsz⟩ := start3 hW
  clear hW
  have A0 : Hid (Arr W w.heap.size 63 (nc (wd X 3))) := Lib.hid H0
  have A1 : Hid (Arr W (w.heap.size + 1) 63 (nc (wd Y 3))) := Lib.hid H1
  have A2 : Hid (Arr W (w.heap.size + 2) 71 (nc (wd 0 6))) := Lib.hid H2
  obtain ⟨g, hg⟩ : ∃ g, w.heap.size = g := ⟨_, rfl⟩
  have HBw : Hid (Below g w W) := Lib.hid (by rw [← hg]; exact hbw)
  have HSZ : Hid (W.heap.size = g + 3) := Lib.hid (by rw [← hg]; exact hsz)
  have HG := Lib.hid hg
  rw [hg] at A0 A1 A2
  simp only [hg]
  clear H0 H1 H2 hbw hsz hg
  go_upto_region 2 with (fail)
  generalize hV : World.alloc _ _ = V
  obtain ⟨H3, hbv, hsv⟩ := start1 hV
  rw [HSZ.out] at H3 hsv hbv ⊢
  have A3 : Hid (Arr V (g + 3) 71 (nc (wd 0 6))) := Lib.hid H3
  have A01 := Lib.hid (A0.out.below hbv (by omega))
  have A11 := Lib.hid (A1.out.below hbv (by omega))
  have A21 := Lib.hid (A2.out.below hbv (by omega))
  have HBv := Lib.hid (HBw.out.trans (hbv.mono (by omega)))
  have HSV := Lib.hid hsv
  have HR0 := Lib.hid (RowI.start X Y)
  clear H3 hbv hsv hV A0 A1 A2 HBw HSZ
  go_wp2_with (refine Arr.loadL A01.out rfl 63 (.tmp 2) rfl rfl num_u rfl num_size (wd3 _) ?_)
  go_loopw [12] (fun vi wr => ∃ (i : Nat) (L : List Nat), i ≤ 3 ∧ vi = .int .i64 (i : Int) ∧ RowI X Y i L ∧ Arr wr (g + 3) 71 (nc L) ∧ V.grownBy wr (some (g + 3))) (fun vi _ => 3 - (intOf vi).toNat)
  case atStart => exact ⟨0, _, by omega, rfl, HR0.out, A3.out, grownRefl _ _⟩
  case round =>
    clear A3 HR0
    obtain ⟨i, L, hi, rfl, ri, ai, gi⟩ := hrel
    have RI := Lib.hid ri
    have AI := Lib.hid ai
    have GI := Lib.hid gi
    clear ri ai gi
    by_cases hlt : i < 3
    · have ct : decide ((i : Int) < 3) = true := decide_eq_true (by omega)
      have hix := fun w => idx3 w X i hlt
      have hal : X / 18446744073709551616 ^ i % 18446744073709551616 < 18446744073709551616 := Nat.mod_lt _ (by decide)
      obtain ⟨a, ha⟩ : ∃ a, X / 18446744073709551616 ^ i % 18446744073709551616 = a := ⟨_, rfl⟩
      rw [ha] at hix hal
      have Ha := Lib.hid ha
      have HLT := Lib.hid hlt
      have A1I := Lib.hid (arr_grown A11.out GI.out (by omega))
      have MI0 := Lib.hid RI.out.mul
      clear ha hi
      go_wp2_with (refine Arr.loadL A1I.out rfl 63 (.tmp 3) rfl rfl num_u rfl num_size (wd3 _) ?_)
      go_loopw [8, 17] (fun vc vj wx => ∃ (j c : Nat) (L : List Nat), j ≤ 3 ∧ vj = .int .i64 (j : Int) ∧ vc = .int .u64 (c : Int) ∧ MulI X Y i j L c ∧ Arr wx (g + 3) 71 (nc L) ∧ V.grownBy wx (some (g + 3))) (fun _ vj _ => 3 - (intOf vj).toNat)
      case atStart => exact ⟨0, 0, L, by omega, rfl, rfl, MI0.out, AI.out, GI.out⟩
      case round =>
        clear MI0 AI GI
        obtain ⟨j, c, M, hj, rfl, rfl, mj, aj, gj⟩ := hrel
        have MJ := Lib.hid mj
        have AJ := Lib.hid aj
        have GJ := Lib.hid gj
        clear mj aj gj
        by_cases hlj : j < 3
        · have cj : decide ((j : Int) < 3) = true := decide_eq_true (by omega)
          have hjx := fun w => idx3 w Y j hlj
          have hbl : Y / 18446744073709551616 ^ j % 18446744073709551616 < 18446744073709551616 := Nat.mod_lt _ (by decide)
          obtain ⟨b, hb⟩ : ∃ b, Y / 18446744073709551616 ^ j % 18446744073709551616 = b := ⟨_, rfl⟩
          rw [hb] at hjx hbl
          have hij : i + j < 6 := by have := HLT.out; omega
          have MS := MJ.out.step HLT.out hlj a b _ Ha.out.symm hb.symm rfl
          have hcl := MJ.out.2.2.2.1
          have hll := MJ.out.2.1 (i + j)
          have hlen := MJ.out.1
          have cc := AJ.out.cell (i + j)
          rw [nc_getD _ (i + j) (by rw [hlen]; exact hij)] at cc
          have fo := AJ.out.frozen (i + j)
          obtain ⟨l, hl⟩ : ∃ l, M.getD (i + j) 0 = l := ⟨_, rfl⟩
          rw [hl] at MS hll cc
          have HMA := Lib.hid (fun w => mulAdd_any a b l c hal hbl hll hcl w)
          obtain ⟨z, hz⟩ : ∃ z, (a * b + l + c) % 18446744073709551616 = z := ⟨_, rfl⟩
          obtain ⟨d, hd⟩ : ∃ d, (a * b + l + c) / 18446744073709551616 = d := ⟨_, rfl⟩
          rw [hz, hd] at MS HMA
          have HMS := Lib.hid MS
          obtain ⟨m, hm⟩ : ∃ m, i + j = m := ⟨_, rfl⟩
          have wm : IntKind.i64.wrap ((i : Int) + (j : Int)) = (m : Int) := by rw [IntWalk.i64_in _ (by omega)]; omega
          have im : (m : Int) < 6 := by omega
          have an := AJ.out.set m (.int .u64 (z : Int))
          rw [nc_set] at an
          have gn := grownTrans GJ.out (grownSet wr (g + 3) m (.int .u64 (z : Int)))
          rw [hm] at cc fo HMS
          have AN := Lib.hid an
          have GN := Lib.hid gn
          have HLJ := Lib.hid hlj
          clear hb hij MS hcl hll hlen hl hz hd hm an gn hj hal hbl
          go_wp2_with fail
          refine (HMA.out wr).mono ?_
          clear HMA
          rintro e V1 ⟨rfl, rfl⟩
          go_wp2
          go_roundw
          case rel => exact ⟨j + 1, d, _, by have := HLJ.out; omega, by go_num, rfl, HMS.out, AN.out, GN.out⟩
          case measure => have := HLJ.out; simp [intOf]; omega
        · obtain rfl : j = 3 := by omega
          have cj : decide (((3 : Nat) : Int) < 3) = false := rfl
          have HRW := Lib.hid (MJ.out.row HLT.out HY.out)
          have hij : i + 3 < 6 := by have := HLT.out; omega
          have cc := AJ.out.cell (i + 3)
          rw [nc_getD _ (i + 3) (by rw [MJ.out.1]; exact hij)] at cc
          have fo := AJ.out.frozen (i + 3)
          generalize M.getD (i + 3) 0 = old at cc
          obtain ⟨m, hm⟩ : ∃ m, i + 3 = m := ⟨_, rfl⟩
          have wm : IntKind.i64.wrap ((i : Int) + 3) = (m : Int) := by rw [IntWalk.i64_in _ (by omega)]; omega
          have im : (m : Int) < 6 := by omega
          have an := AJ.out.set m (.int .u64 (c : Int))
          rw [nc_set] at an
          have gn := grownTrans GJ.out (grownSet wr (g + 3) m (.int .u64 (c : Int)))
          rw [hm] at cc fo HRW
          have AN := Lib.hid an
          have GN := Lib.hid gn
          clear hij hm an gn hlj hj MJ AJ GJ
          go_wp2
          go_roundw
          case rel => exact ⟨i + 1, _, by have := HLT.out; omega, by go_num, HRW.out, AN.out, GN.out⟩
          case measure => have := HLT.out; simp [intOf]; omega
    · obtain rfl : i = 3 := by omega
      have ct : decide (((3 : Nat) : Int) < 3) = false := rfl
      have ai := AI.out
      rw [RI.out.all HX.out] at ai
      have AK := Lib.hid ai
      have A2F := Lib.hid (arr_grown A21.out GI.out (by omega))
      have HBX := Lib.hid (HBv.out.trans (grownBelow GI.out (show g ≤ g + 3 by omega) (by have := HSV.out; omega)))
      have AF := Lib.hid (A2F.out.row (nc (wd (X * Y) 6)))
      have HBF := Lib.hid (below_row HBX.out (show g ≤ g + 2 by omega) (nc (wd (X * Y) 6)).toArray)
      clear hlt ai AI
      go_wp2_with (first | (refine Arr.loadL AK.out rfl 71 (.tmp 5) rfl rfl pro_u rfl pro_size (wd6 _) ?_) | (refine Arr.storeL A2F.out rfl 71 (.tmp 4) (.tmp 43) rfl rfl (nc (wd (X * Y) 6)) rfl pro_size (wd6 _) (wd6 _) (nc_one _) ?_))
      refine bodyPost_ret (v := .agg (nc (wd (X * Y) 6)).toArray) (by exact AF.out.ret rfl _ rfl pro_u rfl pro_size (wd6 _)) rfl ⟨rfl, by rw [HG.out]; exact HBF.out⟩
end Go.Proofs.Ytohpgfefdlccmaa.OneWW

/-
  onetime.read, mark, write, trim: what they hand back. Conditions: rows of at most 16 bytes; in each statement.
-/
namespace Go.Proofs.Ytohpgfefdlccmaa.OneWW
open Go.RowKit BytesW ArrW ArrG ArrL OneM OneN

theorem or_put (v c q : Nat) (hv : v < 2 ^ q) (hc : c * 2 ^ q < 18446744073709551616) (hq : q ≤ 63) : bits .or .u64 (v : Int) (IntKind.u64.wrap ((c : Int) * 2 ^ q)) = ((v ||| c * 2 ^ q : Nat) : Int) := by
  have e1 : IntKind.u64.wrap ((c : Int) * 2 ^ q) = ((c * 2 ^ q : Nat) : Int) := by
    have e : (c : Int) * 2 ^ q = ((c * 2 ^ q : Nat) : Int) := by push_cast; rfl
    rw [e]
    exact wrapN _ hc
  have h2 : 2 ^ q ≤ 2 ^ 63 := Nat.pow_le_pow_right (by decide) hq
  have h3 : (2 : Nat) ^ 63 = 9223372036854775808 := by decide
  rw [e1, Bits.or_u64 _ _ (by omega) hc]

set_option maxHeartbeats 8000000 in
set_option maxRecDepth 100000 in
theorem read_any (A : Option Addr) (b : List UInt8) (cap : Nat) (w : World) (hA : Bs w w.heap.size A b) (hb : b.length ≤ 16) :
    Calls Try.prog 38 #[.slice A b.length cap] w fun e w' => e = .returned (.agg (nc (wd (lev b) 3)).toArray) ∧ Below w.heap.size w w' := by
  have HA := Lib.hid hA
  clear hA
  go_enter Try.func38, Try.ntmps38
  go_upto_region 2 with (fail)
  generalize hW : World.alloc _ _ = W
  obtain ⟨H0, H1, hbw, hsz⟩ := start2 hW
  clear hW
  have A0 : Hid (Arr W w.heap.size 63 (nc (wd 0 3))) := Lib.hid H0
  have A1 : Hid (Arr W (w.heap.size + 1) 63 (nc (wd (lev (b.take 0)) 3))) := Lib.hid (by rw [List.take_zero]; exact H1)
  obtain ⟨g, hg⟩ : ∃ g, w.heap.size = g := ⟨_, rfl⟩
  have HBw : Hid (Below g w W) := Lib.hid (by rw [← hg]; exact hbw)
  have HSZ : Hid (W.heap.size = g + 2) := Lib.hid (by rw [← hg]; exact hsz)
  have HG := Lib.hid hg
  rw [hg] at A0 A1 HA
  simp only [hg]
  clear H0 H1 hbw hsz hg
  go_wp2
  go_loopw [8] (fun vk wr => ∃ k : Nat, k ≤ b.length ∧ vk = .int .i64 (k : Int) ∧ Arr wr (g + 1) 63 (nc (wd (lev (b.take k)) 3)) ∧ W.grownBy wr (some (g + 1))) (fun vk _ => b.length - (intOf vk).toNat)
  case atStart => exact ⟨0, by omega, rfl, A1.out, grownRefl _ _⟩
  case round =>
    clear A1
    obtain ⟨k, hk, rfl, ak, gk⟩ := hrel
    have AK := Lib.hid ak
    have GK := Lib.hid gk
    clear ak gk
    by_cases hlt : k < b.length
    · have ct : decide ((k : Int) < (b.length : Int)) = true := decide_eq_true (by omega)
      obtain ⟨ad, rfl, hadb, cx⟩ := HA.out.at_ hlt
      have BW := HBw.out.trans (grownBelow GK.out (show g ≤ g + 1 by omega) (by have := HSZ.out; omega))
      have cx1 := (BW.cell (p := ad.add k) (by rw [add_block]; exact hadb)).trans cx
      have hsn := lev_snoc b k hlt
      have hlv := lev_take_lt b k
      have hpb := put_byte (lev (b.take k)) k b[k].toNat 3 hlv b[k].toNat_lt (by omega)
      rw [← hsn] at hpb
      obtain ⟨x, hx⟩ : ∃ x, b[k].toNat = x := ⟨_, rfl⟩
      have hx256 : x < 256 := by rw [← hx]; exact b[k].toNat_lt
      rw [hx] at cx1 hpb
      obtain ⟨q, hq⟩ : ∃ q, k / 8 = q := ⟨_, rfl⟩
      obtain ⟨r, hr⟩ : ∃ r, k % 8 = r := ⟨_, rfl⟩
      obtain ⟨sh, hsh⟩ : ∃ sh, 8 * r = sh := ⟨_, rfl⟩
      rw [hq, hr, hsh] at hpb
      have hq3 : q < 3 := by omega
      have hr8 : r < 8 := by omega
      have co := AK.out.cell q
      rw [nc_getD _ q (by rw [wd_len]; exact hq3)] at co
      have fo := AK.out.frozen q
      obtain ⟨v, hv⟩ : ∃ v, (wd (lev (b.take k)) 3).getD q 0 = v := ⟨_, rfl⟩
      rw [hv] at co hpb
      have hor := or_put v x sh hpb.2.1 hpb.2.2 (by omega)
      obtain ⟨z, hz⟩ : ∃ z, v ||| x * 2 ^ sh = z := ⟨_, rfl⟩
      rw [hz] at hor hpb
      have hset := hpb.1
      have an := AK.out.drew.set q (.int .u64 (z : Int))
      rw [nc_set, hset] at an
      have gn := grownTrans GK.out (grownTrans (grownDrew wr (some (g + 1))) (grownSet wr.drew (g + 1) q (.int .u64 (z : Int))))
      have AN := Lib.hid an
      have GN := Lib.hid gn
      have d1 : (k : Int).tdiv 8 = (q : Int) := by rw [Int.tdiv_eq_ediv_of_nonneg (by omega)]; omega
      have d2 : (k : Int) / 8 = (q : Int) := by omega
      have m1 : (k : Int).tmod 8 = (r : Int) := by rw [Int.tmod_eq_emod_of_nonneg (by omega)]; omega
      have m2 : (k : Int) % 8 = (r : Int) := by omega
      have wq : IntKind.i64.wrap (q : Int) = (q : Int) := IntWalk.i64_in _ (by omega)
      have ws : IntKind.i64.wrap ((r : Int) * 8) = (sh : Int) := by rw [IntWalk.i64_in _ (by omega)]; omega
      have wx : IntKind.u64.wrap (x : Int) = (x : Int) := by rw [IntKind.wrap_u64]; omega
      have iq : (q : Int) < 3 := by omega
      have hs64 : sh < 64 := by omega
      have HOr := Lib.hid hor
      have HLT := Lib.hid hlt
      clear hx hq hr hsh hv hz hpb hset hsn hlv BW cx an gn hor hk
      go_upto_region 5 with (fail)
      refine Phase.wp_region_phases [([], [0, 1, 2, 3, 4, 5, 6, 7, 8, 9, 10, 11], some 12)] (fun W => W = wr.drew) (by kernel_rfl) (by kernel_rfl) (fun _ _ d _ _ h => by cases d <;> exact h) rfl ?_
      refine Phase.g_alone rfl (Phase.p_nil ?_)
      iterate 12 (refine Phase.q_step rfl (fun K hK => ?_); go_simp; refine hK _ ?_; clear hK K)
      refine Phase.q_nil ?_
      rintro _ rfl K hK
      go_simp
      rw [HOr.out]
      obtain ⟨w2, hw2⟩ : ∃ x, wr.drew.setCell ⟨g + 1, q, none⟩ (.int .u64 (z : Int)) = x := ⟨_, rfl⟩
      rw [hw2] at AN GN
      refine hK _ _ ⟨fun W => W = w2, hw2, ?_⟩
      clear hK K hw2 co fo cx1
      refine Phase.g_nil ?_
      intro wz hz
      rw [show wz = w2 from hz]
      clear hz
      go_wp2
      go_roundw
      case rel => exact ⟨k + 1, by have := HLT.out; omega, by go_num, AN.out, GN.out⟩
      case measure => have := HLT.out; simp [intOf]; omega
    · obtain rfl : k = b.length := by omega
      have ct : decide ((b.length : Int) < (b.length : Int)) = false := decide_eq_false (by omega)
      rw [List.take_length] at AK
      have A0F := Lib.hid (arr_grown A0.out GK.out (by omega))
      have HBX := Lib.hid (HBw.out.trans (grownBelow GK.out (show g ≤ g + 1 by omega) (by have := HSZ.out; omega)))
      have AF := Lib.hid (A0F.out.row (nc (wd (lev b) 3)))
      have HBF := Lib.hid (below_row HBX.out (Nat.le_refl g) (nc (wd (lev b) 3)).toArray)
      clear hlt
      go_wp2_with (first | (refine Arr.loadL AK.out rfl 63 (.tmp 3) rfl rfl num_u rfl num_size (wd3 _) ?_) | (refine Arr.storeL A0F.out rfl 63 (.tmp 2) (.tmp 26) rfl rfl (nc (wd (lev b) 3)) rfl num_size (wd3 _) (wd3 _) (nc_one _) ?_))
      refine bodyPost_ret (v := .agg (nc (wd (lev b) 3)).toArray) (by exact AF.out.ret rfl _ rfl num_u rfl num_size (wd3 _)) rfl ⟨rfl, by rw [HG.out]; exact HBF.out⟩
end Go.Proofs.Ytohpgfefdlccmaa.OneWW

/-
  onetime.mark, trim, write: what they hand back. Conditions: a row of at most 16 bytes for the first.
-/
namespace Go.Proofs.Ytohpgfefdlccmaa.OneWW
open Go.RowKit BytesW ArrW ArrG ArrL OneM OneN OneR OneA16

theorem bs_getD (L : List UInt8) (k : Nat) (h : k < L.length) : (Lib.byteCells L)[k]? = some (.int .u8 ((L.getD k 0).toNat : Int)) := by
  unfold Lib.byteCells
  rw [List.getElem?_map, List.getElem?_eq_getElem h]
  simp [List.getD_eq_getElem?_getD, List.getElem?_eq_getElem h]
theorem bs_set (L : List UInt8) (k : Nat) (x : UInt8) : (Lib.byteCells L).set k (.int .u8 (x.toNat : Int)) = Lib.byteCells (L.set k x) := by simp [Lib.byteCells, List.map_set]

set_option maxHeartbeats 8000000 in
set_option maxRecDepth 100000 in
theorem mark_any (A : Option Addr) (b : List UInt8) (cap : Nat) (w : World) (hA : Bs w w.heap.size A b) (hb : b.length ≤ 16) :
    Calls Try.prog 43 #[.slice A b.length cap] w fun e w' => e = .returned (.agg (nc (wd (lev (b ++ [1])) 3)).toArray) ∧ Below w.heap.size w w' := by
  have HA := Lib.hid hA
  clear hA
  go_enter Try.func43, Try.ntmps43
  go_upto_region 1 with (fail)
  generalize hW : World.alloc _ _ = W
  obtain ⟨H0, hbw, hsz⟩ := start1 hW
  clear hW
  have A0 : Hid (Arr W w.heap.size 63 (nc (wd 0 3))) := Lib.hid H0
  have HR := Lib.hid (read_any A b cap W ((HA.out.below hbw).more (by omega)) hb)
  obtain ⟨g, hg⟩ : ∃ g, w.heap.size = g := ⟨_, rfl⟩
  have HBw : Hid (Below g w W) := Lib.hid (by rw [← hg]; exact hbw)
  have HSZ : Hid (W.heap.size = g + 1) := Lib.hid (by rw [← hg]; exact hsz)
  have HG := Lib.hid hg
  rw [hg] at A0
  simp only [hg]
  clear H0 hbw hsz hg HA
  go_wp2_with fail
  refine HR.out.mono ?_
  clear HR
  rintro e w1 ⟨rfl, b1⟩
  have A01 := Lib.hid (A0.out.below b1 A0.out.lt)
  have HB1 := Lib.hid (HBw.out.trans (b1.mono (by have := HSZ.out; omega)))
  have HZ1 := Lib.hid (show g + 1 ≤ w1.heap.size by have := HSZ.out; have := b1.size; omega)
  clear b1 A0 HBw HSZ
  go_upto_region 2 with (show wpList _ _ _ (⟨_, Op.store _ _ _, _, _, _, _⟩ :: _) _ _; refine Arr.storeL (Arr.new w1 _ _) rfl 63 (.tmp 3) (.tmp 5) rfl rfl (nc (wd (lev b) 3)) rfl num_size (by rfl) (wd3 _) (nc_one _) ?_)
  generalize hw2 : World.setRow _ _ _ = w2
  obtain ⟨a2, b2, z2⟩ := filled hw2
  obtain ⟨p, hp⟩ : ∃ p, w1.heap.size = p := ⟨_, rfl⟩
  have A02 := Lib.hid (A01.out.below b2 A01.out.lt)
  have HB2 := Lib.hid (HB1.out.trans (b2.mono (show g ≤ w1.heap.size by have := HZ1.out; omega)))
  have hgp : g + 1 ≤ p := by rw [← hp]; exact HZ1.out
  rw [hp] at a2 z2 ⊢
  have A2 := Lib.hid a2
  have HZ2 := Lib.hid z2
  clear a2 b2 z2 hw2 hp A01 HB1 HZ1
  obtain ⟨k, hk⟩ : ∃ k, b.length = k := ⟨_, rfl⟩
  have hlv := lev_lt b
  have hmk := lev_mark b
  rw [hk] at hlv hmk hb ⊢
  have hpb := put_byte (lev b) k 1 3 hlv (by decide) (by omega)
  rw [← hmk] at hpb
  obtain ⟨q, hq⟩ : ∃ q, k / 8 = q := ⟨_, rfl⟩
  obtain ⟨r, hr⟩ : ∃ r, k % 8 = r := ⟨_, rfl⟩
  obtain ⟨sh, hsh⟩ : ∃ sh, 8 * r = sh := ⟨_, rfl⟩
  rw [hq, hr, hsh] at hpb
  have hq3 : q < 3 := by omega
  have hr8 : r < 8 := by omega
  have co := A2.out.cell q
  rw [nc_getD _ q (by rw [wd_len]; exact hq3)] at co
  have fo := A2.out.frozen q
  obtain ⟨v, hv⟩ : ∃ v, (wd (lev b) 3).getD q 0 = v := ⟨_, rfl⟩
  rw [hv] at co hpb
  have hor := or_put v 1 sh hpb.2.1 hpb.2.2 (by omega)
  obtain ⟨z, hz⟩ : ∃ z, v ||| 1 * 2 ^ sh = z := ⟨_, rfl⟩
  rw [hz] at hor hpb
  have hset := hpb.1
  have an := A2.out.drew.set q (.int .u64 (z : Int))
  rw [nc_set, hset] at an
  have bn := HB2.out.trans (grownBelow (grownTrans (grownDrew w2 (some p)) (grownSet w2.drew p q (.int .u64 (z : Int)))) (show g ≤ p by omega) (by have := HZ2.out; omega))
  have a0n := (A02.out.drew).other ⟨p, q, none⟩ (.int .u64 (z : Int)) (show p ≠ g by omega)
  have AN := Lib.hid an
  have BN := Lib.hid bn
  have A0N := Lib.hid a0n
  have d1 : (k : Int).tdiv 8 = (q : Int) := by rw [Int.tdiv_eq_ediv_of_nonneg (by omega)]; omega
  have d2 : (k : Int) / 8 = (q : Int) := by omega
  have m1 : (k : Int).tmod 8 = (r : Int) := by rw [Int.tmod_eq_emod_of_nonneg (by omega)]; omega
  have m2 : (k : Int) % 8 = (r : Int) := by omega
  have wq : IntKind.i64.wrap (q : Int) = (q : Int) := IntWalk.i64_in _ (by omega)
  have ws : IntKind.i64.wrap ((r : Int) * 8) = (sh : Int) := by rw [IntWalk.i64_in _ (by omega)]; omega
  have iq : (q : Int) < 3 := by omega
  have hs64 : sh < 64 := by omega
  have hor2 : bits .or .u64 (v : Int) (IntKind.u64.wrap (2 ^ sh)) = (z : Int) := by rw [← hor]; simp
  have HOr := Lib.hid hor2
  clear hq hr hsh hv hz hpb hset hlv hmk an bn a0n hor hor2 hk hb A02 HB2 HZ2 hgp
  go_upto_region 2 with (fail)
  refine Phase.wp_region_phases [([], [0, 1, 2, 3, 4, 5, 6, 7, 8, 9, 10, 11], some 12)] (fun W => W = w2.drew) (by kernel_rfl) (by kernel_rfl) (fun _ _ d _ _ h => by cases d <;> exact h) rfl ?_
  refine Phase.g_alone rfl (Phase.p_nil ?_)
  iterate 12 (refine Phase.q_step rfl (fun K hK => ?_); go_simp; refine hK _ ?_; clear hK K)
  refine Phase.q_nil ?_
  rintro _ rfl K hK
  go_simp
  rw [HOr.out]
  obtain ⟨w3, hw3⟩ : ∃ x, w2.drew.setCell ⟨p, q, none⟩ (.int .u64 (z : Int)) = x := ⟨_, rfl⟩
  rw [hw3] at AN BN A0N
  refine hK _ _ ⟨fun W => W = w3, hw3, ?_⟩
  clear hK K hw3 co fo
  refine Phase.g_nil ?_
  intro wz hz
  rw [show wz = w3 from hz]
  clear hz
  have AF := Lib.hid (A0N.out.row (nc (wd (lev (b ++ [1])) 3)))
  have HBF := Lib.hid (below_row BN.out (Nat.le_refl g) (nc (wd (lev (b ++ [1])) 3)).toArray)
  go_wp2_with (first | (show wpList _ _ _ (⟨_, Op.load _ _, _, _, _, _⟩ :: _) _ _; refine Arr.loadL AN.out rfl 63 (.tmp 3) rfl rfl num_u rfl num_size (wd3 _) ?_) | (show wpList _ _ _ (⟨_, Op.store _ _ _, _, _, _, _⟩ :: _) _ _; refine Arr.storeL A0N.out rfl 63 (.tmp 2) (.tmp 18) rfl rfl (nc (wd (lev (b ++ [1])) 3)) rfl num_size (wd3 _) (wd3 _) (nc_one _) ?_))
  refine bodyPost_ret (v := .agg (nc (wd (lev (b ++ [1])) 3)).toArray) (by exact AF.out.ret rfl _ rfl num_u rfl num_size (wd3 _)) rfl ⟨rfl, by rw [HG.out]; exact HBF.out⟩

set_option maxHeartbeats 4000000 in
set_option maxRecDepth 100000 in
theorem trim_any (key : List UInt8) (hk : 16 ≤ key.length) (w : World) :
    Calls Try.prog 37 #[.agg (nc (wd (lev (key.take 16)) 3)).toArray] w fun e w' => e = .returned (.agg (nc (wd (lev (clamp key)) 3)).toArray) ∧ Below w.heap.size w w' := by
  have HC := Lib.hid (clamp_wd key hk)
  obtain ⟨X, hX⟩ : ∃ X, lev (key.take 16) = X := ⟨_, rfl⟩
  rw [hX] at HC ⊢
  clear hX
  go_enter Try.func37, Try.ntmps37
  go_upto_region 1 with (fail)
  generalize hW : World.alloc _ _ = W
  obtain ⟨H0, H1, hbw, hsz⟩ := start2 hW
  clear hW
  have A0 : Hid (Arr W w.heap.size 63 (nc (wd X 3))) := Lib.hid H0
  have A1 : Hid (Arr W (w.heap.size + 1) 63 (nc (wd 0 3))) := Lib.hid H1
  obtain ⟨g, hg⟩ : ∃ g, w.heap.size = g := ⟨_, rfl⟩
  have HBw : Hid (Below g w W) := Lib.hid (by rw [← hg]; exact hbw)
  have HG := Lib.hid hg
  rw [hg] at A0 A1
  simp only [hg]
  have c0 := A0.out.cell 0
  rw [nc_getD _ 0 (by rw [wd_len]; decide)] at c0
  have c1 := A0.out.cell 1
  rw [nc_getD _ 1 (by rw [wd_len]; decide)] at c1
  have l0 := wd_lt X 3 0
  have l1 := wd_lt X 3 1
  obtain ⟨x0, h0⟩ : ∃ z, (wd X 3).getD 0 0 = z := ⟨_, rfl⟩
  obtain ⟨x1, h1⟩ : ∃ z, (wd X 3).getD 1 0 = z := ⟨_, rfl⟩
  rw [h0] at c0 l0 HC
  rw [h1] at c1 l1 HC
  have f0 := Bits.and_u64 x0 1152921487695413247 l0 (by decide)
  have f1 := Bits.and_u64 x1 1152921487695413244 l1 (by decide)
  obtain ⟨y0, k0⟩ : ∃ z, x0 &&& 1152921487695413247 = z := ⟨_, rfl⟩
  obtain ⟨y1, k1⟩ : ∃ z, x1 &&& 1152921487695413244 = z := ⟨_, rfl⟩
  rw [k0] at f0 HC
  rw [k1] at f1 HC
  have g0 : bits .and .u64 (x0 : Int) 1152921487695413247 = (y0 : Int) := f0
  have g1 : bits .and .u64 (x1 : Int) 1152921487695413244 = (y1 : Int) := f1
  have hE : #[Value.int .u64 (y0 : Int), .int .u64 (y1 : Int), .int .u64 0] = (nc (wd (lev (clamp key)) 3)).toArray := by rw [HC.out]; rfl
  have HBd := Lib.hid (fun w => (build2 (y0 : Int) (y1 : Int) w))
  rw [hE] at HBd
  have AF := Lib.hid (A1.out.row (nc (wd (lev (clamp key)) 3)))
  have HBF := Lib.hid (below_row HBw.out (show g ≤ g + 1 by omega) (nc (wd (lev (clamp key)) 3)).toArray)
  clear H0 H1 hbw hsz hg h0 h1 l0 l1 k0 k1 f0 f1 hE HC
  go_wp2_with (first | (show wpList _ _ _ (⟨_, Op.build _ _, _, _, _, _⟩ :: _) _ _; refine buildL rfl rfl rfl (HBd.out _) ?_) | (show wpList _ _ _ (⟨_, Op.store _ _ _, _, _, _, _⟩ :: _) _ _; refine Arr.storeL A1.out rfl 63 (.tmp 2) (.tmp 9) rfl rfl (nc (wd (lev (clamp key)) 3)) rfl num_size (wd3 _) (wd3 _) (nc_one _) ?_))
  refine bodyPost_ret (v := .agg (nc (wd (lev (clamp key)) 3)).toArray) (by exact AF.out.ret rfl _ rfl num_u rfl num_size (wd3 _)) rfl ⟨rfl, by rw [HG.out]; exact HBF.out⟩

set_option maxHeartbeats 4000000 in
set_option maxRecDepth 100000 in
theorem write_any (X : Nat) (w : World) :
    Calls Try.prog 44 #[.agg (nc (wd X 3)).toArray] w fun e w' => e = .returned (.agg (Lib.byteCells (le16 X)).toArray) ∧ Below w.heap.size w w' := by
  go_enter Try.func44, Try.ntmps44
  go_upto_region 2 with (fail)
  generalize hW : World.alloc _ _ = W
  obtain ⟨H0, H1, H2, hbw, hsz⟩ := start3 hW
  clear hW
  have A0 : Hid (Arr W w.heap.size 63 (nc (wd X 3))) := Lib.hid H0
  have A1 : Hid (Arr W (w.heap.size + 1) 33 (Lib.byteCells (List.replicate 16 0))) := Lib.hid H1
  have A2 : Hid (Arr W (w.heap.size + 2) 33 (Lib.byteCells (outS X 0))) := Lib.hid (by rw [outS_zero]; exact H2)
  obtain ⟨g, hg⟩ : ∃ g, w.heap.size = g := ⟨_, rfl⟩
  have HBw : Hid (Below g w W) := Lib.hid (by rw [← hg]; exact hbw)
  have HSZ : Hid (W.heap.size = g + 3) := Lib.hid (by rw [← hg]; exact hsz)
  have HG := Lib.hid hg
  rw [hg] at A0 A1 A2
  simp only [hg]
  clear H0 H1 H2 hbw hsz hg
  go_wp2
  go_loopw [5] (fun vk wr => ∃ k : Nat, k ≤ 16 ∧ vk = .int .i64 (k : Int) ∧ Arr wr (g + 2) 33 (Lib.byteCells (outS X k)) ∧ W.grownBy wr (some (g + 2))) (fun vk _ => 16 - (intOf vk).toNat)
  case atStart => exact ⟨0, by omega, rfl, A2.out, grownRefl _ _⟩
  case round =>
    clear A2
    obtain ⟨k, hk, rfl, ak, gk⟩ := hrel
    have AK := Lib.hid ak
    have GK := Lib.hid gk
    clear ak gk
    by_cases hlt : k < 16
    · have ct : decide ((k : Int) < 16) = true := decide_eq_true (by omega)
      have hset := outS_set X k hlt
      have hgb := get_byte X 3 k (by omega)
      obtain ⟨q, hq⟩ : ∃ q, k / 8 = q := ⟨_, rfl⟩
      obtain ⟨r, hr⟩ : ∃ r, k % 8 = r := ⟨_, rfl⟩
      obtain ⟨sh, hsh⟩ : ∃ sh, 8 * r = sh := ⟨_, rfl⟩
      rw [hq, hr, hsh] at hgb
      have hq3 : q < 3 := by omega
      have cx := (arr_grown A0.out GK.out (by omega)).cell q
      rw [nc_getD _ q (by rw [wd_len]; exact hq3)] at cx
      obtain ⟨v, hv⟩ : ∃ v, (wd X 3).getD q 0 = v := ⟨_, rfl⟩
      rw [hv] at cx hgb
      obtain ⟨y, hy⟩ : ∃ y, UInt8.ofNat (X / 256 ^ k) = y := ⟨_, rfl⟩
      have wy : IntKind.u8.wrap ((v : Int) / 2 ^ sh) = (y.toNat : Int) := by
        rw [← hy, UInt8.toNat_ofNat', IntKind.wrap_u8, show (2 : Nat) ^ 8 = 256 by decide, ← hgb]
        push_cast
        rfl
      have wy' : IntKind.u8.wrap ((v : Int) / 2 ^ (min sh 64)) = (y.toNat : Int) := by rw [Nat.min_eq_left (by omega)]; exact wy
      rw [hy] at hset
      have co := AK.out.cell k
      rw [bs_getD _ k (by rw [outS_len X k (by omega)]; exact hlt)] at co
      have fo := AK.out.frozen k
      have an := AK.out.set k (.int .u8 (y.toNat : Int))
      rw [bs_set, hset] at an
      have AN := Lib.hid an
      have GN := Lib.hid (grownTrans GK.out (grownSet wr (g + 2) k (.int .u8 (y.toNat : Int))))
      generalize (outS X k).getD k 0 = old at co
      have d1 : (k : Int).tdiv 8 = (q : Int) := by rw [Int.tdiv_eq_ediv_of_nonneg (by omega)]; omega
      have d2 : (k : Int) / 8 = (q : Int) := by omega
      have m1 : (k : Int).tmod 8 = (r : Int) := by rw [Int.tmod_eq_emod_of_nonneg (by omega)]; omega
      have m2 : (k : Int) % 8 = (r : Int) := by omega
      have wq : IntKind.i64.wrap (q : Int) = (q : Int) := IntWalk.i64_in _ (by omega)
      have wr' : IntKind.i64.wrap (r : Int) = (r : Int) := IntWalk.i64_in _ (by omega)
      have ws : IntKind.i64.wrap ((r : Int) * 8) = (sh : Int) := by rw [IntWalk.i64_in _ (by omega)]; omega
      have iq : (q : Int) < 3 := by omega
      have ik : (k : Int) < 16 := by omega
      have hs64 : sh < 64 := by omega
      clear hq hr hsh hv hy hset hgb an hk
      go_wp2
      go_roundw
      case rel => exact ⟨k + 1, by omega, by go_num, AN.out, GN.out⟩
      case measure => simp [intOf]; omega
    · obtain rfl : k = 16 := by omega
      have ct : decide (((16 : Nat) : Int) < 16) = false := rfl
      rw [outS_all] at AK
      have N1 := Lib.hid (show (Lib.byteCells (le16 X)).length = 16 by rw [Lib.byteCells_length, le_len])
      have A1F := Lib.hid (arr_grown A1.out GK.out (by omega))
      have HBX := Lib.hid (HBw.out.trans (grownBelow GK.out (show g ≤ g + 2 by omega) (by have := HSZ.out; omega)))
      have AF := Lib.hid (A1F.out.row (Lib.byteCells (le16 X)))
      have HBF := Lib.hid (below_row HBX.out (show g ≤ g + 1 by omega) (Lib.byteCells (le16 X)).toArray)
      clear hlt
      go_wp2_with (first | (show wpList _ _ _ (⟨_, Op.load _ _, _, _, _, _⟩ :: _) _ _; refine Arr.loadL AK.out rfl 33 (.tmp 3) rfl rfl a16 rfl a16_size N1.out ?_) | (show wpList _ _ _ (⟨_, Op.store _ _ _, _, _, _, _⟩ :: _) _ _; refine Arr.storeL A1F.out rfl 33 (.tmp 2) (.tmp 20) rfl rfl (Lib.byteCells (le16 X)) rfl a16_size (by rfl) N1.out (bytes_one _) ?_))
      refine bodyPost_ret (v := .agg (Lib.byteCells (le16 X)).toArray) (by exact AF.out.ret rfl _ rfl a16 rfl a16_size N1.out) rfl ⟨rfl, by rw [HG.out]; exact HBF.out⟩
end Go.Proofs.Ytohpgfefdlccmaa.OneWW

/-
  onetime.remainder, formed: what they hand back. Conditions: in each statement.
-/
namespace Go.Proofs.Ytohpgfefdlccmaa.OneWW
open Go.RowKit BytesW ArrW ArrG ArrL OneM OneN OneR OneA16

set_option maxHeartbeats 1000000 in
theorem formed_any (A : Option Addr) (l : List UInt8) (c : Nat) (w : World) :
    Calls Try.prog 28 #[.slice A l.length c] w fun e w' => e = .returned (.bool (decide (l.length = 32))) ∧ w = w' := by
  by_cases h1 : l.length = 32
  · have t1 : ((l.length : Int) == 32) = true := by rw [beq_iff_eq]; omega
    rw [decide_eq_true h1]
    clear h1
    go_enter Try.func28, Try.ntmps28
    go_wp2
    go_ret
    exact ⟨rfl, rfl⟩
  · have t1 : ((l.length : Int) == 32) = false := by rw [beq_eq_false_iff_ne]; omega
    rw [decide_eq_false h1]
    clear h1
    go_enter Try.func28, Try.ntmps28
    go_wp2
    go_ret
    exact ⟨rfl, rfl⟩

set_option maxHeartbeats 4000000 in
set_option maxRecDepth 100000 in
theorem remainder_any (X : Nat) (hX : Tot X) (w : World) :
    Calls Try.prog 45 #[.agg (nc (wd X 3)).toArray] w fun e w' => e = .returned (.agg (nc (wd (X + 5 * ((X + 5) / 1361129467683753853853498429727072845824)) 3)).toArray) ∧ Below w.heap.size w w' := by
  obtain ⟨ht1, ht2⟩ := times_wd X hX
  have l2 := wd_lt (X + 5) 3 2
  obtain ⟨x2, hx2⟩ : ∃ z, (wd (X + 5) 3).getD 2 0 = z := ⟨_, rfl⟩
  obtain ⟨t, ht⟩ : ∃ t, (X + 5) / 1361129467683753853853498429727072845824 = t := ⟨_, rfl⟩
  rw [hx2] at ht1 l2
  rw [ht] at ht1 ht2 ⊢
  have hix : ∀ u : World, (Instr.index 63 (.agg (nc (wd (X + 5) 3)).toArray) (.int .i64 2)).run Try.prog u = .ok (.int .u64 (x2 : Int)) u := fun u => by
    have h := idx3 u (X + 5) 2 (by decide)
    rw [← wd_at (X + 5) 3 2 (by decide), hx2] at h
    exact h
  have s1 : (x2 : Int) / 4 = (t : Int) := by omega
  obtain ⟨f, hf⟩ : ∃ f, 5 * t = f := ⟨_, rfl⟩
  have s2 : IntKind.u64.wrap (5 * (t : Int)) = (f : Int) := by rw [IntKind.wrap_u64]; omega
  have hb5 : Hid (∀ w, (Instr.build 63 #[(0, .int .u64 5)]).run Try.prog w = .ok (.agg (nc (wd 5 3)).toArray) w) := Lib.hid (fun w => by rw [five_wd 5 (by decide)]; exact build1 5 w)
  have hbf : Hid (∀ w, (Instr.build 63 #[(0, .int .u64 (f : Int))]).run Try.prog w = .ok (.agg (nc (wd f 3)).toArray) w) := Lib.hid (fun w => by rw [five_wd f (by omega)]; exact build1 f w)
  rw [hf]
  clear hx2 ht ht1 ht2 hf
  go_enter Try.func45, Try.ntmps45
  go_upto_region 1 with (fail)
  generalize hW : World.alloc _ _ = W
  obtain ⟨H0, H1, hbw, hsz⟩ := start2 hW
  clear hW
  have A0 : Hid (Arr W w.heap.size 63 (nc (wd X 3))) := Lib.hid H0
  have A1 : Hid (Arr W (w.heap.size + 1) 63 (nc (wd 0 3))) := Lib.hid H1
  obtain ⟨g, hg⟩ : ∃ g, w.heap.size = g := ⟨_, rfl⟩
  have HBw : Hid (Below g w W) := Lib.hid (by rw [← hg]; exact hbw)
  have HSZ : Hid (g ≤ W.heap.size) := Lib.hid (by rw [← hg]; omega)
  have HG := Lib.hid hg
  rw [hg] at A0 A1
  simp only [hg]
  clear H0 H1 hbw hsz hg
  have HA1 := Lib.hid (add_any X 5 W)
  go_wp2_with (first | (show wpList _ _ _ (⟨_, Op.build _ _, _, _, _, _⟩ :: _) _ _; refine buildL rfl rfl rfl (hb5.out _) ?_) | (show wpList _ _ _ (⟨_, Op.load _ _, _, _, _, _⟩ :: _) _ _; refine Arr.loadL A0.out rfl 63 (.tmp 1) rfl rfl num_u rfl num_size (wd3 _) ?_))
  refine HA1.out.mono ?_
  clear HA1
  rintro e w1 ⟨rfl, b1⟩
  have A01 := Lib.hid (A0.out.below b1 A0.out.lt)
  have A11 := Lib.hid (A1.out.below b1 A1.out.lt)
  have HB1 := Lib.hid (HBw.out.trans (b1.mono HSZ.out))
  have HZ1 := Lib.hid (show g ≤ w1.heap.size from Nat.le_trans HSZ.out b1.size)
  clear b1 A0 A1 HBw HSZ
  have HA2 := Lib.hid (add_any X f w1)
  go_wp2_with (first | (show wpList _ _ _ (⟨_, Op.build _ _, _, _, _, _⟩ :: _) _ _; refine buildL rfl rfl rfl (hbf.out _) ?_) | (show wpList _ _ _ (⟨_, Op.load _ _, _, _, _, _⟩ :: _) _ _; refine Arr.loadL A01.out rfl 63 (.tmp 1) rfl rfl num_u rfl num_size (wd3 _) ?_))
  refine HA2.out.mono ?_
  clear HA2
  rintro e w2 ⟨rfl, b2⟩
  have A12 := Lib.hid (A11.out.below b2 A11.out.lt)
  have HB2 := Lib.hid (HB1.out.trans (b2.mono HZ1.out))
  have AF := Lib.hid (A12.out.row (nc (wd (X + f) 3)))
  have HBF := Lib.hid (below_row HB2.out (show g ≤ g + 1 by omega) (nc (wd (X + f) 3)).toArray)
  clear b2
  go_wp2_with (show wpList _ _ _ (⟨_, Op.store _ _ _, _, _, _, _⟩ :: _) _ _; refine Arr.storeL A12.out rfl 63 (.tmp 2) (.tmp 13) rfl rfl (nc (wd (X + f) 3)) rfl num_size (wd3 _) (wd3 _) (nc_one _) ?_)
  refine bodyPost_ret (v := .agg (nc (wd (X + f) 3)).toArray) (by exact AF.out.ret rfl _ rfl num_u rfl num_size (wd3 _)) rfl ⟨rfl, by rw [HG.out]; exact HBF.out⟩

end Go.Proofs.Ytohpgfefdlccmaa.OneWW

/-
  onetime.reduce: what it hands back. Conditions: in each statement.
-/
namespace Go.Proofs.Ytohpgfefdlccmaa.OneWW
open Go.RowKit BytesW ArrW ArrG ArrL OneM OneN OneR OneA16

set_option maxHeartbeats 4000000 in
set_option maxRecDepth 100000 in
theorem reduce_any (X : Nat) (hX : X < 57896044618658097711785492504343953926634992332820282019728792003956564819968) (w : World) :
    Calls Try.prog 40 #[.agg (nc (wd X 6)).toArray] w fun e w' => e = .returned (.agg (nc (wd (red X) 3)).toArray) ∧ Below w.heap.size w w' := by
  have E1 := Lib.hid (below_wd X)
  have E2 := Lib.hid (above_wd X (by omega))
  have hq1 : X / 1361129467683753853853498429727072845824 < 42535295865117307932921825928971026432 := by omega
  have hred : red X = X % 1361129467683753853853498429727072845824 + X / 1361129467683753853853498429727072845824 * 5 := by unfold red; omega
  rw [hred]
  obtain ⟨lo, hlo⟩ : ∃ z, X % 1361129467683753853853498429727072845824 = z := ⟨_, rfl⟩
  obtain ⟨up, hup⟩ : ∃ z, X / 1361129467683753853853498429727072845824 = z := ⟨_, rfl⟩
  rw [hlo] at E1 ⊢
  rw [hup] at E2 hq1 ⊢
  have E3 := Lib.hid (back_wd (up * 5) (by omega))
  have HMu := Lib.hid (fun w => mul_any up 5 (by rw [show (18446744073709551616 : Nat) ^ 3 = 6277101735386680763835789423207666416102355444464034512896 by decide]; omega) (by decide) w)
  obtain ⟨bk, hbk⟩ : ∃ z, up * 5 = z := ⟨_, rfl⟩
  rw [hbk] at E3 HMu ⊢
  have l2 := wd_lt X 6 2
  have l3 := wd_lt X 6 3
  have K0 := nc_getD (wd X 6) 0 (by rw [wd_len]; decide)
  have K1 := nc_getD (wd X 6) 1 (by rw [wd_len]; decide)
  have K2 := nc_getD (wd X 6) 2 (by rw [wd_len]; decide)
  have K3 := nc_getD (wd X 6) 3 (by rw [wd_len]; decide)
  have M0 := nc_getD (wd bk 6) 0 (by rw [wd_len]; decide)
  have M1 := nc_getD (wd bk 6) 1 (by rw [wd_len]; decide)
  obtain ⟨x0, h0⟩ : ∃ z, (wd X 6).getD 0 0 = z := ⟨_, rfl⟩
  obtain ⟨x1, h1⟩ : ∃ z, (wd X 6).getD 1 0 = z := ⟨_, rfl⟩
  obtain ⟨x2, h2⟩ : ∃ z, (wd X 6).getD 2 0 = z := ⟨_, rfl⟩
  obtain ⟨x3, h3⟩ : ∃ z, (wd X 6).getD 3 0 = z := ⟨_, rfl⟩
  obtain ⟨m0, i0⟩ : ∃ z, (wd bk 6).getD 0 0 = z := ⟨_, rfl⟩
  obtain ⟨m1, i1⟩ : ∃ z, (wd bk 6).getD 1 0 = z := ⟨_, rfl⟩
  rw [h0] at K0 E1
  rw [h1] at K1 E1
  rw [h2] at K2 E1 E2 l2
  rw [h3] at K3 E2 l3
  rw [i0] at M0 E3
  rw [i1] at M1 E3
  obtain ⟨y2, j2⟩ : ∃ z, x2 % 4 = z := ⟨_, rfl⟩
  have f1 : bits .and .u64 (x2 : Int) 3 = (y2 : Int) := by
    have h := Bits.and_u64 x2 3 l2 (by decide)
    rw [show (3 : Nat) = 2 ^ 2 - 1 from rfl, Nat.and_two_pow_sub_one_eq_mod, show (2 : Nat) ^ 2 = 4 from rfl, j2] at h
    exact h
  obtain ⟨u2, j3⟩ : ∃ z, x2 / 4 = z := ⟨_, rfl⟩
  obtain ⟨u3, j4⟩ : ∃ z, x3 / 4 = z := ⟨_, rfl⟩
  obtain ⟨s3, j5⟩ : ∃ z, x3 % 4 * 4611686018427387904 = z := ⟨_, rfl⟩
  have f2 : (x2 : Int) / 4 = (u2 : Int) := by omega
  have f3 : (x3 : Int) / 4 = (u3 : Int) := by omega
  have f4 : IntKind.u64.wrap ((x3 : Int) * 4611686018427387904) = (s3 : Int) := by rw [IntKind.wrap_u64]; omega
  have f6 : bits .or .u64 (u2 : Int) (s3 : Int) = ((u2 ||| s3 : Nat) : Int) := Bits.or_u64 u2 s3 (by omega) (by omega)
  rw [j2] at E1
  rw [j3, j4, j5] at E2
  obtain ⟨o2, j6⟩ : ∃ z, u2 ||| s3 = z := ⟨_, rfl⟩
  rw [j6] at f6 E2
  have B1 : Hid (∀ w, (Instr.build 63 #[(0, .int .u64 (x0 : Int)), (1, .int .u64 (x1 : Int)), (2, .int .u64 (y2 : Int))]).run Try.prog w = .ok (.agg (nc (wd lo 3)).toArray) w) := Lib.hid (fun w => by rw [E1.out]; exact build3 _ _ _ w)
  have B2 : Hid (∀ w, (Instr.build 63 #[(0, .int .u64 (o2 : Int)), (1, .int .u64 (u3 : Int))]).run Try.prog w = .ok (.agg (nc (wd up 3)).toArray) w) := Lib.hid (fun w => by rw [E2.out]; exact build2 _ _ w)
  have B3 : Hid (∀ w, (Instr.build 63 #[(0, .int .u64 (m0 : Int)), (1, .int .u64 (m1 : Int))]).run Try.prog w = .ok (.agg (nc (wd bk 3)).toArray) w) := Lib.hid (fun w => by rw [E3.out]; exact build2 _ _ w)
  have B5 : Hid (∀ w, (Instr.build 63 #[(0, .int .u64 5)]).run Try.prog w = .ok (.agg (nc (wd 5 3)).toArray) w) := Lib.hid (fun w => by rw [five_wd 5 (by decide)]; exact build1 5 w)
  have HK0 := Lib.hid K0
  have HK1 := Lib.hid K1
  have HK2 := Lib.hid K2
  have HK3 := Lib.hid K3
  have HM0 := Lib.hid M0
  have HM1 := Lib.hid M1
  clear hX hq1 hred hlo hup hbk h0 h1 h2 h3 i0 i1 j2 j3 j4 j5 j6 K0 K1 K2 K3 M0 M1 E1 E2 E3 l2 l3
  go_enter Try.func40, Try.ntmps40
  go_upto_region 1 with (fail)
  generalize hW : World.alloc _ _ = W
  obtain ⟨H0, H1, hbw, hsz⟩ := start2 hW
  clear hW
  have A0 : Hid (Arr W w.heap.size 71 (nc (wd X 6))) := Lib.hid H0
  have A1 : Hid (Arr W (w.heap.size + 1) 63 (nc (wd 0 3))) := Lib.hid H1
  obtain ⟨g, hg⟩ : ∃ g, w.heap.size = g := ⟨_, rfl⟩
  have HBw : Hid (Below g w W) := Lib.hid (by rw [← hg]; exact hbw)
  have HSZ : Hid (W.heap.size = g + 2) := Lib.hid (by rw [← hg]; omega)
  have HG := Lib.hid hg
  rw [hg] at A0 A1
  simp only [hg]
  clear H0 H1 hbw hsz hg
  have c0 := (A0.out.cell 0).trans HK0.out
  have c1 := (A0.out.cell 1).trans HK1.out
  have c2 := (A0.out.cell 2).trans HK2.out
  go_upto_region 2 with (first | (show wpList _ _ _ (⟨_, Op.build _ _, _, _, _, _⟩ :: _) _ _; refine buildL rfl rfl rfl (B1.out _) ?_) | (show wpList _ _ _ (⟨_, Op.store _ _ _, _, _, _, _⟩ :: _) _ _; refine Arr.storeL (Arr.new W _ _) rfl 63 (.tmp 3) (.tmp 13) rfl rfl (nc (wd lo 3)) rfl num_size (by rfl) (wd3 _) (nc_one _) ?_))
  generalize hw2 : World.setRow _ _ _ = w2
  obtain ⟨a2, b2, z2⟩ := filled hw2
  rw [HSZ.out] at a2 z2 ⊢
  have A2 := Lib.hid a2
  have A02 := Lib.hid (A0.out.below b2 A0.out.lt)
  have A12 := Lib.hid (A1.out.below b2 A1.out.lt)
  have HB2 := Lib.hid (HBw.out.trans (b2.mono (show g ≤ W.heap.size by have := HSZ.out; omega)))
  have HZ2 : Hid (w2.heap.size = g + 3) := Lib.hid z2
  clear a2 b2 z2 hw2 A0 A1 HBw HSZ c0 c1 c2
  have c2 := (A02.out.cell 2).trans HK2.out
  have c3 := (A02.out.cell 3).trans HK3.out
  go_upto_region 3 with (first | (show wpList _ _ _ (⟨_, Op.build _ _, _, _, _, _⟩ :: _) _ _; refine buildL rfl rfl rfl (B2.out _) ?_) | (show wpList _ _ _ (⟨_, Op.store _ _ _, _, _, _, _⟩ :: _) _ _; refine Arr.storeL (Arr.new w2 _ _) rfl 63 (.tmp 4) (.tmp 24) rfl rfl (nc (wd up 3)) rfl num_size (by rfl) (wd3 _) (nc_one _) ?_))
  generalize hw3 : World.setRow _ _ _ = w3
  obtain ⟨a3, b3, z3⟩ := filled hw3
  rw [HZ2.out] at a3 z3 ⊢
  have A3 := Lib.hid a3
  have A23 := Lib.hid (A2.out.below b3 A2.out.lt)
  have A13 := Lib.hid (A12.out.below b3 A12.out.lt)
  have HB3 := Lib.hid (HB2.out.trans (b3.mono (show g ≤ w2.heap.size by have := HZ2.out; omega)))
  have HZ3 : Hid (w3.heap.size = g + 4) := Lib.hid z3
  clear a3 b3 z3 hw3 A2 A12 A02 HB2 HZ2 c2 c3
  go_wp2_with (first | (show wpList _ _ _ (⟨_, Op.build _ _, _, _, _, _⟩ :: _) _ _; refine buildL rfl rfl rfl (B5.out _) ?_) | (show wpList _ _ _ (⟨_, Op.load _ _, _, _, _, _⟩ :: _) _ _; refine Arr.loadL A3.out rfl 63 (.tmp 4) rfl rfl num_u rfl num_size (wd3 _) ?_))
  refine (HMu.out w3).mono ?_
  clear HMu
  rintro e w4 ⟨rfl, b4⟩
  have A24 := Lib.hid (A23.out.below b4 A23.out.lt)
  have A14 := Lib.hid (A13.out.below b4 A13.out.lt)
  have HB4 := Lib.hid (HB3.out.trans (b4.mono (show g ≤ w3.heap.size by have := HZ3.out; omega)))
  have HZ4 : Hid (g + 4 ≤ w4.heap.size) := Lib.hid (by have := HZ3.out; have := b4.size; omega)
  clear b4 A23 A13 A3 HB3 HZ3
  go_upto_region 4 with (show wpList _ _ _ (⟨_, Op.store _ _ _, _, _, _, _⟩ :: _) _ _; refine Arr.storeL (Arr.new w4 _ _) rfl 71 (.tmp 5) (.tmp 27) rfl rfl (nc (wd bk 6)) rfl pro_size (by rfl) (wd6 _) (nc_one _) ?_)
  generalize hw5 : World.setRow _ _ _ = w5
  obtain ⟨a5, b5, z5⟩ := filled hw5
  obtain ⟨p, hp⟩ : ∃ p, w4.heap.size = p := ⟨_, rfl⟩
  have A25 := Lib.hid (A24.out.below b5 A24.out.lt)
  have A15 := Lib.hid (A14.out.below b5 A14.out.lt)
  have HB5 := Lib.hid (HB4.out.trans (b5.mono (show g ≤ w4.heap.size by have := HZ4.out; omega)))
  have HZ5 : Hid (g + 4 ≤ w5.heap.size) := Lib.hid (by have := HZ4.out; have := b5.size; omega)
  rw [hp] at a5 ⊢
  have A5 := Lib.hid a5
  clear a5 b5 z5 hw5 hp A24 A14 HB4 HZ4
  have c0 := (A5.out.cell 0).trans HM0.out
  have c1 := (A5.out.cell 1).trans HM1.out
  have HAd := Lib.hid (add_any lo bk w5)
  go_wp2_with (first | (show wpList _ _ _ (⟨_, Op.build _ _, _, _, _, _⟩ :: _) _ _; refine buildL rfl rfl rfl (B3.out _) ?_) | (show wpList _ _ _ (⟨_, Op.load _ _, _, _, _, _⟩ :: _) _ _; refine Arr.loadL A25.out rfl 63 (.tmp 3) rfl rfl num_u rfl num_size (wd3 _) ?_))
  refine HAd.out.mono ?_
  clear HAd
  rintro e w6 ⟨rfl, b6⟩
  have A16 := Lib.hid (A15.out.below b6 A15.out.lt)
  have HB6 := Lib.hid (HB5.out.trans (b6.mono (show g ≤ w5.heap.size by have := HZ5.out; omega)))
  have AF := Lib.hid (A16.out.row (nc (wd (lo + bk) 3)))
  have HBF := Lib.hid (below_row HB6.out (show g ≤ g + 1 by omega) (nc (wd (lo + bk) 3)).toArray)
  clear b6 c0 c1
  go_wp2_with (show wpList _ _ _ (⟨_, Op.store _ _ _, _, _, _, _⟩ :: _) _ _; refine Arr.storeL A16.out rfl 63 (.tmp 2) (.tmp 34) rfl rfl (nc (wd (lo + bk) 3)) rfl num_size (wd3 _) (wd3 _) (nc_one _) ?_)
  refine bodyPost_ret (v := .agg (nc (wd (lo + bk) 3)).toArray) (by exact AF.out.ret rfl _ rfl num_u rfl num_size (wd3 _)) rfl ⟨rfl, by rw [HG.out]; exact HBF.out⟩
end Go.Proofs.Ytohpgfefdlccmaa.OneWW
