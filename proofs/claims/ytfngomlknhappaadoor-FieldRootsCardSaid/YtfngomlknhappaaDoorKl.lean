/-
  Several texts in one: BigShl, BigLsh, BigShr, BigRsh, BigBit, BigK, BigU64, BigPart1. What each holds stands at its head. Conditions: in each statement.
-/
import Derived.Test.YtfngomlknhappaaDoorKk
import Derived.Test.YtfngomlknhappaaDoorKa
import Derived.Test.YtfngomlknhappaaDoorKj
import Derived.Test.YtfngomlknhappaaDoorKe
import Derived.Test.YtfngomlknhappaaDoorBits64

/-
  The document's own whole numbers: digits to the left (shiftLeft). Conditions: in each statement.
-/
namespace Go.Proofs.YtfngomlknhappaaDoor.BigShlW
open Go.RowKit BytesW CellsW WordsW ArrW BigW BigNewW BigMulW BigM BigNegW

theorem or_low (o a i : Nat) (hi : i ≤ 31) (ho : o < 2 ^ i) : bits .or .u32 (o : Int) ((a * 2 ^ i % 4294967296 : Nat) : Int) = ((o + a * 2 ^ i % 4294967296 : Nat) : Int) := by
  have h1 : 2 ^ i ≤ 2 ^ 31 := Nat.pow_le_pow_right (by decide) hi
  have hp : 2 ^ i * 2 ^ (32 - i) = 4294967296 := by rw [← Nat.pow_add, show i + (32 - i) = 32 by omega]
  have e : a * 2 ^ i % 4294967296 = 2 ^ i * (a % 2 ^ (32 - i)) := by rw [← hp, Nat.mul_comm a, Nat.mul_mod_mul_left]
  have hl : a * 2 ^ i % 4294967296 < 4294967296 := Nat.mod_lt _ (by decide)
  rw [Bits.or_u32 _ _ (by omega) hl, e, Nat.or_comm, ← Nat.two_pow_add_eq_or_of_lt ho, Nat.add_comm]
theorem high_lt (a i : Nat) (ha : a < 4294967296) : a * 2 ^ i / 4294967296 < 2 ^ i := by
  have h0 : 0 < 2 ^ i := Nat.pow_pos (by decide)
  rw [Nat.div_lt_iff_lt_mul (by decide), Nat.mul_comm (2 ^ i)]
  exact Nat.mul_lt_mul_of_pos_right ha h0
theorem low_or_lt (o a i : Nat) (hi : i ≤ 31) (ho : o < 2 ^ i) : o + a * 2 ^ i % 4294967296 < 4294967296 := by
  have hp : 2 ^ i * 2 ^ (32 - i) = 4294967296 := by rw [← Nat.pow_add, show i + (32 - i) = 32 by omega]
  have e : a * 2 ^ i % 4294967296 = 2 ^ i * (a % 2 ^ (32 - i)) := by rw [← hp, Nat.mul_comm a, Nat.mul_mod_mul_left]
  have h2 : a % 2 ^ (32 - i) + 1 ≤ 2 ^ (32 - i) := Nat.mod_lt _ (Nat.pow_pos (by decide))
  have h3 := Nat.mul_le_mul_left (2 ^ i) h2
  rw [hp, Nat.mul_add, Nat.mul_one] at h3
  omega
/-- One digit more. -/
theorem shl_step (L x : List Nat) (k j i a : Nat) (hk : k < x.length) (ha : x[k] = a) (h1 : k + j + 1 < L.length) (hz : L.getD (k + j + 1) 0 = 0)
    (hv : dval L = dval (x.take k) * (2 ^ i * 4294967296 ^ j)) :
    dval ((L.set (k + j) (L.getD (k + j) 0 + a * 2 ^ i % 4294967296)).set (k + j + 1) (a * 2 ^ i / 4294967296)) = dval (x.take (k + 1)) * (2 ^ i * 4294967296 ^ j) := by
  have e1 := dval_set L (k + j) (L.getD (k + j) 0 + a * 2 ^ i % 4294967296) (by omega)
  have e2 := dval_set (L.set (k + j) (L.getD (k + j) 0 + a * 2 ^ i % 4294967296)) (k + j + 1) (a * 2 ^ i / 4294967296) (by rw [List.length_set]; omega)
  have g1 : L[k + j]'(by omega) = L.getD (k + j) 0 := by rw [List.getD_eq_getElem?_getD, List.getElem?_eq_getElem (by omega)]; rfl
  have g2 : (L.set (k + j) (L.getD (k + j) 0 + a * 2 ^ i % 4294967296))[k + j + 1]'(by rw [List.length_set]; omega) = 0 := by
    rw [List.getElem_set_ne (by omega)]
    rw [List.getD_eq_getElem?_getD, List.getElem?_eq_getElem h1] at hz
    exact hz
  rw [g1] at e1
  rw [g2, Nat.zero_mul, Nat.add_zero] at e2
  rw [e2, dval_take_succ x k hk, ha, Nat.add_mul, ← hv]
  have e3 : a * 2 ^ i / 4294967296 * 4294967296 ^ (k + j + 1) + a * 2 ^ i % 4294967296 * 4294967296 ^ (k + j) = 4294967296 ^ k * a * (2 ^ i * 4294967296 ^ j) := by
    have e4 : a * 2 ^ i / 4294967296 * 4294967296 ^ (k + j + 1) = a * 2 ^ i / 4294967296 * 4294967296 * 4294967296 ^ (k + j) := by rw [Nat.pow_succ, Nat.mul_assoc, Nat.mul_comm (4294967296 ^ (k + j))]
    rw [e4, ← Nat.add_mul, Nat.mul_comm (a * 2 ^ i / 4294967296), Nat.div_add_mod, Nat.pow_add]
    simp only [Nat.mul_assoc, Nat.mul_left_comm, Nat.mul_comm]
  have e5 : (L.getD (k + j) 0 + a * 2 ^ i % 4294967296) * 4294967296 ^ (k + j) = L.getD (k + j) 0 * 4294967296 ^ (k + j) + a * 2 ^ i % 4294967296 * 4294967296 ^ (k + j) := Nat.add_mul _ _ _
  omega
theorem pow_split (n : Nat) : 2 ^ (n % 32) * 4294967296 ^ (n / 32) = 2 ^ n := by
  rw [show (4294967296 : Nat) = 2 ^ 32 from rfl, ← Nat.pow_mul, ← Nat.pow_add]
  congr 1
  omega

set_option maxHeartbeats 4000000 in
set_option maxRecDepth 100000 in
theorem shl_any (Ax : Option Addr) (x : List Nat) (cx n : Nat) (w : World) (hx : Us w w.heap.size Ax x) (sx : Sd x) (lx : x.length ≤ 1048576) (hn : n ≤ 1048576) :
    Calls Tryd.prog 53 #[.slice Ax x.length cx, .int .i64 (n : Int)] w fun e w' => ∃ D, e = .returned (.slice (some ⟨w.heap.size, 0, none⟩) D.length D.length) ∧ Arr w' w.heap.size 57 (wc D) ∧ Sd D ∧ dval D = dval x * 2 ^ n ∧ D.length = x.length + n / 32 + 1 ∧ Below w.heap.size w w' := by
  have HX := Lib.hid hx
  have SX := Lib.hid sx
  obtain ⟨j, hj⟩ : ∃ j, n / 32 = j := ⟨_, rfl⟩
  obtain ⟨i, hi⟩ : ∃ i, n % 32 = i := ⟨_, rfl⟩
  have HPw := Lib.hid (pow_split n)
  rw [hj, hi] at HPw
  have d1 : (n : Int).tdiv 32 = (j : Int) := by rw [Int.tdiv_eq_ediv_of_nonneg (by omega)]; omega
  have d2 : (n : Int) / 32 = (j : Int) := by omega
  have m1 : (n : Int).tmod 32 = (i : Int) := by rw [Int.tmod_eq_emod_of_nonneg (by omega)]; omega
  have m2 : (n : Int) % 32 = (i : Int) := by omega
  have wj : IntKind.i64.wrap (j : Int) = (j : Int) := IntWalk.i64_in _ (by omega)
  obtain ⟨N, hN⟩ : ∃ N, x.length + j + 1 = N := ⟨_, rfl⟩
  have HN := Lib.hid hN
  obtain ⟨M, hM⟩ : ∃ M, x.length + j = M := ⟨_, rfl⟩
  have es1 : IntKind.i64.wrap ((x.length : Int) + (j : Int)) = (M : Int) := by rw [IntWalk.i64_in _ (by omega)]; omega
  have es2 : IntKind.i64.wrap ((M : Int) + 1) = (N : Int) := by rw [IntWalk.i64_in _ (by omega)]; omega
  have hi31 : i ≤ 31 := by omega
  have hjs : j ≤ 32768 := by omega
  have hmk := makeU N (by omega)
  have ar := made_arr N w
  have hb1 := (Below.refl w.heap.size w).alloc (Nat.le_refl _) (.cells (madeCells #[.int .u32 0] N) 57)
  rw [hj]
  clear hx sx hN hM hj hi
  go_enter Tryd.func53, Tryd.ntmps53
  go_upto_region 2 with (fail)
  obtain ⟨W1, hW1⟩ : ∃ W1, w.alloc (.cells (madeCells #[.int .u32 0] N) 57) = W1 := ⟨_, rfl⟩
  rw [hW1] at ar hb1 ⊢
  have AR := Lib.hid ar
  have HB1 := Lib.hid hb1
  clear hmk hW1 ar hb1 es1 es2
  go_wp2
  go_loopw [18] (fun vk wr => ∃ (k : Nat) (L : List Nat), k ≤ x.length ∧ vk = .int .i64 (k : Int) ∧ Arr wr w.heap.size 57 (wc L) ∧ L.length = N ∧ Sd L ∧ dval L = dval (x.take k) * (2 ^ i * 4294967296 ^ j) ∧ L.getD (k + j) 0 < 2 ^ i ∧ (∀ q, k + j < q → L.getD q 0 = 0) ∧ Below w.heap.size W1 wr) (fun vk _ => x.length - (intOf vk).toNat)
  case atStart =>
    refine ⟨0, List.replicate N 0, Nat.zero_le _, rfl, AR.out, by simp, fun z hz => by rw [List.eq_of_mem_replicate hz]; decide, ?_, ?_, ?_, Below.refl _ _⟩
    · have : ∀ n, dval (List.replicate n 0) = 0 := by
        intro n
        induction n with
        | zero => rfl
        | succ n ih => rw [List.replicate_succ, dval, ih]
      rw [this]; simp [dval]
    · have : (List.replicate N 0).getD (0 + j) 0 = 0 := by simp only [List.getD_eq_getElem?_getD, List.getElem?_replicate]; split <;> rfl
      rw [this]; exact Nat.pow_pos (by decide)
    · intro q _
      simp only [List.getD_eq_getElem?_getD, List.getElem?_replicate]; split <;> rfl
  case round =>
    obtain ⟨k, L, hk, rfl, ar, hLl, hLs, hLv, hLo, hLz, hb⟩ := hrel
    have A1 := Lib.hid ar
    have Ll := Lib.hid hLl
    have Ls := Lib.hid hLs
    have Lv := Lib.hid hLv
    have Lo := Lib.hid hLo
    have Lz := Lib.hid hLz
    have B1 := Lib.hid hb
    clear ar hLl hLs hLv hLo hLz hb
    have BW := Lib.hid (HB1.out.trans B1.out)
    by_cases hlt : k < x.length
    · have ct : decide ((k : Int) < (x.length : Int)) = true := decide_eq_true (by omega)
      obtain ⟨ad, rfl, _, cxk⟩ := (HX.out.below BW.out).at_ hlt
      have lx1 := SX.out _ (List.getElem_mem hlt)
      have hp1 : k + j + 1 < L.length := by have := Ll.out; have := HN.out; omega
      have HST := Lib.hid (fun a ha => shl_step L x k j i a hlt ha hp1 (Lz.out _ (Nat.lt_succ_self _)) Lv.out)
      obtain ⟨a, ha⟩ : ∃ a, x[k]'hlt = a := ⟨_, rfl⟩
      have HST2 := Lib.hid (HST.out a ha)
      rw [ha] at cxk lx1
      obtain ⟨p, hp⟩ : ∃ p, k + j = p := ⟨_, rfl⟩
      rw [hp] at hp1 HST2 Lo
      have HP := Lib.hid hp
      have co := A1.out.cell p
      have hpl : p < L.length := by omega
      rw [wc_at L p hpl] at co
      have go0 : L[p]'hpl = L.getD p 0 := by rw [List.getD_eq_getElem?_getD, List.getElem?_eq_getElem hpl]; rfl
      rw [go0] at co
      have fo := A1.out.frozen p
      obtain ⟨o, ho⟩ : ∃ o, L.getD p 0 = o := ⟨_, rfl⟩
      rw [ho] at co HST2 Lo
      have hor := or_low o a i hi31 Lo.out
      have hlow := low_or_lt o a i hi31 Lo.out
      have hhi := high_lt a i lx1
      have hvl : a * 2 ^ i < 18446744073709551616 := by
        have h1 : 2 ^ i ≤ 2 ^ 31 := Nat.pow_le_pow_right (by decide) hi31
        have h2 : a * 2 ^ i ≤ 4294967295 * 2147483648 := Nat.mul_le_mul (by omega) (by omega)
        omega
      have hpi : 2 ^ i ≤ 2147483648 := Nat.pow_le_pow_right (by decide) hi31
      obtain ⟨v, hv⟩ : ∃ v, a * 2 ^ i = v := ⟨_, rfl⟩
      rw [hv] at hor hlow hhi hvl HST2
      have ex : IntKind.u64.wrap (a : Int) = (a : Int) := IntWalk.u64_in _ (by omega)
      have e1 : IntKind.u64.wrap ((a : Int) * 2 ^ i) = (v : Int) := by
        have : (a : Int) * 2 ^ i = (v : Int) := by rw [← hv]; push_cast; rfl
        rw [this, IntWalk.u64_in _ (by omega)]
      obtain ⟨lo, hlo⟩ : ∃ lo, v % 4294967296 = lo := ⟨_, rfl⟩
      obtain ⟨up, hup⟩ : ∃ up, v / 4294967296 = up := ⟨_, rfl⟩
      rw [hlo] at hor hlow HST2
      rw [hup] at hhi HST2
      have e2 : IntKind.u32.wrap (v : Int) = (lo : Int) := by rw [IntKind.wrap_u32]; omega
      have e3 : (v : Int) / 4294967296 = (up : Int) := by omega
      have e4 : IntKind.u32.wrap (up : Int) = (up : Int) := by rw [IntKind.wrap_u32]; omega
      have ep : IntKind.i64.wrap ((k : Int) + (j : Int)) = (p : Int) := by rw [IntWalk.i64_in _ (by omega)]; omega
      have ep2 : IntKind.i64.wrap ((p : Int) + 1) = ((p + 1 : Nat) : Int) := by rw [IntWalk.i64_in _ (by omega)]; omega
      obtain ⟨p1, hp1'⟩ : ∃ p1, p + 1 = p1 := ⟨_, rfl⟩
      rw [hp1'] at ep2 hp1 HST2
      have ip : (p : Int) < (N : Int) := by have := Ll.out; omega
      have ip1 : (p1 : Int) < (N : Int) := by have := Ll.out; omega
      have aw := A1.out.set p (.int .u32 ((o + lo : Nat) : Int))
      rw [wc_set] at aw
      have AW := Lib.hid aw
      have BN := Lib.hid (B1.out.setCell (p := ⟨w.heap.size, p, none⟩) (Nat.le_refl _) (.int .u32 ((o + lo : Nat) : Int)))
      obtain ⟨L1, hL1⟩ : ∃ L1, L.set p (o + lo) = L1 := ⟨_, rfl⟩
      have hL1l : L1.length = N := by rw [← hL1, List.length_set]; exact Ll.out
      have hL1s : Sd L1 := by rw [← hL1]; exact small_set L p _ Ls.out hlow
      have HZ1 := Lib.hid (show ∀ q, p1 < q → (L1.set p1 up).getD q 0 = 0 from fun q hq => by
        rw [BigMulW.getD_set_ne _ _ _ _ (by omega), ← hL1, BigMulW.getD_set_ne _ _ _ _ (by omega)]
        exact Lz.out q (by have := HP.out; omega))
      have HO1 := Lib.hid (show (L1.set p1 up).getD p1 0 < 2 ^ i by
        rw [List.getD_eq_getElem?_getD, List.getElem?_set_self (by rw [hL1l]; omega)]
        exact hhi)
      have HKj := Lib.hid (show k + 1 + j = p1 by have := HP.out; omega)
      rw [hL1] at AW HST2
      have L1l := Lib.hid hL1l
      have L1s := Lib.hid hL1s
      have hup32 : up < 4294967296 := by omega
      clear ha go0 hv hlo hup hp hL1 hL1l hL1s hlow hhi aw HST ho hpi hp1'
      generalize hol : o + lo = ol at *
      clear hol
      go_upto_region 7 with (fail)
      obtain ⟨w3, hw3⟩ : ∃ w3, wr.setCell ⟨w.heap.size, p, none⟩ (.int .u32 (ol : Int)) = w3 := ⟨_, rfl⟩
      rw [hw3] at AW BN ⊢
      have hp1l : p1 < L1.length := by have := L1l.out; omega
      have co1 := AW.out.cell p1
      rw [wc_at L1 p1 hp1l] at co1
      have fo1 := AW.out.frozen p1
      generalize L1[p1]'hp1l = old at *
      have aw2 := AW.out.set p1 (.int .u32 (up : Int))
      rw [wc_set] at aw2
      have AW2 := Lib.hid aw2
      have BN2 := Lib.hid (BN.out.setCell (p := ⟨w.heap.size, p1, none⟩) (Nat.le_refl _) (.int .u32 (up : Int)))
      clear hw3 co fo aw2 hor e1 e2
      go_wp2
      go_roundw
      case rel => exact ⟨k + 1, _, by omega, by go_num, AW2.out, by rw [List.length_set]; exact L1l.out, small_set L1 p1 _ L1s.out hup32, HST2.out, by rw [HKj.out]; exact HO1.out, by rw [HKj.out]; exact HZ1.out, BN2.out⟩
      case measure => simp [intOf]; omega
    · obtain rfl : k = x.length := by omega
      have ct : decide ((x.length : Int) < (x.length : Int)) = false := decide_eq_false (by omega)
      have hD : dval L = dval x * 2 ^ n := by rw [Lv.out, List.take_length, HPw.out]
      have HD := Lib.hid hD
      clear hD
      go_wp2
      go_ret
      exact ⟨L, by rw [Ll.out]; rfl, A1.out, Ls.out, HD.out, by rw [Ll.out, ← HN.out], BW.out⟩
end Go.Proofs.YtfngomlknhappaaDoor.BigShlW

/-
  The document's own whole numbers: Lsh. Conditions: in the statement.
-/
namespace Go.Proofs.YtfngomlknhappaaDoor.BigLshW
open Go.RowKit BytesW CellsW WordsW ArrW BigW BigNewW BigMulW BigM BigSetNW BigNegW BigAddW BigSubW BigShlW

theorem sgn_mul_nat (b : Bool) (n m : Nat) : sgn b n * (m : Int) = sgn b (n * m) := by
  cases b <;> simp [sgn, Int.neg_mul]

set_option maxHeartbeats 8000000 in
set_option maxRecDepth 100000 in
theorem lsh_any (gz gx n : Nat) (x : Int) (w : World) (hz : Shape w gz) (hx : IntV w gx x) (bx : x.natAbs < BIG) (hn : n ≤ 65536) :
    Calls Tryd.prog 34 #[.pointer (some ⟨gz, 0, none⟩), .pointer (some ⟨gx, 0, none⟩), .int .u64 (n : Int)] w fun e w' => e = .returned (.pointer (some ⟨gz, 0, none⟩)) ∧ IntV w' gz (x * (2 ^ n : Nat)) ∧ w.grownBy w' (some gz) := by
  obtain ⟨nx, dx, hix, rfl, hnx⟩ := hx
  rw [sgn_abs] at bx
  have lx := len_big hix.2.2 bx
  obtain ⟨⟨Ax, cx, ax, ux, -⟩, sx, tx⟩ := hix
  have HAx := Lib.hid ax
  have UX := Lib.hid ux
  have SX := Lib.hid sx
  have HZ := Lib.hid hz
  have wn : IntKind.i64.wrap (n : Int) = (n : Int) := IntWalk.i64_in _ (by omega)
  clear ax ux sx tx hz hnx bx
  go_enter Tryd.func34, Tryd.ntmps34
  go_upto_region 1 with (fail)
  have RD0 := Lib.hid (HAx.out.below (drew_below w) HAx.out.lt)
  have hwd : Nonempty (Wd (fun W => Arr W gx 34 [.bool nx, .slice Ax dx.length cx])) := Wd.some HAx.out
  have kq0 : ∀ x : Wd (fun W => Arr W gx 34 [.bool nx, .slice Ax dx.length cx]), x.val.cell? ⟨gx, 0, none⟩ = some (.bool nx) := fun x => x.property.cell 0
  have kq1 : ∀ x : Wd (fun W => Arr W gx 34 [.bool nx, .slice Ax dx.length cx]), x.val.cell? ⟨gx, 1, none⟩ = some (.slice Ax dx.length cx) := fun x => x.property.cell 1
  have BQ1 := Lib.hid (drew_below w)
  have HC := Lib.hid (shl_any Ax dx cx n w.drew ((UX.out.below BQ1.out).more BQ1.out.size) SX.out (by omega) (by omega))
  have Z1 := Lib.hid (shape_below HZ.out BQ1.out)
  refine wp_region_treeB (.read 0 (.read 1 (.read 2 (.read 3 (.read 4 (.read 5 (.read 6 (.read 7 (.read 8 (.read 9 (.read 10 (.read 11 (.step 12 (.step 13 (.step 14 (.step 15 (.step 16 (.step 17 (.step 18 .done))))))))))))))))))) 18 (fun W => ∃ x : Wd (fun W => Arr W gx 34 [.bool nx, .slice Ax dx.length cx]), W = x.val) (by kernel_rfl) (by kernel_rfl) (by decide) (fun _ _ d _ _ h => by cases d <;> exact h) (Wd.of RD0.out) ?_
  iterate 12 (refine treeB_read rfl (fun K hK => ?_); go_simp; refine hK _ ?_; clear hK K)
  clear hwd kq0 kq1
  refine treeB_step rfl rfl (fun K hK => ?_)
  go_simp
  refine HC.out.mono ?_
  clear HC
  rintro e w3 ⟨D, rfl, aD, sD, vD, lD, b3⟩
  have LD := Lib.hid lD
  clear lD
  have RD3 := Lib.hid (RD0.out.below b3 RD0.out.lt)
  refine hK _ _ ⟨fun _ => Wd.of RD3.out, ?_⟩
  clear hK K
  iterate 2 (refine treeB_step rfl rfl (fun K hK => ?_); go_simp; refine hK _ _ ⟨fun _ => Wd.of RD3.out, ?_⟩; clear hK K)
  obtain ⟨bz, Az, nz, cz, az⟩ := shape_below Z1.out b3
  have kz0 : w3.cell? ⟨gz, 0, none⟩ = some (.bool bz) := az.cell 0
  have fz0 := az.frozen 0
  have az4 := az.set 0 (.bool nx)
  simp only [List.set_cons_zero] at az4
  have rd4 := set_same (gz := gz) RD3.out
  have u3 := us_of_arr aD
  have u4 := Us.other az u3 (k := 0) (.bool nx)
  have g4 := grown_set w3 gz 0 (.bool nx)
  refine treeB_step rfl rfl (fun K hK => ?_)
  go_simp
  refine hK _ _ ⟨fun _ => Wd.of rd4, ?_⟩
  clear hK K kz0 fz0
  have e4 : (w3.setCell ⟨gz, 0, none⟩ (.bool nx)).heap.size = w3.heap.size := by simp
  obtain ⟨w4, hw4⟩ : ∃ w4, w3.setCell ⟨gz, 0, none⟩ (.bool nx) = w4 := ⟨_, rfl⟩
  rw [hw4] at az4 rd4 g4 e4 u4 ⊢
  rw [← e4] at u4
  have RD4 := Lib.hid rd4
  iterate 2 (refine treeB_step rfl rfl (fun K hK => ?_); go_simp; refine hK _ _ ⟨fun _ => Wd.of RD4.out, ?_⟩; clear hK K)
  have kz1 : w4.cell? ⟨gz, 1, none⟩ = some (.slice Az nz cz) := az4.cell 1
  have fz1 := az4.frozen 1
  have az5 := az4.set 1 (.slice (some ⟨w.heap.size, 0, none⟩) D.length D.length)
  simp only [List.set_cons_zero, List.set_cons_succ] at az5
  have u5 := Us.other az4 u4 (k := 1) (.slice (some ⟨w.heap.size, 0, none⟩) D.length D.length)
  have g5 := grown_set w4 gz 1 (.slice (some ⟨w.heap.size, 0, none⟩) D.length D.length)
  have e5 : (w4.setCell ⟨gz, 1, none⟩ (.slice (some ⟨w.heap.size, 0, none⟩) D.length D.length)).heap.size = w4.heap.size := by simp
  refine treeB_step rfl rfl (fun K hK => ?_)
  go_simp
  refine hK _ _ ⟨fun h => absurd rfl h, ?_⟩
  clear hK K kz1 fz1
  refine treeB_done ?_
  obtain ⟨w5, hw5⟩ : ∃ w5, w4.setCell ⟨gz, 1, none⟩ (.slice (some ⟨w.heap.size, 0, none⟩) D.length D.length) = w5 := ⟨_, rfl⟩
  have hg5 := grown_trans (grown_of_below (g := gz) (BQ1.out.trans (b3.mono BQ1.out.size))) (grown_trans g4 g5)
  rw [hw5] at az5 u5 g5 e5 hg5
  have HT := Lib.hid (trim_any gz nx (some ⟨w.heap.size, 0, none⟩) D D.length w5 az5 (by rw [e5]; exact u5) (Nat.le_refl _) sD (by have := LD.out; omega))
  have HG5 := Lib.hid hg5
  have HVal := Lib.hid (show sgn nx (dval dx) * ((2 ^ n : Nat) : Int) = sgn nx (dval D) by rw [sgn_mul_nat, vD])
  have HW5 := Lib.hid hw5
  clear az5 u5 g5 e5 hg5 az4 rd4 u3 u4 g4 hw4 e4 az aD sD vD b3 RD3 RD4 hw5 wn
  go_upto_region 2 with (fail)
  simp only [HW5.out]
  go_wp2_with fail
  refine HT.out.mono ?_
  clear HT
  rintro e w6 ⟨rfl, hI, hg⟩
  go_wp2
  go_ret
  exact ⟨rfl, ⟨_, _, hI, by rw [sgn_trim]; exact HVal.out, trim_ne _ _⟩, grown_trans HG5.out hg⟩
end Go.Proofs.YtfngomlknhappaaDoor.BigLshW

/-
  The document's own whole numbers: digits to the right (shiftRight). Conditions: in each statement.
-/
namespace Go.Proofs.YtfngomlknhappaaDoor.BigShrW
open Go.RowKit BytesW CellsW WordsW ArrW BigW BigNewW BigMulW BigM BigNegW BigShlW

theorem us_drop {w : World} {B : Nat} {ad : Addr} {l : List Nat} (h : Us w B (some ad) l) (n : Nat) : Us w B (some (ad.add n)) (l.drop n) := by
  intro h0
  rw [List.length_drop] at h0
  obtain ⟨ad', e, hlt, hc⟩ := h (by omega)
  cases e
  refine ⟨_, rfl, by rw [add_block]; exact hlt, fun k hk => ?_⟩
  rw [List.length_drop] at hk
  rw [add_add, hc (n + k) (by omega), List.getElem_drop]

/-- The digits of the quotient by 2^i, i below 32. -/
def rdg (i : Nat) : List Nat → List Nat
  | [] => []
  | a :: r => (a / 2 ^ i + r.headD 0 % 2 ^ i * 2 ^ (32 - i)) :: rdg i r
theorem rdg_len (i : Nat) (l : List Nat) : (rdg i l).length = l.length := by
  induction l with
  | nil => rfl
  | cons a r ih => rw [rdg, List.length_cons, List.length_cons, ih]
theorem dval_head (r : List Nat) (i : Nat) (hi : i ≤ 32) : dval r % 2 ^ i = r.headD 0 % 2 ^ i := by
  cases r with
  | nil => rfl
  | cons a s =>
    rw [dval, List.headD_cons, show (4294967296 : Nat) = 2 ^ i * 2 ^ (32 - i) by rw [← Nat.pow_add, show i + (32 - i) = 32 by omega], Nat.mul_assoc, Nat.add_mul_mod_self_left]
theorem dval_rdg (i : Nat) (hi : i ≤ 32) (l : List Nat) : dval (rdg i l) = dval l / 2 ^ i := by
  have hp : 2 ^ i * 2 ^ (32 - i) = 4294967296 := by rw [← Nat.pow_add, show i + (32 - i) = 32 by omega]
  have h0 : 0 < 2 ^ i := Nat.pow_pos (by decide)
  induction l with
  | nil => rw [rdg, dval, Nat.zero_div]
  | cons a r ih =>
    rw [rdg, dval, ih, dval, ← dval_head r i hi]
    have e : a + 4294967296 * dval r = a + 2 ^ i * (2 ^ (32 - i) * dval r) := by rw [← Nat.mul_assoc, hp]
    rw [e, Nat.add_mul_div_left _ _ h0]
    have h1 := Nat.div_add_mod (dval r) (2 ^ i)
    have e2 : 2 ^ (32 - i) * dval r = 4294967296 * (dval r / 2 ^ i) + dval r % 2 ^ i * 2 ^ (32 - i) := by
      conv => lhs; rw [← h1, Nat.mul_add, ← Nat.mul_assoc, Nat.mul_comm (2 ^ (32 - i)) (2 ^ i), hp, Nat.mul_comm (2 ^ (32 - i))]
    rw [e2]
    omega
theorem rdg_at (i : Nat) : ∀ (l : List Nat) (k : Nat), k < l.length → (rdg i l).getD k 0 = l.getD k 0 / 2 ^ i + l.getD (k + 1) 0 % 2 ^ i * 2 ^ (32 - i)
  | [], k, h => by simp at h
  | a :: r, 0, _ => by
    rw [rdg]
    cases r <;> rfl
  | a :: r, k + 1, h => by
    rw [rdg, List.getD_cons_succ, List.getD_cons_succ, List.getD_cons_succ]
    exact rdg_at i r k (by simpa using h)
theorem dval_drop (l : List Nat) (j : Nat) (hs : Sd l) (hj : j ≤ l.length) : dval (l.drop j) = dval l / 4294967296 ^ j := by
  have e : l = l.take j ++ l.drop j := (List.take_append_drop j l).symm
  have h1 : dval (l.take j) < 4294967296 ^ j := by
    have := dval_lt (l := l.take j) (fun x hx => hs x (List.mem_of_mem_take hx))
    rw [List.length_take, Nat.min_eq_left hj] at this
    exact this
  conv => rhs; rw [e, dval_append, List.length_take, Nat.min_eq_left hj]
  rw [Nat.add_mul_div_left _ _ (Nat.pow_pos (by decide)), Nat.div_eq_of_lt h1, Nat.zero_add]
theorem div_split (v n : Nat) : v / 4294967296 ^ (n / 32) / 2 ^ (n % 32) = v / 2 ^ n := by
  rw [Nat.div_div_eq_div_mul, Nat.mul_comm, pow_split]
/-- 'or' of a digit's rest and the next one's part. -/
theorem or_high (o b i : Nat) (h1 : 1 ≤ i) (hi : i ≤ 31) (ho : o < 4294967296) : bits .or .u32 ((o / 2 ^ i : Nat) : Int) ((b * 2 ^ (32 - i) % 4294967296 : Nat) : Int) = ((o / 2 ^ i + b % 2 ^ i * 2 ^ (32 - i) : Nat) : Int) := by
  have hp : 2 ^ i * 2 ^ (32 - i) = 4294967296 := by rw [← Nat.pow_add, show i + (32 - i) = 32 by omega]
  have hlt : o / 2 ^ i < 2 ^ (32 - i) := by rw [Nat.div_lt_iff_lt_mul (Nat.pow_pos (by decide)), Nat.mul_comm, hp]; exact ho
  rw [or_low (o / 2 ^ i) b (32 - i) (by omega) hlt]
  congr 2
  rw [← hp, Nat.mul_mod_mul_right]
theorem digit_lt (o b i : Nat) (hi : i ≤ 32) (ho : o < 4294967296) : o / 2 ^ i + b % 2 ^ i * 2 ^ (32 - i) < 4294967296 := by
  have hp : 2 ^ i * 2 ^ (32 - i) = 4294967296 := by rw [← Nat.pow_add, show i + (32 - i) = 32 by omega]
  have hlt : o / 2 ^ i < 2 ^ (32 - i) := by rw [Nat.div_lt_iff_lt_mul (Nat.pow_pos (by decide)), Nat.mul_comm, hp]; exact ho
  have h2 : b % 2 ^ i + 1 ≤ 2 ^ i := Nat.mod_lt _ (Nat.pow_pos (by decide))
  have h3 := Nat.mul_le_mul_right (2 ^ (32 - i)) h2
  rw [hp, Nat.add_mul, Nat.one_mul] at h3
  omega

set_option maxHeartbeats 8000000 in
set_option maxRecDepth 100000 in
theorem shr_any (Ax : Option Addr) (x : List Nat) (cx n : Nat) (w : World) (hx : Us w w.heap.size Ax x) (sx : Sd x) (lx : x.length ≤ 1048576) (hcx : x.length ≤ cx) (hn : n ≤ 1048576) :
    Calls Tryd.prog 56 #[.slice Ax x.length cx, .int .i64 (n : Int)] w fun e w' => ∃ A D c, e = .returned (.slice A D.length c) ∧ Us w' w'.heap.size A D ∧ D.length ≤ c ∧ Sd D ∧ dval D = dval x / 2 ^ n ∧ D.length ≤ x.length ∧ Below w.heap.size w w' := by
  obtain ⟨j, hj⟩ : ∃ j, n / 32 = j := ⟨_, rfl⟩
  obtain ⟨i, hi⟩ : ∃ i, n % 32 = i := ⟨_, rfl⟩
  have hds := div_split (dval x) n
  rw [hj, hi] at hds
  have d1 : (n : Int).tdiv 32 = (j : Int) := by rw [Int.tdiv_eq_ediv_of_nonneg (by omega)]; omega
  have d2 : (n : Int) / 32 = (j : Int) := by omega
  have m1 : (n : Int).tmod 32 = (i : Int) := by rw [Int.tmod_eq_emod_of_nonneg (by omega)]; omega
  have m2 : (n : Int) % 32 = (i : Int) := by omega
  have wj : IntKind.i64.wrap (j : Int) = (j : Int) := IntWalk.i64_in _ (by omega)
  have hi31 : i ≤ 31 := by omega
  by_cases hge : x.length ≤ j
  · have t1 : decide ((j : Int) ≥ (x.length : Int)) = true := decide_eq_true (by omega)
    have t1' : decide (x.length ≤ j) = true := decide_eq_true hge
    have hz : dval x / 2 ^ n = 0 := by
      rw [← hds, Nat.div_eq_of_lt (Nat.lt_of_lt_of_le (dval_lt sx) (Nat.pow_le_pow_right (by decide) hge)), Nat.zero_div]
    rw [hz]
    clear hj hi hds hz hx sx hge
    go_enter Tryd.func56, Tryd.ntmps56
    go_wp2
    go_ret
    exact ⟨none, [], 0, rfl, Us.nil _ _ _, Nat.le_refl _, (fun z hz => by cases hz), rfl, Nat.zero_le _, Below.refl _ _⟩
  · have t1 : decide ((j : Int) ≥ (x.length : Int)) = false := decide_eq_false (by omega)
    have t1' : decide (x.length ≤ j) = false := decide_eq_false hge
    obtain ⟨ad, rfl, _, _⟩ := hx.at_ (k := j) (by omega)
    obtain ⟨X, hX⟩ : ∃ X, x.drop j = X := ⟨_, rfl⟩
    have hXl : X.length = x.length - j := by rw [← hX, List.length_drop]
    have sX : Sd X := by rw [← hX]; exact fun z hz => sx z (List.mem_of_mem_drop hz)
    have uX := us_drop hx j
    rw [hX] at uX
    have hval : dval (rdg i X) = dval x / 2 ^ n := by rw [dval_rdg i (by omega), ← hX, dval_drop x j sx (by omega), hds]
    have HV := Lib.hid hval
    have UX := Lib.hid uX
    have SX := Lib.hid sX
    obtain ⟨m, hm⟩ : ∃ m, x.length - j = m := ⟨_, rfl⟩
    rw [hm] at hXl
    have HXl := Lib.hid hXl
    have es : IntKind.i64.wrap ((x.length : Int) - (j : Int)) = (m : Int) := by rw [IntWalk.i64_in _ (by omega)]; omega
    have hcj : ¬ cx = j := by omega
    have hmx : m ≤ 1048576 := by omega
    have HM := Lib.hid (show m ≤ x.length by omega)
    have hjl : j ≤ x.length := by omega
    have hsub : (x.length : Int) - (j : Int) = (m : Int) := by omega
    have hmk := makeU m (by omega)
    have ar := made_arr m w
    have hb1 := (Below.refl w.heap.size w).alloc (Nat.le_refl _) (.cells (madeCells #[.int .u32 0] m) 57)
    clear hj hi hds hx sx hX sX uX hval hXl
    go_enter Tryd.func56, Tryd.ntmps56
    go_upto_region 4 with (fail)
    obtain ⟨W1, hW1⟩ : ∃ W1, w.alloc (.cells (madeCells #[.int .u32 0] m) 57) = W1 := ⟨_, rfl⟩
    have AR0 := Lib.hid ar
    have HB10 := Lib.hid hb1
    rw [hW1] at AR0 HB10
    clear ar hb1
    generalize ad.add j = ax at *
    go_upto_region 5 with (fail)
    clear hmk hW1 es hsub
    go_wp2
    go_loopw [22] (fun vk wr => ∃ (k : Nat) (L : List Nat), k ≤ m ∧ vk = .int .i64 (k : Int) ∧ Arr wr w.heap.size 57 (wc L) ∧ L.length = m ∧ Sd L ∧ (∀ q, q < k → L.getD q 0 = (rdg i X).getD q 0) ∧ Below w.heap.size W1 wr) (fun vk _ => m - (intOf vk).toNat)
    case atStart => exact ⟨0, List.replicate m 0, Nat.zero_le _, rfl, AR0.out, by simp, fun z hz => by rw [List.eq_of_mem_replicate hz]; decide, fun q hq => absurd hq (by omega), Below.refl _ _⟩
    case round =>
      obtain ⟨k, L, hk, rfl, ar, hLl, hLs, hLv, hb⟩ := hrel
      have A1 := Lib.hid ar
      have Ll := Lib.hid hLl
      have Ls := Lib.hid hLs
      have Lv := Lib.hid hLv
      have B1 := Lib.hid hb
      clear ar hLl hLs hLv hb
      have BW := Lib.hid (HB10.out.trans B1.out)
      by_cases hlt : k < m
      · have ct : decide ((k : Int) < (m : Int)) = true := decide_eq_true (by omega)
        have hkX : k < X.length := by rw [HXl.out]; exact hlt
        obtain ⟨ad', had', _, cxk⟩ := (UX.out.below BW.out).at_ hkX
        cases had'
        have lx1 := SX.out _ (List.getElem_mem hkX)
        have hdg := rdg_at i X k hkX
        have ga : X.getD k 0 = X[k]'hkX := by rw [List.getD_eq_getElem?_getD, List.getElem?_eq_getElem hkX]; rfl
        rw [ga] at hdg
        generalize X[k]'hkX = a at *
        obtain ⟨b, hbb⟩ : ∃ b, X.getD (k + 1) 0 = b := ⟨_, rfl⟩
        rw [hbb] at hdg
        have lb : b < 4294967296 := by rw [← hbb]; exact SX.out.getD (k + 1)
        have hdl := digit_lt a b i (by omega) lx1
        obtain ⟨q, hq⟩ : ∃ q, a / 2 ^ i = q := ⟨_, rfl⟩
        have hqa : q < 4294967296 := by rw [← hq]; exact Nat.lt_of_le_of_lt (Nat.div_le_self _ _) lx1
        have e1 : (a : Int) / 2 ^ i = (q : Int) := by rw [← hq]; push_cast; rfl
        have e1' : (a : Int) / 2 ^ (min i 32) = (q : Int) := by rw [Nat.min_eq_left (by omega)]; exact e1
        have hkL : k < L.length := by rw [Ll.out]; exact hlt
        have co := A1.out.cell k
        rw [wc_at L k hkL] at co
        have fo := A1.out.frozen k
        generalize L[k]'hkL = old at *
        have aw := A1.out.set k (.int .u32 (q : Int))
        rw [wc_set] at aw
        have AW := Lib.hid aw
        have BN := Lib.hid (B1.out.setCell (p := ⟨w.heap.size, k, none⟩) (Nat.le_refl _) (.int .u32 (q : Int)))
        obtain ⟨k1, hk1'⟩ : ∃ k1, k + 1 = k1 := ⟨_, rfl⟩
        have ek : IntKind.i64.wrap ((k : Int) + 1) = (k1 : Int) := by rw [IntWalk.i64_in _ (by omega)]; omega
        have K1 := Lib.hid hk1'
        clear hk1'
        have ik : (k : Int) < (m : Int) := by omega
        have HDg := Lib.hid hdg
        have Hq := Lib.hid hq
        have Hbb := Lib.hid hbb
        clear aw ga hdg hq hbb
        go_upto_region 9 with (fail)
        obtain ⟨w3, hw3⟩ : ∃ w3, wr.setCell ⟨w.heap.size, k, none⟩ (.int .u32 (q : Int)) = w3 := ⟨_, rfl⟩
        rw [hw3] at AW BN ⊢
        clear hw3 co fo cxk
        by_cases h2 : k1 < m ∧ 0 < i
        · have c1 : decide ((k1 : Int) < (m : Int)) = true := decide_eq_true (by omega)
          have c1' : decide (k1 < m) = true := decide_eq_true (by omega)
          have c2 : decide ((i : Int) > 0) = true := decide_eq_true (by omega)
          have c2' : decide (0 < i) = true := decide_eq_true h2.2
          have hk1 : k1 < X.length := by rw [HXl.out]; exact h2.1
          obtain ⟨ad', had', _, cx1⟩ := (UX.out.below (HB10.out.trans BN.out)).at_ hk1
          cases had'
          have gb : X.getD k1 0 = X[k1]'hk1 := by rw [List.getD_eq_getElem?_getD, List.getElem?_eq_getElem hk1]; rfl
          rw [← gb, ← K1.out, Hbb.out, K1.out] at cx1
          have hor := or_high a b i (by omega) hi31 lx1
          rw [Hq.out] at hor
          obtain ⟨r, hr⟩ : ∃ r, q + b % 2 ^ i * 2 ^ (32 - i) = r := ⟨_, rfl⟩
          have hDr : (rdg i X).getD k 0 = r := by rw [HDg.out, Hq.out, hr]
          rw [Hq.out, hr] at hdl
          rw [hr] at hor
          have es2 : IntKind.i64.wrap (32 - (i : Int)) = ((32 - i : Nat) : Int) := by rw [IntWalk.i64_in _ (by omega)]; omega
          obtain ⟨t, ht⟩ : ∃ t, 32 - i = t := ⟨_, rfl⟩
          rw [ht] at es2 hor
          have ht31 : t ≤ 31 := by omega
          have hkL3 : k < (L.set k q).length := by rw [List.length_set]; exact hkL
          have co := AW.out.cell k
          rw [wc_at _ k hkL3, List.getElem_set_self] at co
          have fo := AW.out.frozen k
          have eb : IntKind.u32.wrap ((b : Int) * 2 ^ t) = ((b * 2 ^ t % 4294967296 : Nat) : Int) := by rw [IntKind.wrap_u32, Int.natCast_emod, Int.natCast_mul, Int.natCast_pow]; rfl
          have HOr := Lib.hid (show bits .or .u32 (q : Int) (IntKind.u32.wrap ((b : Int) * 2 ^ t)) = (r : Int) by rw [eb]; exact hor)
          have aw2 := AW.out.drew.set k (.int .u32 (r : Int))
          rw [wc_set, List.set_set] at aw2
          have AW2 := Lib.hid aw2
          have BN2 := Lib.hid ((BN.out.trans ((⟨rfl, rfl, rfl, Nat.le_refl _, fun _ _ => rfl⟩ : Below w.heap.size w3 w3.drew))).setCell (p := ⟨w.heap.size, k, none⟩) (Nat.le_refl _) (.int .u32 (r : Int)))
          have HDr := Lib.hid hDr
          have ik1 : (k1 : Int) < (m : Int) := by omega
          obtain ⟨h2a, h2b⟩ := h2
          clear hr hDr ht gb hor eb aw2 e1 e1'
          go_upto_region 10 with (fail)
          refine Phase.wp_region_phases [([], [0, 1, 2, 3, 4, 5, 6, 7, 8, 9, 10, 11, 12, 13, 14], some 15)] (fun W => W = w3.drew) (by kernel_rfl) (by kernel_rfl) (fun _ _ d _ _ h => by cases d <;> exact h) rfl ?_
          refine Phase.g_alone rfl (Phase.p_nil ?_)
          iterate 15 (refine Phase.q_step rfl (fun K hK => ?_); go_simp; refine hK _ ?_; clear hK K)
          refine Phase.q_nil ?_
          rintro _ rfl K hK
          go_simp
          rw [HOr.out]
          obtain ⟨w4, hw4⟩ : ∃ w4, w3.drew.setCell ⟨w.heap.size, k, none⟩ (.int .u32 (r : Int)) = w4 := ⟨_, rfl⟩
          rw [hw4] at AW2 BN2
          refine hK _ _ ⟨fun W => W = w4, hw4, ?_⟩
          clear hK K hw4 co fo cx1
          refine Phase.g_nil ?_
          intro wz hz
          rw [show wz = w4 from hz]
          clear hz wz
          go_wp2
          go_roundw
          case rel => exact ⟨k1, _, by have := K1.out; omega, by go_num, AW2.out, by rw [List.length_set]; exact Ll.out, small_set L k _ Ls.out hdl, fun q' hq' => by
            by_cases e : q' = k
            · subst e
              rw [List.getD_eq_getElem?_getD, List.getElem?_set_self hkL, HDr.out]
              rfl
            · rw [BigMulW.getD_set_ne _ _ _ _ (fun e' => e e'.symm)]
              exact Lv.out q' (by have := K1.out; omega), BN2.out⟩
          case measure => have := K1.out; simp [intOf]; omega
        · have hb0 : b % 2 ^ i = 0 := by
            by_cases h3 : k1 < m
            · have : i = 0 := by omega
              rw [this, Nat.pow_zero, Nat.mod_one]
            · rw [← Hbb.out, List.getD_eq_getElem?_getD, List.getElem?_eq_none (by have := K1.out; rw [HXl.out]; omega)]
              exact Nat.zero_mod _
          have hDr : (rdg i X).getD k 0 = q := by rw [HDg.out, Hq.out, hb0, Nat.zero_mul, Nat.add_zero]
          have HDr := Lib.hid hDr
          have HFin := Lib.hid (show ∀ q', q' < k + 1 → (L.set k q).getD q' 0 = (rdg i X).getD q' 0 from fun q' hq' => by
            by_cases e : q' = k
            · subst e
              rw [List.getD_eq_getElem?_getD, List.getElem?_set_self hkL, HDr.out]
              rfl
            · rw [BigMulW.getD_set_ne _ _ _ _ (fun e' => e e'.symm)]
              exact Lv.out q' (by omega))
          have HL2 := Lib.hid (show (L.set k q).length = m by rw [List.length_set]; exact Ll.out)
          have HS2 := Lib.hid (small_set L k _ Ls.out hqa)
          clear hDr hb0 hdl e1 e1'
          by_cases h3 : k1 < m
          · have c1 : decide ((k1 : Int) < (m : Int)) = true := decide_eq_true (by omega)
            have c1' : decide (k1 < m) = true := decide_eq_true (by omega)
            have c2 : decide ((i : Int) > 0) = false := decide_eq_false (by omega)
            have c2' : decide (0 < i) = false := decide_eq_false (by omega)
            clear h2
            go_wp2
            go_roundw
            case rel => exact ⟨k1, _, by have := K1.out; omega, by go_num, AW.out, HL2.out, HS2.out, by rw [← K1.out]; exact HFin.out, BN.out⟩
            case measure => have := K1.out; simp [intOf]; omega
          · have c1 : decide ((k1 : Int) < (m : Int)) = false := decide_eq_false (by omega)
            have c1' : decide (k1 < m) = false := decide_eq_false (by omega)
            clear h2
            go_wp2
            go_roundw
            case rel => exact ⟨k1, _, by have := K1.out; omega, by go_num, AW.out, HL2.out, HS2.out, by rw [← K1.out]; exact HFin.out, BN.out⟩
            case measure => have := K1.out; simp [intOf]; omega
      · obtain rfl : k = m := by omega
        have ct : decide ((k : Int) < (k : Int)) = false := decide_eq_false (by omega)
        have hLe : L = rdg i X := by
          have hl := rdg_len i X
          apply List.ext_getElem
          · rw [Ll.out, hl, HXl.out]
          · intro q h1 h2
            have h3 := Lv.out q (by rw [← Ll.out]; exact h1)
            rw [List.getD_eq_getElem?_getD, List.getD_eq_getElem?_getD, List.getElem?_eq_getElem h1, List.getElem?_eq_getElem h2] at h3
            exact h3
        have HD := Lib.hid (show dval L = dval x / 2 ^ n by rw [hLe]; exact HV.out)
        have U := Lib.hid (us_of_arr A1.out)
        clear hLe
        go_wp2
        go_ret
        exact ⟨some ⟨w.heap.size, 0, none⟩, L, k, by rw [Ll.out]; rfl, U.out, by rw [Ll.out]; exact Nat.le_refl _, Ls.out, HD.out, by rw [Ll.out]; exact HM.out, BW.out⟩
end Go.Proofs.YtfngomlknhappaaDoor.BigShrW

/-
  The document's own whole numbers: Rsh of a number that is not below 0. Conditions: in the statement.
-/
namespace Go.Proofs.YtfngomlknhappaaDoor.BigRshW
open Go.RowKit BytesW CellsW WordsW ArrW BigW BigNewW BigMulW BigM BigSetNW BigNegW BigAddW BigSubW BigShrW

theorem sgn_true_neg {d : List Nat} (h : 0 < dval d) : sgn true (dval d) < 0 := by
  have e : sgn true (dval d) = -(dval d : Int) := rfl
  omega
set_option maxHeartbeats 8000000 in
set_option maxRecDepth 100000 in
theorem rsh_any (gz gx n x : Nat) (w : World) (hz : Shape w gz) (hx : IntV w gx (x : Int)) (bx : x < BIG) (hn : n ≤ 65536) :
    Calls Tryd.prog 37 #[.pointer (some ⟨gz, 0, none⟩), .pointer (some ⟨gx, 0, none⟩), .int .u64 (n : Int)] w fun e w' => e = .returned (.pointer (some ⟨gz, 0, none⟩)) ∧ IntV w' gz ((x / 2 ^ n : Nat) : Int) ∧ w.grownBy w' (some gz) := by
  obtain ⟨nx, dx, hix, hxe, hnx⟩ := hx
  obtain rfl : nx = false := by
    cases nx with
    | false => rfl
    | true =>
      have h := sgn_true_neg (dval_pos hix.2.2 (hnx rfl))
      omega
  have hxd : x = dval dx := by
    have h : sgn false (dval dx) = (dval dx : Int) := rfl
    omega
  subst hxd
  have lx := len_big hix.2.2 bx
  obtain ⟨⟨Ax, cx, ax, ux, hcx⟩, sx, tx⟩ := hix
  have HAx := Lib.hid ax
  have UX := Lib.hid ux
  have SX := Lib.hid sx
  have HZ := Lib.hid hz
  have wn : IntKind.i64.wrap (n : Int) = (n : Int) := IntWalk.i64_in _ (by omega)
  have kn : w.cell? ⟨gx, 0, none⟩ = some (.bool false) := ax.cell 0
  clear ax ux sx tx hz hnx bx hxe
  go_enter Tryd.func37, Tryd.ntmps37
  have kx1 : w.cell? ⟨gx, 1, none⟩ = some (.slice Ax dx.length cx) := HAx.out.cell 1
  have HC := Lib.hid (shr_any Ax dx cx n w UX.out SX.out (by omega) hcx (by omega))
  go_wp2_with fail
  refine HC.out.mono ?_
  clear HC
  rintro e w3 ⟨AD, D, cD, rfl, uD, cD2, sD, vD, lD, b3⟩
  have LD := Lib.hid lD
  clear lD kx1 kn
  obtain ⟨bz, Az, nz, cz, az⟩ := shape_below HZ.out b3
  have kz0 : w3.cell? ⟨gz, 0, none⟩ = some (.bool bz) := az.cell 0
  have fz0 := az.frozen 0
  have az4 := az.set 0 (.bool false)
  simp only [List.set_cons_zero] at az4
  have u4 := Us.other az uD (k := 0) (.bool false)
  have g4 := grown_set w3 gz 0 (.bool false)
  have e4 : (w3.setCell ⟨gz, 0, none⟩ (.bool false)).heap.size = w3.heap.size := by simp
  obtain ⟨w4, hw4⟩ : ∃ w4, w3.setCell ⟨gz, 0, none⟩ (.bool false) = w4 := ⟨_, rfl⟩
  rw [hw4] at az4 g4 e4 u4
  rw [← e4] at u4
  have kz1 : w4.cell? ⟨gz, 1, none⟩ = some (.slice Az nz cz) := az4.cell 1
  have fz1 := az4.frozen 1
  have az5 := az4.set 1 (.slice AD D.length cD)
  simp only [List.set_cons_zero, List.set_cons_succ] at az5
  have u5 := Us.other az4 u4 (k := 1) (.slice AD D.length cD)
  have g5 := grown_set w4 gz 1 (.slice AD D.length cD)
  have e5 : (w4.setCell ⟨gz, 1, none⟩ (.slice AD D.length cD)).heap.size = w4.heap.size := by simp
  obtain ⟨w5, hw5⟩ : ∃ w5, w4.setCell ⟨gz, 1, none⟩ (.slice AD D.length cD) = w5 := ⟨_, rfl⟩
  have hg5 := grown_trans (grown_of_below (g := gz) b3) (grown_trans g4 g5)
  rw [hw5] at az5 u5 g5 e5 hg5
  have HT := Lib.hid (trim_any gz false AD D cD w5 az5 (by rw [e5]; exact u5) cD2 sD (by have := LD.out; omega))
  have HG5 := Lib.hid hg5
  have HVal := Lib.hid (show ((dval dx / 2 ^ n : Nat) : Int) = sgn false (dval D) by rw [vD]; rfl)
  have HW5 := Lib.hid hw5
  have HW4 := Lib.hid hw4
  clear az5 u5 g5 e5 hg5 az4 u4 g4 e4 az uD cD2 sD vD b3 hw5 wn
  rw [← hw4] at kz1 fz1
  clear hw4
  go_upto_region 6 with (fail)
  rw [HW4.out, HW5.out]
  clear kz0 fz0 kz1 fz1
  go_wp2_with fail
  refine HT.out.mono ?_
  clear HT
  rintro e w6 ⟨rfl, hI, hg⟩
  go_wp2
  go_ret
  exact ⟨rfl, ⟨_, _, hI, by rw [sgn_trim]; exact HVal.out, trim_ne _ _⟩, grown_trans HG5.out hg⟩
end Go.Proofs.YtfngomlknhappaaDoor.BigRshW

/-
  The document's own whole numbers: Bit, BitLen of a number that is not below 0. Conditions: in each statement.
-/
namespace Go.Proofs.YtfngomlknhappaaDoor.BigBitW
open Go.RowKit BytesW CellsW WordsW ArrW BigW BigNewW BigMulW BigM BigSetNW BigNegW BigAddW BigSubW BigRshW

theorem bit_at (d : List Nat) (hs : Sd d) (k : Nat) : dval d / 2 ^ k % 2 = d.getD (k / 32) 0 / 2 ^ (k % 32) % 2 := by
  by_cases h : k / 32 < d.length
  · have e := dval_split d (k / 32) h
    have h1 : dval (d.take (k / 32)) < 4294967296 ^ (k / 32) := by
      have := dval_lt (l := d.take (k / 32)) (fun x hx => hs x (List.mem_of_mem_take hx))
      rw [List.length_take, Nat.min_eq_left (by omega)] at this
      exact this
    have h2 : dval d / 4294967296 ^ (k / 32) = d[k / 32] + 4294967296 * dval (d.drop (k / 32 + 1)) := by
      rw [e, Nat.add_mul_div_left _ _ (Nat.pow_pos (by decide)), Nat.div_eq_of_lt h1, Nat.zero_add]
    rw [← BigShrW.div_split, h2]
    have hg : d.getD (k / 32) 0 = d[k / 32] := by rw [List.getD_eq_getElem?_getD, List.getElem?_eq_getElem h]; rfl
    rw [hg]
    generalize dval (d.drop (k / 32 + 1)) = t
    generalize d[k / 32] = a
    obtain ⟨i, hi⟩ : ∃ i, k % 32 = i := ⟨_, rfl⟩
    have hi32 : i < 32 := by omega
    rw [hi]
    have hp : (4294967296 : Nat) = 2 ^ i * (2 * 2 ^ (31 - i)) := by
      rw [← Nat.mul_assoc, ← Nat.pow_succ, ← Nat.pow_add, show i + 1 + (31 - i) = 32 by omega]
    rw [hp, Nat.mul_assoc, Nat.add_mul_div_left _ _ (Nat.pow_pos (by decide)), Nat.mul_assoc, Nat.add_mul_mod_self_left]
  · have hlt : dval d < 2 ^ k := by
      have h1 := dval_lt hs
      have h2 : 4294967296 ^ d.length ≤ 2 ^ k := by
        rw [show (4294967296 : Nat) = 2 ^ 32 from rfl, ← Nat.pow_mul]
        exact Nat.pow_le_pow_right (by decide) (by omega)
      omega
    rw [Nat.div_eq_of_lt hlt, List.getD_eq_getElem?_getD, List.getElem?_eq_none (by omega)]
    simp
theorem and_one (v : Nat) (h : v < 4294967296) : bits .and .u32 (v : Int) 1 = ((v % 2 : Nat) : Int) := by
  have h1 := Bits.and_u32 v 1 h (by decide)
  rw [Nat.and_one_is_mod] at h1
  exact h1
theorem nat_digits {w : World} {g x : Nat} (hx : IntV w g (x : Int)) (bx : x < BIG) : ∃ d A c, x = dval d ∧ Sd d ∧ d.length ≤ 1024 ∧ Arr w g 34 [.bool false, .slice A d.length c] ∧ Us w w.heap.size A d := by
  obtain ⟨nx, dx, hix, hxe, hnx⟩ := hx
  obtain rfl : nx = false := by
    cases nx with
    | false => rfl
    | true =>
      have h := sgn_true_neg (dval_pos hix.2.2 (hnx rfl))
      omega
  have hxd : x = dval dx := by
    have h : sgn false (dval dx) = (dval dx : Int) := rfl
    omega
  subst hxd
  have lx := len_big hix.2.2 bx
  obtain ⟨⟨A, c, ha, hu, -⟩, hs, ht⟩ := hix
  exact ⟨dx, A, c, rfl, hs, lx, ha, hu⟩

set_option maxHeartbeats 4000000 in
set_option maxRecDepth 100000 in
theorem bit_any (gx k x : Nat) (w : World) (hx : IntV w gx (x : Int)) (bx : x < BIG) (hk : k ≤ 1048576) :
    Calls Tryd.prog 48 #[.pointer (some ⟨gx, 0, none⟩), .int .i64 (k : Int)] w fun e w' => e = .returned (.int .u64 ((x / 2 ^ k % 2 : Nat) : Int)) ∧ Below w.heap.size w w' := by
  obtain ⟨d, A, c, rfl, hs, hl, ha, hu⟩ := nat_digits hx bx
  have k1 : w.cell? ⟨gx, 1, none⟩ = some (.slice A d.length c) := ha.cell 1
  rw [bit_at d hs k]
  obtain ⟨j, hj⟩ : ∃ j, k / 32 = j := ⟨_, rfl⟩
  obtain ⟨i, hi⟩ : ∃ i, k % 32 = i := ⟨_, rfl⟩
  rw [hj, hi]
  have d1 : (k : Int).tdiv 32 = (j : Int) := by rw [Int.tdiv_eq_ediv_of_nonneg (by omega)]; omega
  have d2 : (k : Int) / 32 = (j : Int) := by omega
  have m1 : (k : Int).tmod 32 = (i : Int) := by rw [Int.tmod_eq_emod_of_nonneg (by omega)]; omega
  have m2 : (k : Int) % 32 = (i : Int) := by omega
  have wj : IntKind.i64.wrap (j : Int) = (j : Int) := IntWalk.i64_in _ (by omega)
  have wi : IntKind.i64.wrap (i : Int) = (i : Int) := IntWalk.i64_in _ (by omega)
  have hi31 : i ≤ 31 := by omega
  by_cases hge : d.length ≤ j
  · have t1 : decide ((j : Int) ≥ (d.length : Int)) = true := decide_eq_true (by omega)
    have t1' : decide (d.length ≤ j) = true := decide_eq_true hge
    have h0 : d.getD j 0 / 2 ^ i % 2 = 0 := by rw [List.getD_eq_getElem?_getD, List.getElem?_eq_none hge]; simp
    rw [h0]
    clear hx bx hs ha hu hj hi hge h0
    go_enter Tryd.func48, Tryd.ntmps48
    go_wp2
    go_ret
    exact ⟨rfl, Below.refl _ _⟩
  · have t1 : decide ((j : Int) ≥ (d.length : Int)) = false := decide_eq_false (by omega)
    have t1' : decide (d.length ≤ j) = false := decide_eq_false hge
    have hjl : j < d.length := by omega
    obtain ⟨ad, rfl, _, cj⟩ := hu.at_ hjl
    have la := hs _ (List.getElem_mem hjl)
    have hg : d.getD j 0 = d[j] := by rw [List.getD_eq_getElem?_getD, List.getElem?_eq_getElem hjl]; rfl
    rw [hg]
    generalize d[j]'hjl = a at *
    obtain ⟨q, hq⟩ : ∃ q, a / 2 ^ i = q := ⟨_, rfl⟩
    have hql : q < 4294967296 := by rw [← hq]; exact Nat.lt_of_le_of_lt (Nat.div_le_self _ _) la
    have e1 : (a : Int) / 2 ^ i = (q : Int) := by rw [← hq]; push_cast; rfl
    have e1' : (a : Int) / 2 ^ (min i 32) = (q : Int) := by rw [Nat.min_eq_left (by omega)]; exact e1
    have e2 := and_one q hql
    rw [hq]
    obtain ⟨r, hr⟩ : ∃ r, q % 2 = r := ⟨_, rfl⟩
    rw [hr] at e2 ⊢
    have hr2 : r < 2 := by omega
    have e3 : IntKind.u64.wrap (r : Int) = (r : Int) := IntWalk.u64_in _ (by omega)
    have ij : (j : Int) < (d.length : Int) := by omega
    clear hx bx hs ha hu hj hi hge hg hq hr
    go_enter Tryd.func48, Tryd.ntmps48
    go_wp2
    go_ret
    exact ⟨rfl, Below.refl _ _⟩

set_option maxHeartbeats 4000000 in
set_option maxRecDepth 100000 in
theorem bitlen_any (gx x : Nat) (w : World) (hx : IntV w gx (x : Int)) (bx : x < BIG) :
    Calls Tryd.prog 60 #[.pointer (some ⟨gx, 0, none⟩)] w fun e w' => (∃ n : Nat, e = .returned (.int .i64 (n : Int)) ∧ x < 2 ^ n ∧ (0 < n → 2 ^ (n - 1) ≤ x)) ∧ Below w.heap.size w w' := by
  obtain ⟨d, A, c, rfl, hs, hl, ha, hu⟩ := nat_digits hx bx
  have k1 : w.cell? ⟨gx, 1, none⟩ = some (.slice A d.length c) := ha.cell 1
  have HS := Lib.hid hs
  have HU := Lib.hid hu
  obtain ⟨N, hN⟩ : ∃ N, d.length * 32 = N := ⟨_, rfl⟩
  have eN : IntKind.i64.wrap ((d.length : Int) * 32) = (N : Int) := by rw [IntWalk.i64_in _ (by omega)]; omega
  have HV := Lib.hid (show dval d < 2 ^ N by
    have h1 := dval_lt hs
    rw [show (4294967296 : Nat) = 2 ^ 32 from rfl, ← Nat.pow_mul, Nat.mul_comm, hN] at h1
    exact h1)
  have HN := Lib.hid hN
  have hNs : N ≤ 32768 := by omega
  clear hx bx hs ha hu hN
  go_enter Tryd.func60, Tryd.ntmps60
  go_wp2
  clear eN
  go_loopw [3] (fun vn wr => ∃ n : Nat, n ≤ N ∧ vn = .int .i64 (n : Int) ∧ dval d < 2 ^ n ∧ wr = w) (fun vn _ => (intOf vn).toNat)
  case atStart => exact ⟨N, Nat.le_refl _, rfl, HV.out, rfl⟩
  case round =>
    obtain ⟨n, hn, rfl, hv, rfl⟩ := hrel
    have HVn := Lib.hid hv
    clear hv
    cases n with
    | zero =>
      have ct : decide (((0 : Nat) : Int) > 0) = false := rfl
      go_wp2
      go_ret
      exact ⟨⟨0, rfl, HVn.out, fun h => absurd h (by omega)⟩, Below.refl _ _⟩
    | succ m =>
      have ct : decide (((m + 1 : Nat) : Int) > 0) = true := decide_eq_true (by omega)
      have hbit := bit_at d HS.out m
      obtain ⟨p, hp⟩ : ∃ p, m + 1 = p := ⟨_, rfl⟩
      have Hp := Lib.hid hp
      rw [hp] at ct HVn hn ⊢
      have hp0 : 0 < p := by omega
      have ct' : decide (0 < p) = true := decide_eq_true hp0
      obtain ⟨j, hj⟩ : ∃ j, m / 32 = j := ⟨_, rfl⟩
      obtain ⟨i, hi⟩ : ∃ i, m % 32 = i := ⟨_, rfl⟩
      rw [hj, hi] at hbit
      have ep : IntKind.i64.wrap ((p : Int) - 1) = (m : Int) := by rw [IntWalk.i64_in _ (by omega)]; omega
      have d1 : (m : Int).tdiv 32 = (j : Int) := by rw [Int.tdiv_eq_ediv_of_nonneg (by omega)]; omega
      have d2 : (m : Int) / 32 = (j : Int) := by omega
      have m1 : (m : Int).tmod 32 = (i : Int) := by rw [Int.tmod_eq_emod_of_nonneg (by omega)]; omega
      have m2 : (m : Int) % 32 = (i : Int) := by omega
      have wj : IntKind.i64.wrap (j : Int) = (j : Int) := IntWalk.i64_in _ (by omega)
      have wi : IntKind.i64.wrap (i : Int) = (i : Int) := IntWalk.i64_in _ (by omega)
      have hi31 : i ≤ 31 := by omega
      have hjl : j < d.length := by have := HN.out; omega
      obtain ⟨ad, rfl, _, cj⟩ := HU.out.at_ hjl
      have la := HS.out _ (List.getElem_mem hjl)
      have hg : d.getD j 0 = d[j] := by rw [List.getD_eq_getElem?_getD, List.getElem?_eq_getElem hjl]; rfl
      rw [hg] at hbit
      generalize d[j]'hjl = a at *
      obtain ⟨q, hq⟩ : ∃ q, a / 2 ^ i = q := ⟨_, rfl⟩
      have hql : q < 4294967296 := by rw [← hq]; exact Nat.lt_of_le_of_lt (Nat.div_le_self _ _) la
      have e1 : (a : Int) / 2 ^ i = (q : Int) := by rw [← hq]; push_cast; rfl
      have e1' : (a : Int) / 2 ^ (min i 32) = (q : Int) := by rw [Nat.min_eq_left (by omega)]; exact e1
      have e2 := and_one q hql
      rw [hq] at hbit
      have ij : (j : Int) < (d.length : Int) := by omega
      have Hbit := Lib.hid hbit
      obtain ⟨r, hr⟩ : ∃ r, q % 2 = r := ⟨_, rfl⟩
      have Hr := Lib.hid hr
      rw [hr] at e2
      clear hg hq hbit hp hj hi
      by_cases h0 : r = 0
      · have t2 : ((r : Int) == 0) = true := by rw [beq_iff_eq]; omega
        have hnext : dval d < 2 ^ m := by
          have h1 := Hbit.out
          have h2 := HVn.out
          rw [Hr.out, h0] at h1
          rw [← Hp.out, Nat.pow_succ] at h2
          have h3 : dval d / 2 ^ m < 2 := by rw [Nat.div_lt_iff_lt_mul (Nat.pow_pos (by decide)), Nat.mul_comm]; exact h2
          obtain ⟨z, hz⟩ : ∃ z, dval d / 2 ^ m = z := ⟨_, rfl⟩
          rw [hz] at h1 h3
          have h4 : z = 0 := by omega
          rcases Nat.lt_or_ge (dval d) (2 ^ m) with h | h
          · exact h
          · have h5 : 0 < dval d / 2 ^ m := Nat.div_pos h (Nat.pow_pos (by decide))
            rw [hz, h4] at h5
            exact absurd h5 (by decide)
        have HNx := Lib.hid hnext
        clear hnext hr h0
        go_wp2
        go_roundw
        case rel => exact ⟨m, by have := Hp.out; omega, rfl, HNx.out, by first | rfl | trivial⟩
        case measure => have := Hp.out; simp [intOf]; omega
      · have t2 : ((r : Int) == 0) = false := by rw [beq_eq_false_iff_ne]; omega
        have hlast : 2 ^ (p - 1) ≤ dval d := by
          have h1 := Hbit.out
          rw [Hr.out] at h1
          rw [← Hp.out, Nat.add_sub_cancel]
          rcases Nat.lt_or_ge (dval d) (2 ^ m) with h | h
          · rw [Nat.div_eq_of_lt h] at h1
            omega
          · exact h
        have HLs := Lib.hid hlast
        clear hlast hr h0
        go_wp2
        go_ret
        exact ⟨⟨p, rfl, HVn.out, fun _ => HLs.out⟩, Below.refl _ _⟩
end Go.Proofs.YtfngomlknhappaaDoor.BigBitW

/-
  Division digit by digit, each one guessed by two of the divisor's: plain mathematics. No program is named here. Conditions: in each statement.
-/
namespace Go.Proofs.YtfngomlknhappaaDoor.BigK
open BigW BigNewW BigMulW BigM

/-- What the guess is: not less than the digit, and by one more at most. U3, V2: the numbers' first digits (three, two); B: what is left out. -/
theorem guess_ge {U V U3 V2 B R S q h : Nat} (hU : U = U3 * B + R) (hV : V = V2 * B + S) (hR : R < B) (hq : q * V ≤ U) (hh : U3 < h * V2) : q < h := by
  apply Classical.byContradiction
  intro hn
  have h1 : h ≤ q := Nat.le_of_not_lt hn
  have h2 : h * V2 * B ≤ q * V := by
    rw [hV, Nat.mul_add, ← Nat.mul_assoc]
    exact Nat.le_trans (Nat.mul_le_mul_right B (Nat.mul_le_mul_right V2 h1)) (Nat.le_add_right _ _)
  have h3 : (U3 + 1) * B ≤ h * V2 * B := Nat.mul_le_mul_right B hh
  rw [Nat.add_mul, Nat.one_mul] at h3
  omega
theorem guess_le {U V U3 V2 B R S q h b : Nat} (hU : U = U3 * B + R) (hV : V = V2 * B + S) (hS : S < B) (hb : h < b) (hbB : b * B ≤ V) (hh : h * V2 ≤ U3) (hq : U < (q + 1) * V) : h ≤ q + 1 := by
  apply Classical.byContradiction
  intro hn
  have h1 : q + 2 ≤ h := by omega
  have h2 : h * V ≤ U3 * B + h * S := by
    rw [hV, Nat.mul_add, ← Nat.mul_assoc]
    exact Nat.add_le_add_right (Nat.mul_le_mul_right B hh) _
  have h3 : h * S ≤ b * B := Nat.le_trans (Nat.mul_le_mul_right S (Nat.le_of_lt hb)) (Nat.mul_le_mul_left b (Nat.le_of_lt hS))
  have h4 : (q + 2) * V ≤ h * V := Nat.mul_le_mul_right V h1
  have h5 : (q + 2) * V = (q + 1) * V + V := by rw [Nat.add_mul (q + 1) 1, Nat.one_mul]
  omega

/-- The window of i digits from k on. -/
def win (u : List Nat) (k i : Nat) : Nat := dval ((u.drop k).take i)
theorem win_zero (u : List Nat) (k : Nat) : win u k 0 = 0 := by simp [win, dval]
theorem win_succ (u : List Nat) (k i : Nat) (h : k + i < u.length) : win u k (i + 1) = win u k i + 4294967296 ^ i * u.getD (k + i) 0 := by
  unfold win
  rw [dval_take_succ _ i (by rw [List.length_drop]; omega), List.getElem_drop, List.getD_eq_getElem?_getD, List.getElem?_eq_getElem h]
  rfl
theorem win_set_ge (u : List Nat) (k i p x : Nat) (h : k + i ≤ p) : win (u.set p x) k i = win u k i := by
  unfold win
  rw [List.drop_set, if_neg (by omega), List.take_set, List.set_eq_of_length_le (by rw [List.length_take]; omega)]
theorem win_lt {u : List Nat} (hs : Sd u) (k i : Nat) : win u k i < 4294967296 ^ i := by
  have h := dval_lt (l := (u.drop k).take i) (fun x hx => hs x (List.mem_of_mem_drop (List.mem_of_mem_take hx)))
  rw [List.length_take] at h
  exact Nat.lt_of_lt_of_le h (Nat.pow_le_pow_right (by decide) (Nat.min_le_left _ _))
theorem drop_split (u : List Nat) (k : Nat) (h : k < u.length) : dval (u.drop k) = u.getD k 0 + 4294967296 * dval (u.drop (k + 1)) := by
  rw [List.drop_eq_getElem_cons h, dval, List.getD_eq_getElem?_getD, List.getElem?_eq_getElem h]
  rfl
theorem take_drop_val (u : List Nat) (k : Nat) (h : k ≤ u.length) : dval u = dval (u.take k) + 4294967296 ^ k * dval (u.drop k) := by
  conv => lhs; rw [← List.take_append_drop k u, dval_append, List.length_take, Nat.min_eq_left h]
theorem win_all {u : List Nat} (k i : Nat) (h : dval (u.drop k) < 4294967296 ^ i) (hi : k + i ≤ u.length) : win u k i = dval (u.drop k) := by
  have e := take_drop_val (u.drop k) i (by rw [List.length_drop]; omega)
  unfold win
  rcases Nat.eq_zero_or_pos (dval ((u.drop k).drop i)) with h0 | h0
  · rw [h0, Nat.mul_zero, Nat.add_zero] at e
    exact e.symm
  · have := Nat.mul_le_mul_left (4294967296 ^ i) h0
    omega

/-- Taking off: one digit more. -/
theorem sub_step {A A' q V x r v c b c1 c' b' P : Nat} (h : A' + q * V = A + (b + c) * P) (hc : c1 = c + q * v) (hc' : c' = c1 / 4294967296) (hr : r + c1 % 4294967296 + b = x + b' * 4294967296) :
    (A' + P * r) + q * (V + P * v) = (A + P * x) + (b' + c') * (P * 4294967296) := by
  have h1 := Nat.mod_add_div c1 4294967296
  rw [← hc'] at h1
  have h2 : P * (r + c1 % 4294967296 + b) = P * (x + b' * 4294967296) := by rw [hr]
  have h3 : P * c1 = P * c + P * (q * v) := by rw [hc, Nat.mul_add]
  have h4 : P * (c1 % 4294967296 + 4294967296 * c') = P * c1 := by rw [h1]
  have e1 : q * (V + P * v) = q * V + P * (q * v) := by rw [Nat.mul_add, Nat.mul_left_comm]
  have e2 : (b' + c') * (P * 4294967296) = P * (b' * 4294967296) + P * (4294967296 * c') := by
    rw [Nat.add_mul]
    congr 1
    · rw [← Nat.mul_assoc, Nat.mul_comm b', Nat.mul_assoc]
    · rw [← Nat.mul_assoc, Nat.mul_comm c', Nat.mul_assoc, Nat.mul_comm c']
  have e3 : (b + c) * P = P * b + P * c := by rw [Nat.mul_comm, Nat.mul_add]
  rw [e1, e2]
  rw [e3] at h
  rw [Nat.mul_add, Nat.mul_add, Nat.mul_add] at h2
  rw [Nat.mul_add] at h4
  omega
/-- Putting back: one digit more. -/
theorem add_step {A A' V x v c s P : Nat} (h : A' + c * P = A + V) (hs : s = c + (x + v)) :
    (A' + P * (s % 4294967296)) + s / 4294967296 * (P * 4294967296) = (A + P * x) + (V + P * v) := by
  have h1 := Nat.mod_add_div s 4294967296
  have h2 : P * (s % 4294967296 + 4294967296 * (s / 4294967296)) = P * c + (P * x + P * v) := by rw [h1, hs, Nat.mul_add, Nat.mul_add]
  have e2 : s / 4294967296 * (P * 4294967296) = P * (4294967296 * (s / 4294967296)) := by
    rw [← Nat.mul_assoc, Nat.mul_comm (s / 4294967296), Nat.mul_assoc, Nat.mul_comm (s / 4294967296)]
  rw [Nat.mul_add] at h2
  rw [e2]
  rw [Nat.mul_comm c] at h
  omega

/-- No borrow left: the guess was right. -/
theorem end_right {W W' V q h : Nat} (hq : q = W / V) (hge : q ≤ h) (hV : 0 < V) (he : W' + h * V = W) : h = q ∧ W' = W % V := by
  have h1 : h ≤ q := by rw [hq, Nat.le_div_iff_mul_le hV]; omega
  have h2 : h = q := by omega
  refine ⟨h2, ?_⟩
  have h3 := Nat.div_add_mod W V
  rw [← hq, ← h2, Nat.mul_comm] at h3
  omega
/-- A borrow left: it was one too great, and what is put back mends it. -/
theorem end_wrong {W W' W2 V q h o P : Nat} (hq : q = W / V) (hle : h ≤ q + 1) (hV : 0 < V) (hVP : V ≤ P) (he : W' + h * V = W + P) (hW' : W' < P) (hb : W2 + o * P = W' + V) (hW2 : W2 < P) : h = q + 1 ∧ W2 = W % V := by
  have h1 : q < h := by
    apply Classical.byContradiction
    intro hn
    have h2 : h * V ≤ q * V := Nat.mul_le_mul_right V (Nat.le_of_not_lt hn)
    have h3 : q * V ≤ W := by rw [hq]; exact Nat.div_mul_le_self W V
    omega
  have h2 : h = q + 1 := by omega
  refine ⟨h2, ?_⟩
  have h3 := Nat.div_add_mod W V
  have h4 := Nat.mod_lt W hV
  rw [← hq, Nat.mul_comm] at h3
  rw [h2, Nat.add_mul, Nat.one_mul] at he
  have ho : o = 1 := by
    rcases Nat.lt_or_ge o 1 with h | h
    · have : o = 0 := by omega
      subst this
      omega
    · rcases Nat.lt_or_ge 1 o with h5 | h5
      · have := Nat.mul_le_mul_right P h5
        omega
      · omega
  subst ho
  omega
/-- What follows for the whole: k is the place, q its digit. -/
theorem whole_step {D o X V du du' t W k q : Nat} (hX : o * V + du = X) (hdu : du = t + 4294967296 ^ k * W) (hdu' : du' = t + 4294967296 ^ k * (W % V)) (hq : q = W / V) (hD : D = o + q * 4294967296 ^ k) : D * V + du' = X := by
  have h1 := Nat.div_add_mod W V
  rw [← hq] at h1
  have h2 : 4294967296 ^ k * (V * q + W % V) = 4294967296 ^ k * W := by rw [h1]
  rw [Nat.mul_add] at h2
  have h3 : D * V = o * V + 4294967296 ^ k * (V * q) := by
    rw [hD, Nat.add_mul, Nat.mul_comm q, Nat.mul_assoc, Nat.mul_comm q]
  rw [h3, hdu']
  rw [hdu] at hX
  omega
/-- At the end. -/
theorem whole_end {D X V r : Nat} (h : D * V + r = X) (hr : r < V) : D = X / V ∧ r = X % V := by
  have hV : 0 < V := by omega
  have h1 : X / V = D := by
    rw [← h, Nat.add_comm, Nat.add_mul_div_right _ _ hV, Nat.div_eq_of_lt hr, Nat.zero_add]
  have h2 : X % V = r := by
    rw [← h, Nat.add_comm, Nat.add_mul_mod_self_right, Nat.mod_eq_of_lt hr]
  exact ⟨h1.symm, h2.symm⟩
theorem scaled (x y s : Nat) (hs : 0 < s) : x * s / (y * s) = x / y ∧ x * s % (y * s) / s = x % y := by
  refine ⟨Nat.mul_div_mul_right x y hs, ?_⟩
  rw [Nat.mul_mod_mul_right, Nat.mul_div_cancel _ hs]
end Go.Proofs.YtfngomlknhappaaDoor.BigK

/-
  The document's own whole numbers: Uint64, the lowest 64 bits. Conditions: in the statement.
-/
namespace Go.Proofs.YtfngomlknhappaaDoor.BigU64W
open Go.RowKit BytesW CellsW WordsW ArrW BigW BigNewW BigMulW

theorem or_join' {a b : Nat} (ha : a < 4294967296) (hb : b < 4294967296) : bits .or .u64 ((b : Int) * 4294967296) (a : Int) = ((a + 4294967296 * b : Nat) : Int) := by
  have e : (b : Int) * 4294967296 = ((b * 4294967296 : Nat) : Int) := by omega
  rw [e, Bits.or_u64 _ _ (by omega) (by omega)]
  have h6 := Nat.two_pow_add_eq_or_of_lt (i := 32) (show a < 2 ^ 32 from ha) b
  rw [show (2 : Nat) ^ 32 = 4294967296 from rfl] at h6
  rw [Nat.mul_comm b, ← h6, Nat.add_comm]
theorem low_two (a b : Nat) (r : List Nat) (ha : a < 4294967296) (hb : b < 4294967296) : dval (a :: b :: r) % 18446744073709551616 = a + 4294967296 * b := by
  simp only [dval]
  generalize dval r = z
  omega

set_option maxHeartbeats 4000000 in
set_option maxRecDepth 100000 in
theorem ulow_any (g : Nat) (neg : Bool) (d : List Nat) (w : World) (h : IntAt w g neg d) (hd : d.length ≤ 1048576) :
    Calls Tryd.prog 38 #[.pointer (some ⟨g, 0, none⟩)] w fun e w' => e = .returned (.int .u64 ((dval d % 18446744073709551616 : Nat) : Int)) ∧ w = w' := by
  obtain ⟨⟨A, c, ha, hu, hc⟩, hs, _⟩ := h
  match d, hs, hu, ha, hc, hd with
  | [], hs, hu, ha, hc, hd =>
    have k1 : w.cell? ⟨g, 1, none⟩ = some (.slice A 0 c) := ha.cell 1
    clear hu hs ha
    go_enter Tryd.func38, Tryd.ntmps38
    go_wp2
    refine wp_loop_rounds 2 ?_
    rw [rounds_succ]
    go_wp2
    go_ret
    exact ⟨rfl, rfl⟩
  | [a], hs, hu, ha, hc, hd =>
    have k1 : w.cell? ⟨g, 1, none⟩ = some (.slice A 1 c) := ha.cell 1
    obtain ⟨ad, rfl, _, c0⟩ := hu.at_ (k := 0) (by simp)
    rw [add_zero] at c0
    simp only [List.getElem_cons_zero] at c0
    have la := hs a (by simp)
    have h0 : bits .or .u64 0 (a : Int) = (a : Int) := by have := Bits.or_u64 0 a (by omega) (by omega); simpa using this
    have hv : dval [a] % 18446744073709551616 = a := by simp only [dval]; omega
    rw [hv]
    clear hu hs ha hv
    go_enter Tryd.func38, Tryd.ntmps38
    go_wp2
    refine wp_loop_rounds 2 ?_
    rw [rounds_succ]
    go_wp2
    rw [rounds_succ]
    go_wp2
    go_ret
    exact ⟨by simp, rfl⟩
  | a :: b :: r, hs, hu, ha, hc, hd =>
    obtain ⟨n, hn⟩ : ∃ n, (a :: b :: r).length = n := ⟨_, rfl⟩
    have h2n : 2 ≤ n := by rw [← hn]; simp
    obtain ⟨ad, rfl, _, c0⟩ := hu.at_ (k := 0) (by simp)
    obtain ⟨_, e, _, c1⟩ := hu.at_ (k := 1) (by simp)
    cases e
    rw [add_zero] at c0
    simp only [List.getElem_cons_zero, List.getElem_cons_succ] at c0 c1
    rw [hn] at ha hc hd
    have k1 : w.cell? ⟨g, 1, none⟩ = some (.slice (some ad) n c) := ha.cell 1
    have la := hs a (by simp)
    have lb := hs b (by simp)
    have h0 : bits .or .u64 0 (b : Int) = (b : Int) := by have := Bits.or_u64 0 b (by omega) (by omega); simpa using this
    have HJ := or_join' la lb
    rw [show ad.add 1 = ⟨ad.block, ad.off + 1, none⟩ from rfl] at c1
    rw [low_two a b r la lb]
    have hif : (if (2 : Int) < (n : Int) then (2 : Int) else (n : Int)) = 2 := by split <;> omega
    have i1 : (1 : Int) < (n : Int) := by omega
    have i0 : (0 : Int) < (n : Int) := by omega
    clear hu hs ha hc hn
    go_enter Tryd.func38, Tryd.ntmps38
    go_wp2
    refine wp_loop_rounds 3 ?_
    rw [rounds_succ]
    go_wp2
    rw [rounds_succ]
    go_wp2
    rw [rounds_succ]
    go_wp2
    go_ret
    exact ⟨by simp, rfl⟩
end Go.Proofs.YtfngomlknhappaaDoor.BigU64W

/-
  The document's own whole numbers: parts by one digit. Conditions: in the statement.
-/
namespace Go.Proofs.YtfngomlknhappaaDoor.BigPart1W
open Go.RowKit BytesW CellsW WordsW ArrW BigW BigNewW BigMulW BigM BigNegW BigK

theorem or_shift (r x : Nat) (hr : r < 4294967296) (hx : x < 4294967296) : bits .or .u64 ((r : Int) * 4294967296) (x : Int) = ((r * 4294967296 + x : Nat) : Int) := by
  rw [show (r : Int) * 4294967296 = ((r * 4294967296 : Nat) : Int) by omega]
  rw [Bits.or_u64 _ _ (by omega) (by omega)]
  congr 1
  rw [show r * 4294967296 = 2 ^ 32 * r by omega, ← Nat.two_pow_add_eq_or_of_lt (i := 32) hx]

/-- What parts hands back: the quotient's digits and the rest's. -/
def Parts (x y : List Nat) (w : World) (e : Ending) (w' : World) : Prop :=
  ∃ (A A' : Option Addr) (Q R : List Nat) (c c' : Nat), e = .returned (.tuple #[.slice A Q.length c, .slice A' R.length c']) ∧ Us w' w'.heap.size A Q ∧ Us w' w'.heap.size A' R ∧ Q.length ≤ c ∧ R.length ≤ c' ∧ Sd Q ∧ Sd R ∧ dval Q = dval x / dval y ∧ dval R = dval x % dval y ∧ Q.length ≤ x.length + 1 ∧ R.length ≤ y.length ∧ Below w.heap.size w w'

set_option maxHeartbeats 8000000 in
set_option maxRecDepth 100000 in
theorem parts1_any (Ax : Option Addr) (x : List Nat) (cx : Nat) (Ay : Option Addr) (y0 cy : Nat) (w : World) (hx : Us w w.heap.size Ax x) (hy : Us w w.heap.size Ay [y0]) (sx : Sd x) (sy : y0 < 4294967296) (h0 : 0 < y0) (lx : x.length ≤ 1048576) :
    Calls Tryd.prog 66 #[.slice Ax x.length cx, .slice Ay 1 cy] w (Parts x [y0] w) := by
  have HX := Lib.hid hx
  have HY := Lib.hid hy
  have SX := Lib.hid sx
  have hmk := makeU x.length (by omega)
  have ar := made_arr x.length w
  have hb1 := (Below.refl w.heap.size w).alloc (Nat.le_refl _) (.cells (madeCells #[.int .u32 0] x.length) 57)
  obtain ⟨W1, hW1⟩ : ∃ W1, w.alloc (.cells (madeCells #[.int .u32 0] x.length) 57) = W1 := ⟨_, rfl⟩
  rw [hW1] at ar hb1
  have AR := Lib.hid ar
  have HB1 := Lib.hid hb1
  have HW1 := Lib.hid hW1
  have el : IntKind.i64.wrap ((x.length : Int) - 1) = (x.length : Int) - 1 := IntWalk.i64_in _ (by omega)
  clear hx hy sx ar hb1 hW1
  go_enter Tryd.func66, Tryd.ntmps66
  go_upto_region 3 with (fail)
  rw [HW1.out]
  clear hmk
  go_wp2
  go_loopw [7, 8] (fun vr vk wr => ∃ (j r : Nat) (L : List Nat), j ≤ x.length ∧ vk = .int .i64 ((j : Int) - 1) ∧ vr = .int .u64 (r : Int) ∧ r < y0 ∧ Arr wr w.heap.size 57 (wc L) ∧ L.length = x.length ∧ Sd L ∧ dval (x.drop j) = dval (L.drop j) * y0 + r ∧ (∀ q, q < j → L.getD q 0 = 0) ∧ Below w.heap.size W1 wr) (fun _ vk _ => (intOf vk + 1).toNat)
  case atStart => exact ⟨x.length, 0, List.replicate x.length 0, Nat.le_refl _, rfl, rfl, h0, AR.out, by simp, fun z hz => by rw [List.eq_of_mem_replicate hz]; decide, by rw [List.drop_length, List.drop_of_length_le (by simp)]; simp [dval], fun q _ => by simp only [List.getD_eq_getElem?_getD, List.getElem?_replicate]; split <;> rfl, Below.refl _ _⟩
  case round =>
    obtain ⟨j, r, L, hj, rfl, rfl, hr, ar, hLl, hLs, hLv, hLz, hb⟩ := hrel
    have A1 := Lib.hid ar
    have Ll := Lib.hid hLl
    have Ls := Lib.hid hLs
    have Lv := Lib.hid hLv
    have Lz := Lib.hid hLz
    have B1 := Lib.hid hb
    clear ar hLl hLs hLv hLz hb
    have BW := Lib.hid (HB1.out.trans B1.out)
    cases j with
    | zero =>
      rw [show (((0 : Nat) : Int) - 1) = -1 from rfl]
      have ct : decide ((-1 : Int) ≥ 0) = false := rfl
      have hv := Lv.out
      rw [List.drop_zero, List.drop_zero] at hv
      have hq := whole_end hv.symm hr
      have HQ := Lib.hid hq
      have er : IntKind.u32.wrap (r : Int) = (r : Int) := by rw [IntKind.wrap_u32]; omega
      have U := Lib.hid ((us_of_arr A1.out).below ((Below.refl wr.heap.size wr).alloc (Nat.le_refl _) (.cells #[.int .u32 (r : Int)] 57)))
      have NR := Lib.hid (us_new wr [r] 57 (wr.heap.size + 1) (Nat.lt_succ_self _))
      have BN := Lib.hid (BW.out.alloc (Nat.le_trans (Nat.le_succ _) (by have := A1.out.lt; omega)) (.cells #[.int .u32 (r : Int)] 57))
      have HR1 := Lib.hid (show Sd [r] from fun z hz => by simp at hz; omega)
      have hz1 : (wr.alloc (.cells #[.int .u32 (r : Int)] 57)).heap.size = wr.heap.size + 1 := by simp
      have HZ1 := Lib.hid hz1
      clear hv hq hz1
      go_wp2
      go_ret2
      refine ⟨some ⟨w.heap.size, 0, none⟩, some ⟨wr.heap.size, 0, none⟩, L, [r], x.length, 1, by rw [Ll.out]; rfl, U.out.more (Nat.le_of_lt (by rw [HZ1.out]; exact Nat.lt_succ_self _)), by rw [HZ1.out]; exact NR.out, by rw [Ll.out]; exact Nat.le_refl _, Nat.le_refl _, Ls.out, HR1.out, by rw [HQ.out.1]; simp [dval], by simp only [dval, Nat.mul_zero, Nat.add_zero]; exact HQ.out.2, by rw [Ll.out]; exact Nat.le_succ _, Nat.le_refl _, BN.out⟩
    | succ k =>
      rw [show (((k + 1 : Nat) : Int) - 1) = (k : Int) by omega]
      have ct : decide ((k : Int) ≥ 0) = true := decide_eq_true (by omega)
      have hkx : k < x.length := by omega
      obtain ⟨ad, rfl, _, cxk⟩ := (HX.out.below BW.out).at_ hkx
      obtain ⟨ady, rfl, _, cy0⟩ := (HY.out.below BW.out).at_ (k := 0) (by simp)
      have hdx := drop_split x k hkx
      have lxk := SX.out _ (List.getElem_mem hkx)
      have gx : x.getD k 0 = x[k]'hkx := by rw [List.getD_eq_getElem?_getD, List.getElem?_eq_getElem hkx]; rfl
      rw [gx] at hdx
      generalize x[k]'hkx = a at *
      rw [add_zero] at cy0
      have cy0 : wr.cell? ady = some (.int .u32 (y0 : Int)) := cy0
      have hkL : k < L.length := by rw [Ll.out]; exact hkx
      have co := A1.out.cell k
      rw [wc_at L k hkL] at co
      have fo := A1.out.frozen k
      have hzk := Lz.out k (Nat.lt_succ_self k)
      generalize L[k]'hkL = old at *
      have hr32 : r < 4294967296 := by omega
      have hor := or_shift r a hr32 lxk
      obtain ⟨s, hs⟩ : ∃ s, r * 4294967296 + a = s := ⟨_, rfl⟩
      rw [hs] at hor
      have e1 : IntKind.u64.wrap ((r : Int) * 4294967296) = ((r * 4294967296 : Nat) : Int) := by rw [IntWalk.u64_in _ (by omega)]; omega
      have ea : IntKind.u64.wrap (a : Int) = (a : Int) := IntWalk.u64_in _ (by omega)
      have ey : IntKind.u64.wrap (y0 : Int) = (y0 : Int) := IntWalk.u64_in _ (by omega)
      have hsl : s < 18446744073709551616 := by omega
      obtain ⟨q, hq⟩ : ∃ q, s / y0 = q := ⟨_, rfl⟩
      obtain ⟨r', hr'⟩ : ∃ r', s % y0 = r' := ⟨_, rfl⟩
      have hq32 : q < 4294967296 := by
        rw [← hq, Nat.div_lt_iff_lt_mul h0]
        have : (r + 1) * 4294967296 ≤ y0 * 4294967296 := Nat.mul_le_mul_right _ hr
        have : y0 * 4294967296 = 4294967296 * y0 := Nat.mul_comm _ _
        omega
      have hrl : r' < y0 := by rw [← hr']; exact Nat.mod_lt _ h0
      have eq1 : (s : Int).tdiv (y0 : Int) = (q : Int) := by rw [Int.tdiv_eq_ediv_of_nonneg (by omega), ← hq]; push_cast; rfl
      have eq2 : (s : Int) / (y0 : Int) = (q : Int) := by rw [← hq]; push_cast; rfl
      have em1 : (s : Int).tmod (y0 : Int) = (r' : Int) := by rw [Int.tmod_eq_emod_of_nonneg (by omega), ← hr']; push_cast; rfl
      have em2 : (s : Int) % (y0 : Int) = (r' : Int) := by rw [← hr']; push_cast; rfl
      have wq64 : IntKind.u64.wrap (q : Int) = (q : Int) := IntWalk.u64_in _ (by omega)
      have wr64 : IntKind.u64.wrap (r' : Int) = (r' : Int) := IntWalk.u64_in _ (by omega)
      have eqw : IntKind.u32.wrap (q : Int) = (q : Int) := by rw [IntKind.wrap_u32]; omega
      have hy0n : ((y0 : Int) == 0) = false := by rw [beq_eq_false_iff_ne]; omega
      have aw := A1.out.set k (.int .u32 (q : Int))
      rw [wc_set] at aw
      have AW := Lib.hid aw
      have BN := Lib.hid (B1.out.setCell (p := ⟨w.heap.size, k, none⟩) (Nat.le_refl _) (.int .u32 (q : Int)))
      have HL2 := Lib.hid (show (L.set k q).length = x.length by rw [List.length_set]; exact Ll.out)
      have HS2 := Lib.hid (small_set L k _ Ls.out hq32)
      have HVn := Lib.hid (show dval (x.drop k) = dval ((L.set k q).drop k) * y0 + r' by
        have e3 := drop_split (L.set k q) k (by rw [List.length_set]; exact hkL)
        rw [List.getD_eq_getElem?_getD, List.getElem?_set_self hkL, show (L.set k q).drop (k + 1) = L.drop (k + 1) by rw [List.drop_set, if_pos (Nat.lt_succ_self k)]] at e3
        have h4 := Nat.div_add_mod s y0
        rw [hq, hr', ← hs] at h4
        rw [hdx, e3, Lv.out]
        simp only [Option.getD_some]
        rw [Nat.add_mul, Nat.mul_add, Nat.mul_assoc, Nat.mul_comm q]
        omega)
      have HZn := Lib.hid (show ∀ p, p < k → (L.set k q).getD p 0 = 0 from fun p hp => by
        rw [BigMulW.getD_set_ne _ _ _ _ (by omega)]
        exact Lz.out p (by omega))
      have wk : IntKind.i64.wrap ((k : Int) - 1) = (k : Int) - 1 := IntWalk.i64_in _ (by omega)
      have cyn : ∀ W, Below w.heap.size w W → W.cell? ady = some (.int .u32 (y0 : Int)) := fun W hW => by
        obtain ⟨ad', e, _, hc⟩ := (HY.out.below hW).at_ (k := 0) (by simp)
        cases e
        rw [add_zero] at hc
        exact hc
      have CY := Lib.hid cyn
      clear aw gx hdx hs hq hr' hzk cyn
      go_upto_region 8 with (fail)
      obtain ⟨w3, hw3⟩ : ∃ w3, wr.setCell ⟨w.heap.size, k, none⟩ (.int .u32 (q : Int)) = w3 := ⟨_, rfl⟩
      rw [hw3] at AW BN ⊢
      have cy3 := CY.out w3 (HB1.out.trans BN.out)
      clear hw3 co fo cxk cy0
      go_wp2
      go_roundw
      case rel => exact ⟨k, r', _, by omega, rfl, rfl, hrl, AW.out, HL2.out, HS2.out, HVn.out, HZn.out, BN.out⟩
      case measure => simp [intOf]
end Go.Proofs.YtfngomlknhappaaDoor.BigPart1W
