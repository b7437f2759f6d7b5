/-
  onetime.mark, trim, write: what they hand back. Conditions: a row of at most 16 bytes for the first.
-/
import Derived.Test.YtooaaacingaapaaOneRead
import Derived.Test.YtooaaacingaapaaOneR
import Derived.Test.YtooaaacingaapaaOneA16
namespace Go.Proofs.Ytooaaacingaapaa.OneWW
open Go.RowKit BytesW ArrW ArrG ArrL OneM OneN OneR OneA16

theorem bs_getD (L : List UInt8) (k : Nat) (h : k < L.length) : (Lib.byteCells L)[k]? = some (.int .u8 ((L.getD k 0).toNat : Int)) := by
  unfold Lib.byteCells
  rw [List.getElem?_map, List.getElem?_eq_getElem h]
  simp [List.getD_eq_getElem?_getD, List.getElem?_eq_getElem h]
theorem bs_set (L : List UInt8) (k : Nat) (x : UInt8) : (Lib.byteCells L).set k (.int .u8 (x.toNat : Int)) = Lib.byteCells (L.set k x) := by simp [Lib.byteCells, List.map_set]

set_option maxHeartbeats 8000000 in
set_option maxRecDepth 100000 in
theorem mark_any (A : Option Addr) (b : List UInt8) (cap : Nat) (w : World) (hA : Bs w w.heap.size A b) (hb : b.length ≤ 16) :
    Calls Try.prog 27 #[.slice A b.length cap] w fun e w' => e = .returned (.agg (nc (wd (lev (b ++ [1])) 3)).toArray) ∧ Below w.heap.size w w' := by
  have HA := Lib.hid hA
  clear hA
  go_enter Try.func27, Try.ntmps27
  go_upto_region 1 with (fail)
  generalize hW : World.alloc _ _ = W
  obtain ⟨H0, hbw, hsz⟩ := start1 hW
  clear hW
  have A0 : Hid (Arr W w.heap.size 48 (nc (wd 0 3))) := Lib.hid H0
  have HR := Lib.hid (read_any A b cap W ((HA.out.below hbw).more (by omega)) hb)
  obtain ⟨g, hg⟩ : ∃ g, w.heap.size = g := ⟨_, rfl⟩
  have HBw : Hid (Below g w W) := Lib.hid (by rw [← hg]; exact hbw)
  have HSZ : Hid (W.heap.size = g + 1) := Lib.hid (by rw [← hg]; exact hsz)
  have HG := Lib.hid hg
  rw [hg] at A0
  simp only [hg]
  clear H0 hbw hsz hg HA
  go_wp2_with fail
  refine HR.out.mono ?_
  clear HR
  rintro e w1 ⟨rfl, b1⟩
  have A01 := Lib.hid (A0.out.below b1 A0.out.lt)
  have HB1 := Lib.hid (HBw.out.trans (b1.mono (by have := HSZ.out; omega)))
  have HZ1 := Lib.hid (show g + 1 ≤ w1.heap.size by have := HSZ.out; have := b1.size; omega)
  clear b1 A0 HBw HSZ
  go_upto_region 2 with (show wpList _ _ _ (⟨_, Op.store _ _ _, _, _, _, _⟩ :: _) _ _; refine Arr.storeL (Arr.new w1 _ _) rfl 48 (.tmp 3) (.tmp 5) rfl rfl (nc (wd (lev b) 3)) rfl num_size (by rfl) (wd3 _) (nc_one _) ?_)
  generalize hw2 : World.setRow _ _ _ = w2
  obtain ⟨a2, b2, z2⟩ := filled hw2
  obtain ⟨p, hp⟩ : ∃ p, w1.heap.size = p := ⟨_, rfl⟩
  have A02 := Lib.hid (A01.out.below b2 A01.out.lt)
  have HB2 := Lib.hid (HB1.out.trans (b2.mono (show g ≤ w1.heap.size by have := HZ1.out; omega)))
  have hgp : g + 1 ≤ p := by rw [← hp]; exact HZ1.out
  rw [hp] at a2 z2 ⊢
  have A2 := Lib.hid a2
  have HZ2 := Lib.hid z2
  clear a2 b2 z2 hw2 hp A01 HB1 HZ1
  obtain ⟨k, hk⟩ : ∃ k, b.length = k := ⟨_, rfl⟩
  have hlv := lev_lt b
  have hmk := lev_mark b
  rw [hk] at hlv hmk hb ⊢
  have hpb := put_byte (lev b) k 1 3 hlv (by decide) (by omega)
  rw [← hmk] at hpb
  obtain ⟨q, hq⟩ : ∃ q, k / 8 = q := ⟨_, rfl⟩
  obtain ⟨r, hr⟩ : ∃ r, k % 8 = r := ⟨_, rfl⟩
  obtain ⟨sh, hsh⟩ : ∃ sh, 8 * r = sh := ⟨_, rfl⟩
  rw [hq, hr, hsh] at hpb
  have hq3 : q < 3 := by omega
  have hr8 : r < 8 := by omega
  have co := A2.out.cell q
  rw [nc_getD _ q (by rw [wd_len]; exact hq3)] at co
  have fo := A2.out.frozen q
  obtain ⟨v, hv⟩ : ∃ v, (wd (lev b) 3).getD q 0 = v := ⟨_, rfl⟩
  rw [hv] at co hpb
  have hor := or_put v 1 sh hpb.2.1 hpb.2.2 (by omega)
  obtain ⟨z, hz⟩ : ∃ z, v ||| 1 * 2 ^ sh = z := ⟨_, rfl⟩
  rw [hz] at hor hpb
  have hset := hpb.1
  have an := A2.out.drew.set q (.int .u64 (z : Int))
  rw [nc_set, hset] at an
  have bn := HB2.out.trans (grownBelow (grownTrans (grownDrew w2 (some p)) (grownSet w2.drew p q (.int .u64 (z : Int)))) (show g ≤ p by omega) (by have := HZ2.out; omega))
  have a0n := (A02.out.drew).other ⟨p, q, none⟩ (.int .u64 (z : Int)) (show p ≠ g by omega)
  have AN := Lib.hid an
  have BN := Lib.hid bn
  have A0N := Lib.hid a0n
  have d1 : (k : Int).tdiv 8 = (q : Int) := by rw [Int.tdiv_eq_ediv_of_nonneg (by omega)]; omega
  have d2 : (k : Int) / 8 = (q : Int) := by omega
  have m1 : (k : Int).tmod 8 = (r : Int) := by rw [Int.tmod_eq_emod_of_nonneg (by omega)]; omega
  have m2 : (k : Int) % 8 = (r : Int) := by omega
  have wq : IntKind.i64.wrap (q : Int) = (q : Int) := IntWalk.i64_in _ (by omega)
  have ws : IntKind.i64.wrap ((r : Int) * 8) = (sh : Int) := by rw [IntWalk.i64_in _ (by omega)]; omega
  have iq : (q : Int) < 3 := by omega
  have hs64 : sh < 64 := by omega
  have hor2 : bits .or .u64 (v : Int) (IntKind.u64.wrap (2 ^ sh)) = (z : Int) := by rw [← hor]; simp
  have HOr := Lib.hid hor2
  clear hq hr hsh hv hz hpb hset hlv hmk an bn a0n hor hor2 hk hb A02 HB2 HZ2 hgp
  go_upto_region 2 with (fail)
  refine Phase.wp_region_phases [([], [0, 1, 2, 3, 4, 5, 6, 7, 8, 9, 10, 11], some 12)] (fun W => W = w2.drew) (by kernel_rfl) (by kernel_rfl) (fun _ _ d _ _ h => by cases d <;> exact h) rfl ?_
  refine Phase.g_alone rfl (Phase.p_nil ?_)
  iterate 12 (refine Phase.q_step rfl (fun K hK => ?_); go_simp; refine hK _ ?_; clear hK K)
  refine Phase.q_nil ?_
  rintro _ rfl K hK
  go_simp
  rw [HOr.out]
  obtain ⟨w3, hw3⟩ : ∃ x, w2.drew.setCell ⟨p, q, none⟩ (.int .u64 (z : Int)) = x := ⟨_, rfl⟩
  rw [hw3] at AN BN A0N
  refine hK _ _ ⟨fun W => W = w3, hw3, ?_⟩
  clear hK K hw3 co fo
  refine Phase.g_nil ?_
  intro wz hz
  rw [show wz = w3 from hz]
  clear hz
  have AF := Lib.hid (A0N.out.row (nc (wd (lev (b ++ [1])) 3)))
  have HBF := Lib.hid (below_row BN.out (Nat.le_refl g) (nc (wd (lev (b ++ [1])) 3)).toArray)
  go_wp2_with (first | (show wpList _ _ _ (⟨_, Op.load _ _, _, _, _, _⟩ :: _) _ _; refine Arr.loadL AN.out rfl 48 (.tmp 3) rfl rfl num_u rfl num_size (wd3 _) ?_) | (show wpList _ _ _ (⟨_, Op.store _ _ _, _, _, _, _⟩ :: _) _ _; refine Arr.storeL A0N.out rfl 48 (.tmp 2) (.tmp 18) rfl rfl (nc (wd (lev (b ++ [1])) 3)) rfl num_size (wd3 _) (wd3 _) (nc_one _) ?_))
  refine bodyPost_ret (v := .agg (nc (wd (lev (b ++ [1])) 3)).toArray) (by exact AF.out.ret rfl _ rfl num_u rfl num_size (wd3 _)) rfl ⟨rfl, by rw [HG.out]; exact HBF.out⟩

set_option maxHeartbeats 4000000 in
set_option maxRecDepth 100000 in
theorem trim_any (key : List UInt8) (hk : 16 ≤ key.length) (w : World) :
    Calls Try.prog 21 #[.agg (nc (wd (lev (key.take 16)) 3)).toArray] w fun e w' => e = .returned (.agg (nc (wd (lev (clamp key)) 3)).toArray) ∧ Below w.heap.size w w' := by
  have HC := Lib.hid (clamp_wd key hk)
  obtain ⟨X, hX⟩ : ∃ X, lev (key.take 16) = X := ⟨_, rfl⟩
  rw [hX] at HC ⊢
  clear hX
  go_enter Try.func21, Try.ntmps21
  go_upto_region 1 with (fail)
  generalize hW : World.alloc _ _ = W
  obtain ⟨H0, H1, hbw, hsz⟩ := start2 hW
  clear hW
  have A0 : Hid (Arr W w.heap.size 48 (nc (wd X 3))) := Lib.hid H0
  have A1 : Hid (Arr W (w.heap.size + 1) 48 (nc (wd 0 3))) := Lib.hid H1
  obtain ⟨g, hg⟩ : ∃ g, w.heap.size = g := ⟨_, rfl⟩
  have HBw : Hid (Below g w W) := Lib.hid (by rw [← hg]; exact hbw)
  have HG := Lib.hid hg
  rw [hg] at A0 A1
  simp only [hg]
  have c0 := A0.out.cell 0
  rw [nc_getD _ 0 (by rw [wd_len]; decide)] at c0
  have c1 := A0.out.cell 1
  rw [nc_getD _ 1 (by rw [wd_len]; decide)] at c1
  have l0 := wd_lt X 3 0
  have l1 := wd_lt X 3 1
  obtain ⟨x0, h0⟩ : ∃ z, (wd X 3).getD 0 0 = z := ⟨_, rfl⟩
  obtain ⟨x1, h1⟩ : ∃ z, (wd X 3).getD 1 0 = z := ⟨_, rfl⟩
  rw [h0] at c0 l0 HC
  rw [h1] at c1 l1 HC
  have f0 := Bits.and_u64 x0 1152921487695413247 l0 (by decide)
  have f1 := Bits.and_u64 x1 1152921487695413244 l1 (by decide)
  obtain ⟨y0, k0⟩ : ∃ z, x0 &&& 1152921487695413247 = z := ⟨_, rfl⟩
  obtain ⟨y1, k1⟩ : ∃ z, x1 &&& 1152921487695413244 = z := ⟨_, rfl⟩
  rw [k0] at f0 HC
  rw [k1] at f1 HC
  have g0 : bits .and .u64 (x0 : Int) 1152921487695413247 = (y0 : Int) := f0
  have g1 : bits .and .u64 (x1 : Int) 1152921487695413244 = (y1 : Int) := f1
  have hE : #[Value.int .u64 (y0 : Int), .int .u64 (y1 : Int), .int .u64 0] = (nc (wd (lev (clamp key)) 3)).toArray := by rw [HC.out]; rfl
  have HBd := Lib.hid (fun w => (build2 (y0 : Int) (y1 : Int) w))
  rw [hE] at HBd
  have AF := Lib.hid (A1.out.row (nc (wd (lev (clamp key)) 3)))
  have HBF := Lib.hid (below_row HBw.out (show g ≤ g + 1 by omega) (nc (wd (lev (clamp key)) 3)).toArray)
  clear H0 H1 hbw hsz hg h0 h1 l0 l1 k0 k1 f0 f1 hE HC
  go_wp2_with (first | (show wpList _ _ _ (⟨_, Op.build _ _, _, _, _, _⟩ :: _) _ _; refine buildL rfl rfl rfl (HBd.out _) ?_) | (show wpList _ _ _ (⟨_, Op.store _ _ _, _, _, _, _⟩ :: _) _ _; refine Arr.storeL A1.out rfl 48 (.tmp 2) (.tmp 9) rfl rfl (nc (wd (lev (clamp key)) 3)) rfl num_size (wd3 _) (wd3 _) (nc_one _) ?_))
  refine bodyPost_ret (v := .agg (nc (wd (lev (clamp key)) 3)).toArray) (by exact AF.out.ret rfl _ rfl num_u rfl num_size (wd3 _)) rfl ⟨rfl, by rw [HG.out]; exact HBF.out⟩

set_option maxHeartbeats 4000000 in
set_option maxRecDepth 100000 in
theorem write_any (X : Nat) (w : World) :
    Calls Try.prog 28 #[.agg (nc (wd X 3)).toArray] w fun e w' => e = .returned (.agg (Lib.byteCells (le16 X)).toArray) ∧ Below w.heap.size w w' := by
  go_enter Try.func28, Try.ntmps28
  go_upto_region 2 with (fail)
  generalize hW : World.alloc _ _ = W
  obtain ⟨H0, H1, H2, hbw, hsz⟩ := start3 hW
  clear hW
  have A0 : Hid (Arr W w.heap.size 48 (nc (wd X 3))) := Lib.hid H0
  have A1 : Hid (Arr W (w.heap.size + 1) 23 (Lib.byteCells (List.replicate 16 0))) := Lib.hid H1
  have A2 : Hid (Arr W (w.heap.size + 2) 23 (Lib.byteCells (outS X 0))) := Lib.hid (by rw [outS_zero]; exact H2)
  obtain ⟨g, hg⟩ : ∃ g, w.heap.size = g := ⟨_, rfl⟩
  have HBw : Hid (Below g w W) := Lib.hid (by rw [← hg]; exact hbw)
  have HSZ : Hid (W.heap.size = g + 3) := Lib.hid (by rw [← hg]; exact hsz)
  have HG := Lib.hid hg
  rw [hg] at A0 A1 A2
  simp only [hg]
  clear H0 H1 H2 hbw hsz hg
  go_wp2
  go_loopw [5] (fun vk wr => ∃ k : Nat, k ≤ 16 ∧ vk = .int .i64 (k : Int) ∧ Arr wr (g + 2) 23 (Lib.byteCells (outS X k)) ∧ W.grownBy wr (some (g + 2))) (fun vk _ => 16 - (intOf vk).toNat)
  case atStart => exact ⟨0, by omega, rfl, A2.out, grownRefl _ _⟩
  case round =>
    clear A2
    obtain ⟨k, hk, rfl, ak, gk⟩ := hrel
    have AK := Lib.hid ak
    have GK := Lib.hid gk
    clear ak gk
    by_cases hlt : k < 16
    · have ct : decide ((k : Int) < 16) = true := decide_eq_true (by omega)
      have hset := outS_set X k hlt
      have hgb := get_byte X 3 k (by omega)
      obtain ⟨q, hq⟩ : ∃ q, k / 8 = q := ⟨_, rfl⟩
      obtain ⟨r, hr⟩ : ∃ r, k % 8 = r := ⟨_, rfl⟩
      obtain ⟨sh, hsh⟩ : ∃ sh, 8 * r = sh := ⟨_, rfl⟩
      rw [hq, hr, hsh] at hgb
      have hq3 : q < 3 := by omega
      have cx := (arr_grown A0.out GK.out (by omega)).cell q
      rw [nc_getD _ q (by rw [wd_len]; exact hq3)] at cx
      obtain ⟨v, hv⟩ : ∃ v, (wd X 3).getD q 0 = v := ⟨_, rfl⟩
      rw [hv] at cx hgb
      obtain ⟨y, hy⟩ : ∃ y, UInt8.ofNat (X / 256 ^ k) = y := ⟨_, rfl⟩
      have wy : IntKind.u8.wrap ((v : Int) / 2 ^ sh) = (y.toNat : Int) := by
        rw [← hy, UInt8.toNat_ofNat', IntKind.wrap_u8, show (2 : Nat) ^ 8 = 256 by decide, ← hgb]
        push_cast
        rfl
      have wy' : IntKind.u8.wrap ((v : Int) / 2 ^ (min sh 64)) = (y.toNat : Int) := by rw [Nat.min_eq_left (by omega)]; exact wy
      rw [hy] at hset
      have co := AK.out.cell k
      rw [bs_getD _ k (by rw [outS_len X k (by omega)]; exact hlt)] at co
      have fo := AK.out.frozen k
      have an := AK.out.set k (.int .u8 (y.toNat : Int))
      rw [bs_set, hset] at an
      have AN := Lib.hid an
      have GN := Lib.hid (grownTrans GK.out (grownSet wr (g + 2) k (.int .u8 (y.toNat : Int))))
      generalize (outS X k).getD k 0 = old at co
      have d1 : (k : Int).tdiv 8 = (q : Int) := by rw [Int.tdiv_eq_ediv_of_nonneg (by omega)]; omega
      have d2 : (k : Int) / 8 = (q : Int) := by omega
      have m1 : (k : Int).tmod 8 = (r : Int) := by rw [Int.tmod_eq_emod_of_nonneg (by omega)]; omega
      have m2 : (k : Int) % 8 = (r : Int) := by omega
      have wq : IntKind.i64.wrap (q : Int) = (q : Int) := IntWalk.i64_in _ (by omega)
      have wr' : IntKind.i64.wrap (r : Int) = (r : Int) := IntWalk.i64_in _ (by omega)
      have ws : IntKind.i64.wrap ((r : Int) * 8) = (sh : Int) := by rw [IntWalk.i64_in _ (by omega)]; omega
      have iq : (q : Int) < 3 := by omega
      have ik : (k : Int) < 16 := by omega
      have hs64 : sh < 64 := by omega
      clear hq hr hsh hv hy hset hgb an hk
      go_wp2
      go_roundw
      case rel => exact ⟨k + 1, by omega, by go_num, AN.out, GN.out⟩
      case measure => simp [intOf]; omega
    · obtain rfl : k = 16 := by omega
      have ct : decide (((16 : Nat) : Int) < 16) = false := rfl
      rw [outS_all] at AK
      have N1 := Lib.hid (show (Lib.byteCells (le16 X)).length = 16 by rw [Lib.byteCells_length, le_len])
      have A1F := Lib.hid (arr_grown A1.out GK.out (by omega))
      have HBX := Lib.hid (HBw.out.trans (grownBelow GK.out (show g ≤ g + 2 by omega) (by have := HSZ.out; omega)))
      have AF := Lib.hid (A1F.out.row (Lib.byteCells (le16 X)))
      have HBF := Lib.hid (below_row HBX.out (show g ≤ g + 1 by omega) (Lib.byteCells (le16 X)).toArray)
      clear hlt
      go_wp2_with (first | (show wpList _ _ _ (⟨_, Op.load _ _, _, _, _, _⟩ :: _) _ _; refine Arr.loadL AK.out rfl 23 (.tmp 3) rfl rfl a16 rfl a16_size N1.out ?_) | (show wpList _ _ _ (⟨_, Op.store _ _ _, _, _, _, _⟩ :: _) _ _; refine Arr.storeL A1F.out rfl 23 (.tmp 2) (.tmp 20) rfl rfl (Lib.byteCells (le16 X)) rfl a16_size (by rfl) N1.out (bytes_one _) ?_))
      refine bodyPost_ret (v := .agg (Lib.byteCells (le16 X)).toArray) (by exact AF.out.ret rfl _ rfl a16 rfl a16_size N1.out) rfl ⟨rfl, by rw [HG.out]; exact HBF.out⟩
end Go.Proofs.Ytooaaacingaapaa.OneWW
