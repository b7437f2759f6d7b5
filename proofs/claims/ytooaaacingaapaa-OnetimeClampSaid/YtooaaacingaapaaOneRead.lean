/-
  onetime.read, mark, write, trim: what they hand back. Conditions: rows of at most 16 bytes; in each statement.
-/
import Derived.Test.YtooaaacingaapaaOneAdd
namespace Go.Proofs.Ytooaaacingaapaa.OneWW
open Go.RowKit BytesW ArrW ArrG ArrL OneM OneN

theorem or_put (v c q : Nat) (hv : v < 2 ^ q) (hc : c * 2 ^ q < 18446744073709551616) (hq : q ≤ 63) : bits .or .u64 (v : Int) (IntKind.u64.wrap ((c : Int) * 2 ^ q)) = ((v ||| c * 2 ^ q : Nat) : Int) := by
  have e1 : IntKind.u64.wrap ((c : Int) * 2 ^ q) = ((c * 2 ^ q : Nat) : Int) := by
    have e : (c : Int) * 2 ^ q = ((c * 2 ^ q : Nat) : Int) := by push_cast; rfl
    rw [e]
    exact wrapN _ hc
  have h2 : 2 ^ q ≤ 2 ^ 63 := Nat.pow_le_pow_right (by decide) hq
  have h3 : (2 : Nat) ^ 63 = 9223372036854775808 := by decide
  rw [e1, Bits.or_u64 _ _ (by omega) hc]

set_option maxHeartbeats 8000000 in
set_option maxRecDepth 100000 in
theorem read_any (A : Option Addr) (b : List UInt8) (cap : Nat) (w : World) (hA : Bs w w.heap.size A b) (hb : b.length ≤ 16) :
    Calls Try.prog 22 #[.slice A b.length cap] w fun e w' => e = .returned (.agg (nc (wd (lev b) 3)).toArray) ∧ Below w.heap.size w w' := by
  have HA := Lib.hid hA
  clear hA
  go_enter Try.func22, Try.ntmps22
  go_upto_region 2 with (fail)
  generalize hW : World.alloc _ _ = W
  obtain ⟨H0, H1, hbw, hsz⟩ := start2 hW
  clear hW
  have A0 : Hid (Arr W w.heap.size 48 (nc (wd 0 3))) := Lib.hid H0
  have A1 : Hid (Arr W (w.heap.size + 1) 48 (nc (wd (lev (b.take 0)) 3))) := Lib.hid (by rw [List.take_zero]; exact H1)
  obtain ⟨g, hg⟩ : ∃ g, w.heap.size = g := ⟨_, rfl⟩
  have HBw : Hid (Below g w W) := Lib.hid (by rw [← hg]; exact hbw)
  have HSZ : Hid (W.heap.size = g + 2) := Lib.hid (by rw [← hg]; exact hsz)
  have HG := Lib.hid hg
  rw [hg] at A0 A1 HA
  simp only [hg]
  clear H0 H1 hbw hsz hg
  go_wp2
  go_loopw [8] (fun vk wr => ∃ k : Nat, k ≤ b.length ∧ vk = .int .i64 (k : Int) ∧ Arr wr (g + 1) 48 (nc (wd (lev (b.take k)) 3)) ∧ W.grownBy wr (some (g + 1))) (fun vk _ => b.length - (intOf vk).toNat)
  case atStart => exact ⟨0, by omega, rfl, A1.out, grownRefl _ _⟩
  case round =>
    clear A1
    obtain ⟨k, hk, rfl, ak, gk⟩ := hrel
    have AK := Lib.hid ak
    have GK := Lib.hid gk
    clear ak gk
    by_cases hlt : k < b.length
    · have ct : decide ((k : Int) < (b.length : Int)) = true := decide_eq_true (by omega)
      obtain ⟨ad, rfl, hadb, cx⟩ := HA.out.at_ hlt
      have BW := HBw.out.trans (grownBelow GK.out (show g ≤ g + 1 by omega) (by have := HSZ.out; omega))
      have cx1 := (BW.cell (p := ad.add k) (by rw [add_block]; exact hadb)).trans cx
      have hsn := lev_snoc b k hlt
      have hlv := lev_take_lt b k
      have hpb := put_byte (lev (b.take k)) k b[k].toNat 3 hlv b[k].toNat_lt (by omega)
      rw [← hsn] at hpb
      obtain ⟨x, hx⟩ : ∃ x, b[k].toNat = x := ⟨_, rfl⟩
      have hx256 : x < 256 := by rw [← hx]; exact b[k].toNat_lt
      rw [hx] at cx1 hpb
      obtain ⟨q, hq⟩ : ∃ q, k / 8 = q := ⟨_, rfl⟩
      obtain ⟨r, hr⟩ : ∃ r, k % 8 = r := ⟨_, rfl⟩
      obtain ⟨sh, hsh⟩ : ∃ sh, 8 * r = sh := ⟨_, rfl⟩
      rw [hq, hr, hsh] at hpb
      have hq3 : q < 3 := by omega
      have hr8 : r < 8 := by omega
      have co := AK.out.cell q
      rw [nc_getD _ q (by rw [wd_len]; exact hq3)] at co
      have fo := AK.out.frozen q
      obtain ⟨v, hv⟩ : ∃ v, (wd (lev (b.take k)) 3).getD q 0 = v := ⟨_, rfl⟩
      rw [hv] at co hpb
      have hor := or_put v x sh hpb.2.1 hpb.2.2 (by omega)
      obtain ⟨z, hz⟩ : ∃ z, v ||| x * 2 ^ sh = z := ⟨_, rfl⟩
      rw [hz] at hor hpb
      have hset := hpb.1
      have an := AK.out.drew.set q (.int .u64 (z : Int))
      rw [nc_set, hset] at an
      have gn := grownTrans GK.out (grownTrans (grownDrew wr (some (g + 1))) (grownSet wr.drew (g + 1) q (.int .u64 (z : Int))))
      have AN := Lib.hid an
      have GN := Lib.hid gn
      have d1 : (k : Int).tdiv 8 = (q : Int) := by rw [Int.tdiv_eq_ediv_of_nonneg (by omega)]; omega
      have d2 : (k : Int) / 8 = (q : Int) := by omega
      have m1 : (k : Int).tmod 8 = (r : Int) := by rw [Int.tmod_eq_emod_of_nonneg (by omega)]; omega
      have m2 : (k : Int) % 8 = (r : Int) := by omega
      have wq : IntKind.i64.wrap (q : Int) = (q : Int) := IntWalk.i64_in _ (by omega)
      have ws : IntKind.i64.wrap ((r : Int) * 8) = (sh : Int) := by rw [IntWalk.i64_in _ (by omega)]; omega
      have wx : IntKind.u64.wrap (x : Int) = (x : Int) := by rw [IntKind.wrap_u64]; omega
      have iq : (q : Int) < 3 := by omega
      have hs64 : sh < 64 := by omega
      have HOr := Lib.hid hor
      have HLT := Lib.hid hlt
      clear hx hq hr hsh hv hz hpb hset hsn hlv BW cx an gn hor hk
      go_upto_region 5 with (fail)
      refine Phase.wp_region_phases [([], [0, 1, 2, 3, 4, 5, 6, 7, 8, 9, 10, 11], some 12)] (fun W => W = wr.drew) (by kernel_rfl) (by kernel_rfl) (fun _ _ d _ _ h => by cases d <;> exact h) rfl ?_
      refine Phase.g_alone rfl (Phase.p_nil ?_)
      iterate 12 (refine Phase.q_step rfl (fun K hK => ?_); go_simp; refine hK _ ?_; clear hK K)
      refine Phase.q_nil ?_
      rintro _ rfl K hK
      go_simp
      rw [HOr.out]
      obtain ⟨w2, hw2⟩ : ∃ x, wr.drew.setCell ⟨g + 1, q, none⟩ (.int .u64 (z : Int)) = x := ⟨_, rfl⟩
      rw [hw2] at AN GN
      refine hK _ _ ⟨fun W => W = w2, hw2, ?_⟩
      clear hK K hw2 co fo cx1
      refine Phase.g_nil ?_
      intro wz hz
      rw [show wz = w2 from hz]
      clear hz
      go_wp2
      go_roundw
      case rel => exact ⟨k + 1, by have := HLT.out; omega, by go_num, AN.out, GN.out⟩
      case measure => have := HLT.out; simp [intOf]; omega
    · obtain rfl : k = b.length := by omega
      have ct : decide ((b.length : Int) < (b.length : Int)) = false := decide_eq_false (by omega)
      rw [List.take_length] at AK
      have A0F := Lib.hid (arr_grown A0.out GK.out (by omega))
      have HBX := Lib.hid (HBw.out.trans (grownBelow GK.out (show g ≤ g + 1 by omega) (by have := HSZ.out; omega)))
      have AF := Lib.hid (A0F.out.row (nc (wd (lev b) 3)))
      have HBF := Lib.hid (below_row HBX.out (Nat.le_refl g) (nc (wd (lev b) 3)).toArray)
      clear hlt
      go_wp2_with (first | (refine Arr.loadL AK.out rfl 48 (.tmp 3) rfl rfl num_u rfl num_size (wd3 _) ?_) | (refine Arr.storeL A0F.out rfl 48 (.tmp 2) (.tmp 26) rfl rfl (nc (wd (lev b) 3)) rfl num_size (wd3 _) (wd3 _) (nc_one _) ?_))
      refine bodyPost_ret (v := .agg (nc (wd (lev b) 3)).toArray) (by exact AF.out.ret rfl _ rfl num_u rfl num_size (wd3 _)) rfl ⟨rfl, by rw [HG.out]; exact HBF.out⟩
end Go.Proofs.Ytooaaacingaapaa.OneWW
