/-
  field.read, field.write: what they hand back. Conditions: in each statement.
-/
import Derived.Test.YtfngomlknhappaaDoorFieldW
import Derived.Deep.DeepCutAuto
namespace Go.Proofs.YtfngomlknhappaaDoor.FieldWW
open Go.RowKit BytesW ArrW ArrG ArrL FieldM NumA NumF FieldN FieldTW

theorem or_put (v c q : Nat) (hv : v < 2 ^ q) (hc : c * 2 ^ q < 18446744073709551616) (hq : q ≤ 63) : bits .or .u64 (v : Int) (IntKind.u64.wrap ((c : Int) * 2 ^ q)) = ((v ||| c * 2 ^ q : Nat) : Int) := by
  have e1 : IntKind.u64.wrap ((c : Int) * 2 ^ q) = ((c * 2 ^ q : Nat) : Int) := by
    have e : (c : Int) * 2 ^ q = ((c * 2 ^ q : Nat) : Int) := by push_cast; rfl
    rw [e]
    exact wrapN _ hc
  have h2 : 2 ^ q ≤ 2 ^ 63 := Nat.pow_le_pow_right (by decide) hq
  have h3 : (2 : Nat) ^ 63 = 9223372036854775808 := by decide
  rw [e1, Bits.or_u64 _ _ (by omega) hc]
theorem idx32 (w : World) (l : List UInt8) (hl : l.length = 32) (k : Nat) (hk : k < 32) : (Instr.index 23 (.agg (Lib.byteCells l).toArray) (.int .i64 (k : Int))).run Tryd.prog w = .ok (.int .u8 ((l[k]'(by omega)).toNat : Int)) w := by
  refine run_index_arr w _ 5 32 _ k _ _ FieldTW.num_u Tryd.underlying5 rfl (by kernel_rfl) hk ?_
  have h : (Lib.byteCells l)[k]? = some (.int .u8 ((l[k]'(by omega)).toNat : Int)) := by
    unfold Lib.byteCells
    rw [List.getElem?_map, List.getElem?_eq_getElem (by omega)]
    rfl
  simpa using h
theorem bs_getD (L : List UInt8) (k : Nat) (h : k < L.length) : (Lib.byteCells L)[k]? = some (.int .u8 ((L.getD k 0).toNat : Int)) := by
  unfold Lib.byteCells
  rw [List.getElem?_map, List.getElem?_eq_getElem h]
  simp [List.getD_eq_getElem?_getD, List.getElem?_eq_getElem h]
theorem bs_set (L : List UInt8) (k : Nat) (x : UInt8) : (Lib.byteCells L).set k (.int .u8 (x.toNat : Int)) = Lib.byteCells (L.set k x) := by simp [Lib.byteCells, List.map_set]

set_option maxHeartbeats 8000000 in
set_option maxRecDepth 100000 in
theorem read_any (l : List UInt8) (hl : l.length = 32) (w : World) :
    Calls Tryd.prog 29 #[.agg (Lib.byteCells l).toArray] w fun e w' => e = .returned (.agg (nc (wd (leN l) 4)).toArray) ∧ Below w.heap.size w w' := by
  have HL := Lib.hid hl
  have HC := Lib.hid (bc32 hl)
  clear hl
  go_enter Tryd.func29, Tryd.ntmps29
  go_upto_region 2 with (fail)
  generalize hW : World.alloc _ _ = W
  obtain ⟨H0, H1, H2, hbw, hsz⟩ := start3 hW
  clear hW
  have A0 : Hid (Arr W w.heap.size 23 (Lib.byteCells l)) := Lib.hid H0
  have A1 : Hid (Arr W (w.heap.size + 1) 46 (nc (wd 0 4))) := Lib.hid H1
  have A2 : Hid (Arr W (w.heap.size + 2) 46 (nc (wd (leN (l.take 0)) 4))) := Lib.hid (by rw [List.take_zero]; exact H2)
  obtain ⟨g, hg⟩ : ∃ g, w.heap.size = g := ⟨_, rfl⟩
  have HBw : Hid (Below g w W) := Lib.hid (by rw [← hg]; exact hbw)
  have HSZ : Hid (W.heap.size = g + 3) := Lib.hid (by rw [← hg]; exact hsz)
  have HG := Lib.hid hg
  rw [hg] at A0 A1 A2
  simp only [hg]
  clear H0 H1 H2 hbw hsz hg
  go_wp2_with (show wpList _ _ _ (⟨_, Op.load _ _, _, _, _, _⟩ :: _) _ _; refine Arr.loadL A0.out rfl 23 (.tmp 1) rfl rfl FieldTW.num_u rfl FieldTW.num_size HC.out ?_)
  go_loopw [7] (fun vk wr => ∃ k : Nat, k ≤ 32 ∧ vk = .int .i64 (k : Int) ∧ Arr wr (g + 2) 46 (nc (wd (leN (l.take k)) 4)) ∧ W.grownBy wr (some (g + 2))) (fun vk _ => 32 - (intOf vk).toNat)
  case atStart => exact ⟨0, by omega, rfl, A2.out, grownRefl _ _⟩
  case round =>
    clear A2
    obtain ⟨k, hk, rfl, ak, gk⟩ := hrel
    have AK := Lib.hid ak
    have GK := Lib.hid gk
    clear ak gk
    by_cases hlt : k < 32
    · have ct : decide ((k : Int) < 32) = true := decide_eq_true (by omega)
      have hkl : k < l.length := by have := HL.out; omega
      have hix := fun w => idx32 w l HL.out k hlt
      have hsn := leN_snoc l k hkl
      have hlv := leN_take_lt l k
      have hpb := put_byte (leN (l.take k)) k l[k].toNat 4 hlv l[k].toNat_lt (by omega)
      rw [← hsn] at hpb
      obtain ⟨x, hx⟩ : ∃ x, l[k].toNat = x := ⟨_, rfl⟩
      have hx256 : x < 256 := by rw [← hx]; exact l[k].toNat_lt
      rw [hx] at hix hpb
      obtain ⟨q, hq⟩ : ∃ q, k / 8 = q := ⟨_, rfl⟩
      obtain ⟨r, hr⟩ : ∃ r, k % 8 = r := ⟨_, rfl⟩
      obtain ⟨sh, hsh⟩ : ∃ sh, 8 * r = sh := ⟨_, rfl⟩
      rw [hq, hr, hsh] at hpb
      have hq3 : q < 4 := by omega
      have hr8 : r < 8 := by omega
      have co := AK.out.cell q
      rw [nc_getD _ q (by rw [wd_len]; exact hq3)] at co
      have fo := AK.out.frozen q
      obtain ⟨v, hv⟩ : ∃ v, (wd (leN (l.take k)) 4).getD q 0 = v := ⟨_, rfl⟩
      rw [hv] at co hpb
      have hor := or_put v x sh hpb.2.1 hpb.2.2 (by omega)
      obtain ⟨z, hz⟩ : ∃ z, v ||| x * 2 ^ sh = z := ⟨_, rfl⟩
      rw [hz] at hor hpb
      have hset := hpb.1
      have an := AK.out.drew.set q (.int .u64 (z : Int))
      rw [nc_set, hset] at an
      have gn := grownTrans GK.out (grownTrans (grownDrew wr (some (g + 2))) (grownSet wr.drew (g + 2) q (.int .u64 (z : Int))))
      have AN := Lib.hid an
      have GN := Lib.hid gn
      have d1 : (k : Int).tdiv 8 = (q : Int) := by rw [Int.tdiv_eq_ediv_of_nonneg (by omega)]; omega
      have d2 : (k : Int) / 8 = (q : Int) := by omega
      have m1 : (k : Int).tmod 8 = (r : Int) := by rw [Int.tmod_eq_emod_of_nonneg (by omega)]; omega
      have m2 : (k : Int) % 8 = (r : Int) := by omega
      have wq : IntKind.i64.wrap (q : Int) = (q : Int) := IntWalk.i64_in _ (by omega)
      have ws : IntKind.i64.wrap ((r : Int) * 8) = (sh : Int) := by rw [IntWalk.i64_in _ (by omega)]; omega
      have wx : IntKind.u64.wrap (x : Int) = (x : Int) := by rw [IntKind.wrap_u64]; omega
      have iq : (q : Int) < 4 := by omega
      have hs64 : sh < 64 := by omega
      have HOr := Lib.hid hor
      have HLT := Lib.hid hlt
      clear hx hq hr hsh hv hz hpb hset hsn hlv an gn hor hk hkl
      go_upto_region 5 with (fail)
      refine Phase.wp_region_phases [([], [0, 1, 2, 3, 4, 5, 6, 7, 8, 9, 10, 11], some 12)] (fun W => W = wr.drew) (by kernel_rfl) (by kernel_rfl) (fun _ _ d _ _ h => by cases d <;> exact h) rfl ?_
      refine Phase.g_alone rfl (Phase.p_nil ?_)
      iterate 12 (refine Phase.q_step rfl (fun K hK => ?_); go_simp; refine hK _ ?_; clear hK K)
      refine Phase.q_nil ?_
      rintro _ rfl K hK
      go_simp
      rw [HOr.out]
      obtain ⟨w2, hw2⟩ : ∃ x, wr.drew.setCell ⟨g + 2, q, none⟩ (.int .u64 (z : Int)) = x := ⟨_, rfl⟩
      rw [hw2] at AN GN
      refine hK _ _ ⟨fun W => W = w2, hw2, ?_⟩
      clear hK K hw2 co fo
      refine Phase.g_nil ?_
      intro wz hz
      rw [show wz = w2 from hz]
      clear hz
      go_wp2
      go_roundw
      case rel => exact ⟨k + 1, by have := HLT.out; omega, by go_num, AN.out, GN.out⟩
      case measure => have := HLT.out; simp [intOf]; omega
    · obtain rfl : k = 32 := by omega
      have ct : decide (((32 : Nat) : Int) < 32) = false := rfl
      rw [List.take_of_length_le (by have := HL.out; omega)] at AK
      have A1F := Lib.hid (arr_grown A1.out GK.out (by omega))
      have HBX := Lib.hid (HBw.out.trans (grownBelow GK.out (show g ≤ g + 2 by omega) (by have := HSZ.out; omega)))
      have AF := Lib.hid (A1F.out.row (nc (wd (leN l) 4)))
      have HBF := Lib.hid (below_row HBX.out (show g ≤ g + 1 by omega) (nc (wd (leN l) 4)).toArray)
      clear hlt
      go_wp2_with (first | (show wpList _ _ _ (⟨_, Op.load _ _, _, _, _, _⟩ :: _) _ _; refine Arr.loadL AK.out rfl 46 (.tmp 3) rfl rfl wnum_u rfl wnum_size (wd4 _) ?_) | (show wpList _ _ _ (⟨_, Op.store _ _ _, _, _, _, _⟩ :: _) _ _; refine Arr.storeL A1F.out rfl 46 (.tmp 2) (.tmp 24) rfl rfl (nc (wd (leN l) 4)) rfl wnum_size (wd4 _) (wd4 _) (nc_one _) ?_))
      refine bodyPost_ret (v := .agg (nc (wd (leN l) 4)).toArray) (by exact AF.out.ret rfl _ rfl wnum_u rfl wnum_size (wd4 _)) rfl ⟨rfl, by rw [HG.out]; exact HBF.out⟩

set_option maxHeartbeats 4000000 in
set_option maxRecDepth 100000 in
theorem write_any (X : Nat) (w : World) :
    Calls Tryd.prog 26 #[.agg (nc (wd X 4)).toArray] w fun e w' => e = .returned (.agg (Lib.byteCells (ln X)).toArray) ∧ Below w.heap.size w w' := by
  go_enter Tryd.func26, Tryd.ntmps26
  go_upto_region 2 with (fail)
  generalize hW : World.alloc _ _ = W
  obtain ⟨H0, H1, H2, hbw, hsz⟩ := start3 hW
  clear hW
  have A0 : Hid (Arr W w.heap.size 46 (nc (wd X 4))) := Lib.hid H0
  have A1 : Hid (Arr W (w.heap.size + 1) 23 (Lib.byteCells (List.replicate 32 0))) := Lib.hid H1
  have A2 : Hid (Arr W (w.heap.size + 2) 23 (Lib.byteCells (outN X 0))) := Lib.hid (by rw [outN_zero]; exact H2)
  obtain ⟨g, hg⟩ : ∃ g, w.heap.size = g := ⟨_, rfl⟩
  have HBw : Hid (Below g w W) := Lib.hid (by rw [← hg]; exact hbw)
  have HSZ : Hid (W.heap.size = g + 3) := Lib.hid (by rw [← hg]; exact hsz)
  have HG := Lib.hid hg
  rw [hg] at A0 A1 A2
  simp only [hg]
  clear H0 H1 H2 hbw hsz hg
  go_wp2
  go_loopw [5] (fun vk wr => ∃ k : Nat, k ≤ 32 ∧ vk = .int .i64 (k : Int) ∧ Arr wr (g + 2) 23 (Lib.byteCells (outN X k)) ∧ W.grownBy wr (some (g + 2))) (fun vk _ => 32 - (intOf vk).toNat)
  case atStart => exact ⟨0, by omega, rfl, A2.out, grownRefl _ _⟩
  case round =>
    clear A2
    obtain ⟨k, hk, rfl, ak, gk⟩ := hrel
    have AK := Lib.hid ak
    have GK := Lib.hid gk
    clear ak gk
    by_cases hlt : k < 32
    · have ct : decide ((k : Int) < 32) = true := decide_eq_true (by omega)
      have hset := outN_set X k hlt
      have hgb := get_byte X 4 k (by omega)
      obtain ⟨q, hq⟩ : ∃ q, k / 8 = q := ⟨_, rfl⟩
      obtain ⟨r, hr⟩ : ∃ r, k % 8 = r := ⟨_, rfl⟩
      obtain ⟨sh, hsh⟩ : ∃ sh, 8 * r = sh := ⟨_, rfl⟩
      rw [hq, hr, hsh] at hgb
      have hq3 : q < 4 := by omega
      have cx := (arr_grown A0.out GK.out (by omega)).cell q
      rw [nc_getD _ q (by rw [wd_len]; exact hq3)] at cx
      obtain ⟨v, hv⟩ : ∃ v, (wd X 4).getD q 0 = v := ⟨_, rfl⟩
      rw [hv] at cx hgb
      obtain ⟨y, hy⟩ : ∃ y, UInt8.ofNat (X / 256 ^ k) = y := ⟨_, rfl⟩
      have wy : IntKind.u8.wrap ((v : Int) / 2 ^ sh) = (y.toNat : Int) := by
        rw [← hy, UInt8.toNat_ofNat', IntKind.wrap_u8, show (2 : Nat) ^ 8 = 256 by decide, ← hgb]
        push_cast
        rfl
      have wy' : IntKind.u8.wrap ((v : Int) / 2 ^ (min sh 64)) = (y.toNat : Int) := by rw [Nat.min_eq_left (by omega)]; exact wy
      rw [hy] at hset
      have co := AK.out.cell k
      rw [bs_getD _ k (by rw [outN_len X k (by omega)]; exact hlt)] at co
      have fo := AK.out.frozen k
      have an := AK.out.set k (.int .u8 (y.toNat : Int))
      rw [bs_set, hset] at an
      have AN := Lib.hid an
      have GN := Lib.hid (grownTrans GK.out (grownSet wr (g + 2) k (.int .u8 (y.toNat : Int))))
      generalize (outN X k).getD k 0 = old at co
      have d1 : (k : Int).tdiv 8 = (q : Int) := by rw [Int.tdiv_eq_ediv_of_nonneg (by omega)]; omega
      have d2 : (k : Int) / 8 = (q : Int) := by omega
      have m1 : (k : Int).tmod 8 = (r : Int) := by rw [Int.tmod_eq_emod_of_nonneg (by omega)]; omega
      have m2 : (k : Int) % 8 = (r : Int) := by omega
      have wq : IntKind.i64.wrap (q : Int) = (q : Int) := IntWalk.i64_in _ (by omega)
      have wr' : IntKind.i64.wrap (r : Int) = (r : Int) := IntWalk.i64_in _ (by omega)
      have ws : IntKind.i64.wrap ((r : Int) * 8) = (sh : Int) := by rw [IntWalk.i64_in _ (by omega)]; omega
      have iq : (q : Int) < 4 := by omega
      have ik : (k : Int) < 32 := by omega
      have hs64 : sh < 64 := by omega
      clear hq hr hsh hv hy hset hgb an hk
      go_wp2
      go_roundw
      case rel => exact ⟨k + 1, by omega, by go_num, AN.out, GN.out⟩
      case measure => simp [intOf]; omega
    · obtain rfl : k = 32 := by omega
      have ct : decide (((32 : Nat) : Int) < 32) = false := rfl
      rw [outN_all] at AK
      have N1 := Lib.hid (show (Lib.byteCells (ln X)).length = 32 by rw [Lib.byteCells_length, ln_len])
      have A1F := Lib.hid (arr_grown A1.out GK.out (by omega))
      have HBX := Lib.hid (HBw.out.trans (grownBelow GK.out (show g ≤ g + 2 by omega) (by have := HSZ.out; omega)))
      have AF := Lib.hid (A1F.out.row (Lib.byteCells (ln X)))
      have HBF := Lib.hid (below_row HBX.out (show g ≤ g + 1 by omega) (Lib.byteCells (ln X)).toArray)
      clear hlt
      go_wp2_with (first | (show wpList _ _ _ (⟨_, Op.load _ _, _, _, _, _⟩ :: _) _ _; refine Arr.loadL AK.out rfl 23 (.tmp 3) rfl rfl FieldTW.num_u rfl FieldTW.num_size N1.out ?_) | (show wpList _ _ _ (⟨_, Op.store _ _ _, _, _, _, _⟩ :: _) _ _; refine Arr.storeL A1F.out rfl 23 (.tmp 2) (.tmp 20) rfl rfl (Lib.byteCells (ln X)) rfl FieldTW.num_size (by rfl) N1.out (bytes_one _) ?_))
      refine bodyPost_ret (v := .agg (Lib.byteCells (ln X)).toArray) (by exact AF.out.ret rfl _ rfl FieldTW.num_u rfl FieldTW.num_size N1.out) rfl ⟨rfl, by rw [HG.out]; exact HBF.out⟩
end Go.Proofs.YtfngomlknhappaaDoor.FieldWW
