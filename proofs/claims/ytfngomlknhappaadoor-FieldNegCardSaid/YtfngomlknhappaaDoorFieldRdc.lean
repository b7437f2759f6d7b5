/-
  field.reduced: what it hands back. Conditions: in the statement.
-/
import Derived.Test.YtfngomlknhappaaDoorFieldTab
import Derived.Test.YtfngomlknhappaaDoorFieldRead
import Derived.Test.YtfngomlknhappaaDoorArrT
import Derived.Test.YtfngomlknhappaaDoorKc
import Derived.Deep.DeepCutAuto
namespace Go.Proofs.YtfngomlknhappaaDoor.FieldWW
open Go.RowKit BytesW CellsW ArrW ArrG ArrL ArrT FieldM NumA NumF FieldN DigsW FieldTW

theorem leN_B4 {l : List UInt8} (h : l.length = 32) : leN l < 18446744073709551616 ^ 4 := by
  have := leN_lt l
  rw [h] at this
  rw [B4]
  exact this
/-- Are all below the prime? -/
def allR (ds : List (List UInt8)) : Bool := ds.all fun l => decide (leN l < P)
theorem allR_snoc (ds : List (List UInt8)) (k : Nat) (h : k < ds.length) (h1 : allR (ds.take k) = true) : allR (ds.take (k + 1)) = decide (leN ds[k] < P) := by
  rw [List.take_succ_eq_append_getElem h]
  unfold allR at h1 ⊢
  rw [List.all_append, h1]
  simp
theorem allR_false (ds : List (List UInt8)) (k : Nat) (h : k < ds.length) (h1 : decide (leN ds[k] < P) = false) : allR ds = false := by
  unfold allR
  rw [List.all_eq_false]
  exact ⟨ds[k], List.getElem_mem h, by rw [h1]; decide⟩

set_option maxHeartbeats 2000000 in
set_option maxRecDepth 100000 in
theorem reduced_any (A : Option Addr) (ds : List (List UInt8)) (c : Nat) (w : World) (hA : Ds w w.heap.size A ds) (hlen : ds.length ≤ 4) (hT : TabP w) :
    Calls Tryd.prog 25 #[.slice A ds.length c] w fun e w' => e = .returned (.bool (allR ds)) ∧ Below w.heap.size w w' := by
  have HA := Lib.hid hA
  have HT := Lib.hid hT
  have HLen := Lib.hid hlen
  obtain ⟨ok, hok⟩ : ∃ b, allR ds = b := ⟨_, rfl⟩
  have HOk := Lib.hid hok
  rw [hok]
  clear hA hT hok
  go_enter Tryd.func25, Tryd.ntmps25
  obtain ⟨n, hn⟩ : ∃ n, ds.length = n := ⟨_, rfl⟩
  rw [hn] at hlen ⊢
  have HN := Lib.hid hn
  clear hn
  go_wp2
  go_loopw [9] (fun vk wr => ∃ k : Nat, k ≤ n ∧ vk = .int .i64 (k : Int) ∧ allR (ds.take k) = true ∧ Below w.heap.size w wr) (fun vk _ => n - (intOf vk).toNat)
  case atStart => exact ⟨0, by omega, rfl, rfl, Below.refl _ _⟩
  case round =>
    obtain ⟨k, hk, rfl, hall, hbw⟩ := hrel
    have HB := Lib.hid hbw
    clear hbw
    by_cases hlt : k < n
    · have ct : decide ((k : Int) < (n : Int)) = true := decide_eq_true (by omega)
      have hkl : k < ds.length := by rw [HN.out]; exact hlt
      obtain ⟨ad, rfl, hab, hl, hbl⟩ := HA.out.at_ hkl
      have hnx := allR_snoc ds k hkl hall
      have hnf := allR_false ds k hkl
      obtain ⟨l, hll⟩ : ∃ l, ds[k] = l := ⟨_, rfl⟩
      rw [hll] at hl hbl hnx hnf
      have HL := Lib.hid hl
      have HBL := Lib.hid (hbl.below HB.out)
      have HC := Lib.hid (bc32 hl)
      have ik : (k : Int) < (n : Int) := by omega
      have wk : IntKind.i64.wrap ((k : Int) + 1) = ((k + 1 : Nat) : Int) := by rw [IntWalk.i64_in _ (by omega)]; omega
      have HNx := Lib.hid hnx
      have HNf := Lib.hid hnf
      have HSz := HB.out.size
      clear hab hl hbl hnx hnf hll hall hk hkl hlen
      go_upto_region 4 with (first | (show wpList _ _ _ (⟨_, Op.load _ (.tmp 11), _, _, _, _⟩ :: _) _ _; refine load_bytesL HBL.out rfl 23 (.tmp 11) rfl rfl FieldTW.num_u rfl FieldTW.num_size HL.out ?_) | (show wpList _ _ _ (⟨_, Op.store _ (.tmp 4) _, _, _, _, _⟩ :: _) _ _; refine Arr.storeL (Arr.new wr _ _) rfl 23 (.tmp 4) (.tmp 12) rfl rfl (Lib.byteCells l) rfl FieldTW.num_size (by rfl) HC.out (bytes_one _) ?_))
      generalize hw1 : World.setRow _ _ _ = w1
      obtain ⟨a4, b4, z4⟩ := filled hw1
      obtain ⟨p4, hp4⟩ : ∃ p, wr.heap.size = p := ⟨_, rfl⟩
      have HB1 := Lib.hid (HB.out.trans (b4.mono HSz))
      have HT1 : Hid (TabP w1) := Lib.hid (Tab.below HT.out (show Below w.heap.size w w1 from HB1.out))
      rw [hp4] at a4 ⊢
      have A4 := Lib.hid a4
      have HZ1 := Lib.hid (Nat.le_trans HSz b4.size)
      clear a4 b4 z4 hw1 hp4 HSz HBL HB
      obtain ⟨bo, hbo⟩ : ∃ b : Nat, (if leN l < P then 1 else 0) = b := ⟨_, rfl⟩
      have HRd := Lib.hid (fun V => read_any l HL.out V)
      have HSb := Lib.hid (fun V => sub_any (leN l) P (leN_B4 HL.out) P_B4 V)
      rw [hbo] at HSb
      obtain ⟨D, hD⟩ : ∃ D, leN l + 18446744073709551616 ^ 4 - P = D := ⟨_, rfl⟩
      rw [hD] at HSb
      have HBo := Lib.hid hbo
      obtain ⟨x, hx⟩ : ∃ x, leN l = x := ⟨_, rfl⟩
      rw [hx] at HRd HSb
      have HX := Lib.hid hx
      clear hbo hD hx
      have hab := ab w1
      have x0 := (Below.refl w1.heap.size w1).drew
      refine wp_region_tree (.read 0 (.read 2 (.fork 1 (.fork 3 (.read 4 (.read 5 (.read 6 (.step 7 (.step 8 (.read 9 .done)))))) 7 (.step 3 (.read 4 (.read 5 (.read 6 (.step 8 (.read 9 .done))))))) 7 (.step 1 (.step 3 (.read 4 (.read 5 (.read 6 (.step 8 (.read 9 .done)))))))))) (fun W => ∃ x : Ab w1, W = x.val) (by kernel_rfl) (by kernel_rfl) (by decide) (fun _ _ d _ _ h => by cases d <;> exact h) (Cl.of (Below.refl _ _).drew) ?_
      obtain ⟨w0, hw0⟩ : ∃ x, w1.drew = x := ⟨_, rfl⟩
      rw [hw0] at x0 ⊢
      clear hw0
      refine tree_read rfl (fun K hK => ?_)
      refine loadT (by rfl) (fun V (h : ∃ x : Ab w1, V = x.val) => A4.out.below (Cl.below h) A4.out.lt) 23 (.tmp 4) rfl rfl FieldTW.num_u rfl FieldTW.num_size HC.out ?_
      refine hK _ ?_; clear hK K
      refine tree_read rfl (fun K hK => ?_)
      refine Tab.loadT (by rfl) (fun V (h : ∃ x : Ab w1, V = x.val) => Tab.below HT1.out (Cl.below h)) 46 (.global 0) rfl rfl wnum_u rfl wnum_size (wd4 _) ?_
      refine hK _ ?_
      clear hK K
      refine tree_fork rfl rfl (Cl.of x0) (fun K hK => ?_) (fun K hK => ?_)
      · go_simp
        refine (HRd.out w0).mono ?_
        rintro e w2 ⟨rfl, bw2⟩
        have x1 := x0.trans (bw2.mono x0.size)
        refine hK _ _ ⟨Cl.of x1, ?_⟩
        clear hK K bw2
        refine tree_fork rfl rfl (Cl.of x1) (fun K hK => ?_) (fun K hK => ?_)
        · go_simp
          refine (HSb.out w2).mono ?_
          rintro e w3 ⟨rfl, bw3⟩
          have x2 := x1.trans (bw3.mono x1.size)
          refine hK _ _ ⟨Cl.of x2, ?_⟩
          clear hK K bw3
          iterate 3 (refine tree_read rfl (fun K hK => ?_); go_simp; refine hK _ ?_; clear hK K)
          refine tree_step rfl (Cl.of x2) (fun K hK => ?_)
          go_simp
          have bw4 := (Below.refl w3.heap.size w3).alloc (Nat.le_refl _) (.cells #[.int .u64 0, .int .u64 0, .int .u64 0, .int .u64 0] 46)
          have nw4 : Arr _ w3.heap.size 46 (nc (wd 0 4)) := Arr.new w3 #[.int .u64 0, .int .u64 0, .int .u64 0, .int .u64 0] 46
          have lw4 := x2.size
          obtain ⟨p5, hp⟩ : ∃ p, w3.heap.size = p := ⟨_, rfl⟩
          have x3 := x2.trans (bw4.mono x2.size)
          generalize hW : World.alloc _ _ = w4 at *
          rw [hp] at nw4 lw4 ⊢
          refine hK _ _ ⟨Cl.of x3, ?_⟩
          clear hK K bw4 hW hp
          refine tree_step rfl (Cl.of x3) (fun K hK => ?_)
          rw [if_pos (show Region.wanted _ _ = true from rfl)]
          refine Arr.storeO nw4 46 (.tmp 5) (.tmp 18) rfl rfl (nc (wd D 4)) rfl wnum_size (by rfl) (wd4 _) (nc_one _) ?_
          have bb := below_row x3 lw4 (nc (wd D 4)).toArray
          generalize World.setRow _ _ _ = w9 at *
          refine hK _ _ ⟨Cl.of bb, ?_⟩
          clear hK K
          refine tree_read rfl (fun K hK => ?_); go_simp; refine hK _ ?_; clear hK K
          refine tree_done ?_
          have HB9 := Lib.hid (HB1.out.trans (bb.mono HZ1.out))
          clear bb nw4 x0 x1 x2 hab lw4 x3
          by_cases hr : x < P
          · obtain rfl : bo = 1 := by rw [← HBo.out, HX.out, if_pos hr]
            have hnx := HNx.out
            rw [HX.out, decide_eq_true hr] at hnx
            have HNy := Lib.hid hnx
            have HLT := Lib.hid hlt
            clear hr hnx
            go_wp2
            go_roundw
            case rel => exact ⟨k + 1, by have := HLT.out; omega, rfl, HNy.out, HB9.out⟩
            case measure => have := HLT.out; simp [intOf]; omega
          · obtain rfl : bo = 0 := by rw [← HBo.out, HX.out, if_neg hr]
            have hnf := HNf.out (by rw [HX.out]; exact decide_eq_false hr)
            rw [HOk.out] at hnf
            obtain rfl := hnf
            clear hr
            go_wp2
            go_ret
            exact ⟨rfl, HB9.out⟩
        · go_simp
          have bw3 := (Below.refl w2.heap.size w2).alloc (Nat.le_refl _) (.cells #[.int .u64 0, .int .u64 0, .int .u64 0, .int .u64 0] 46)
          have nw3 : Arr _ w2.heap.size 46 (nc (wd 0 4)) := Arr.new w2 #[.int .u64 0, .int .u64 0, .int .u64 0, .int .u64 0] 46
          have lw3 := x1.size
          obtain ⟨p5, hp⟩ : ∃ p, w2.heap.size = p := ⟨_, rfl⟩
          have x2 := x1.trans (bw3.mono x1.size)
          generalize hW : World.alloc _ _ = w3 at *
          rw [hp] at nw3 lw3 ⊢
          refine hK _ _ ⟨Cl.of x2, ?_⟩
          clear hK K bw3 hW hp
          refine tree_step rfl (Cl.of x2) (fun K hK => ?_)
          go_simp
          refine (HSb.out w3).mono ?_
          rintro e w4 ⟨rfl, bw4⟩
          have x3 := x2.trans (bw4.mono x2.size)
          refine hK _ _ ⟨Cl.of x3, ?_⟩
          clear hK K
          replace nw3 := nw3.below (show Below w3.heap.size w3 w4 from bw4) nw3.lt
          clear bw4
          iterate 3 (refine tree_read rfl (fun K hK => ?_); go_simp; refine hK _ ?_; clear hK K)
          refine tree_step rfl (Cl.of x3) (fun K hK => ?_)
          rw [if_pos (show Region.wanted _ _ = true from rfl)]
          refine Arr.storeO nw3 46 (.tmp 5) (.tmp 18) rfl rfl (nc (wd D 4)) rfl wnum_size (by rfl) (wd4 _) (nc_one _) ?_
          have bb := below_row x3 lw3 (nc (wd D 4)).toArray
          generalize World.setRow _ _ _ = w9 at *
          refine hK _ _ ⟨Cl.of bb, ?_⟩
          clear hK K
          refine tree_read rfl (fun K hK => ?_); go_simp; refine hK _ ?_; clear hK K
          refine tree_done ?_
          have HB9 := Lib.hid (HB1.out.trans (bb.mono HZ1.out))
          clear bb nw3 x0 x1 x2 hab lw3 x3
          by_cases hr : x < P
          · obtain rfl : bo = 1 := by rw [← HBo.out, HX.out, if_pos hr]
            have hnx := HNx.out
            rw [HX.out, decide_eq_true hr] at hnx
            have HNy := Lib.hid hnx
            have HLT := Lib.hid hlt
            clear hr hnx
            go_wp2
            go_roundw
            case rel => exact ⟨k + 1, by have := HLT.out; omega, rfl, HNy.out, HB9.out⟩
            case measure => have := HLT.out; simp [intOf]; omega
          · obtain rfl : bo = 0 := by rw [← HBo.out, HX.out, if_neg hr]
            have hnf := HNf.out (by rw [HX.out]; exact decide_eq_false hr)
            rw [HOk.out] at hnf
            obtain rfl := hnf
            clear hr
            go_wp2
            go_ret
            exact ⟨rfl, HB9.out⟩
      · go_simp
        have bw2 := (Below.refl w0.heap.size w0).alloc (Nat.le_refl _) (.cells #[.int .u64 0, .int .u64 0, .int .u64 0, .int .u64 0] 46)
        have nw2 : Arr _ w0.heap.size 46 (nc (wd 0 4)) := Arr.new w0 #[.int .u64 0, .int .u64 0, .int .u64 0, .int .u64 0] 46
        have lw2 := x0.size
        obtain ⟨p5, hp⟩ : ∃ p, w0.heap.size = p := ⟨_, rfl⟩
        have x1 := x0.trans (bw2.mono x0.size)
        generalize hW : World.alloc _ _ = w2 at *
        rw [hp] at nw2 lw2 ⊢
        refine hK _ _ ⟨Cl.of x1, ?_⟩
        clear hK K bw2 hW hp
        refine tree_step rfl (Cl.of x1) (fun K hK => ?_)
        go_simp
        refine (HRd.out w2).mono ?_
        rintro e w3 ⟨rfl, bw3⟩
        have x2 := x1.trans (bw3.mono x1.size)
        refine hK _ _ ⟨Cl.of x2, ?_⟩
        clear hK K
        replace nw2 := nw2.below (show Below w2.heap.size w2 w3 from bw3) nw2.lt
        clear bw3
        refine tree_step rfl (Cl.of x2) (fun K hK => ?_)
        go_simp
        refine (HSb.out w3).mono ?_
        rintro e w4 ⟨rfl, bw4⟩
        have x3 := x2.trans (bw4.mono x2.size)
        refine hK _ _ ⟨Cl.of x3, ?_⟩
        clear hK K
        replace nw2 := nw2.below (show Below w3.heap.size w3 w4 from bw4) nw2.lt
        clear bw4
        iterate 3 (refine tree_read rfl (fun K hK => ?_); go_simp; refine hK _ ?_; clear hK K)
        refine tree_step rfl (Cl.of x3) (fun K hK => ?_)
        rw [if_pos (show Region.wanted _ _ = true from rfl)]
        refine Arr.storeO nw2 46 (.tmp 5) (.tmp 18) rfl rfl (nc (wd D 4)) rfl wnum_size (by rfl) (wd4 _) (nc_one _) ?_
        have bb := below_row x3 lw2 (nc (wd D 4)).toArray
        generalize World.setRow _ _ _ = w9 at *
        refine hK _ _ ⟨Cl.of bb, ?_⟩
        clear hK K
        refine tree_read rfl (fun K hK => ?_); go_simp; refine hK _ ?_; clear hK K
        refine tree_done ?_
        have HB9 := Lib.hid (HB1.out.trans (bb.mono HZ1.out))
        clear bb nw2 x0 x1 x2 hab lw2 x3
        by_cases hr : x < P
        · obtain rfl : bo = 1 := by rw [← HBo.out, HX.out, if_pos hr]
          have hnx := HNx.out
          rw [HX.out, decide_eq_true hr] at hnx
          have HNy := Lib.hid hnx
          have HLT := Lib.hid hlt
          clear hr hnx
          go_wp2
          go_roundw
          case rel => exact ⟨k + 1, by have := HLT.out; omega, rfl, HNy.out, HB9.out⟩
          case measure => have := HLT.out; simp [intOf]; omega
        · obtain rfl : bo = 0 := by rw [← HBo.out, HX.out, if_neg hr]
          have hnf := HNf.out (by rw [HX.out]; exact decide_eq_false hr)
          rw [HOk.out] at hnf
          obtain rfl := hnf
          clear hr
          go_wp2
          go_ret
          exact ⟨rfl, HB9.out⟩
    · obtain rfl : k = n := by omega
      have ct : decide ((k : Int) < (k : Int)) = false := decide_eq_false (by omega)
      rw [List.take_of_length_le (by rw [HN.out]; exact Nat.le_refl _), HOk.out] at hall
      obtain rfl := hall
      clear hlt
      go_wp2
      go_ret
      exact ⟨rfl, HB.out⟩
end Go.Proofs.YtfngomlknhappaaDoor.FieldWW
