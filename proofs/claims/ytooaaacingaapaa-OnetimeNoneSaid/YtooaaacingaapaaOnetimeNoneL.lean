/-
  The walk of ticketwardkeep.OnetimeNone: it returns true and writes nothing that was there. Conditions: lengths that fit.
-/
import Derived.Test.YtooaaacingaapaaOneAlive
import Derived.Test.YtooaaacingaapaaSConcat
import Derived.Test.YtooaaacingaapaaKd
import Derived.Test.YtooaaacingaapaaKc
namespace Go.Proofs.Ytooaaacingaapaa.OnetimeNoneL
open Go.RowKit BytesW ArrW ArrG OneM OneFaceW OneA16 RowsW SConcatW

theorem make16 (w : World) : (Instr.makeSlice 22 (.int .i64 16) (.int .i64 16)).run Try.prog w = .ok (.slice (some ⟨w.heap.size, 0, none⟩) 16 16) (w.alloc (.cells (Lib.byteCells (List.replicate 16 0)).toArray 5)) := by
  obtain ⟨i0, hi, hz0, hz1, hz2⟩ := info_parts infoByte
  have h := run_make (P := Try.prog) w 22 5 i0 (.int .u8 0) Try.underlying22 hi hz0 .i64 .i64 16 16 (by decide) (by decide) (by rw [hz2]; decide) (by decide)
  have e : madeCells (Value.int .u8 0).cells (Int.toNat 16 * 1) = (Lib.byteCells (List.replicate 16 0)).toArray := by
    apply Array.toList_inj.1
    rw [show (Value.int .u8 0).cells = #[Value.int .u8 0] from rfl, toList_madeCells_one]
    rfl
  rw [h, hz1, e]
  rfl

set_option maxHeartbeats 8000000 in
set_option maxRecDepth 100000 in
theorem walk (a0 : Option Addr) (l0 : List UInt8) (c0 : Nat) (a1 : Option Addr) (l1 : List UInt8) (c1 : Nat) (w : World) (hA : Bs w w.heap.size a0 l0) (hc0 : l0.length ≤ c0) (_hl0 : l0.length ≤ 140737488351232) (hB : Bs w w.heap.size a1 l1) (hc1 : l1.length ≤ c1) (hl1 : l1.length ≤ 140737488351232) :
    Calls Try.prog 5 #[.slice a0 l0.length c0, .slice a1 l1.length c1] w fun e w' => e = .returned (.bool true) ∧ Below w.heap.size w w' := by
  have HA := Lib.hid hA
  have HB := Lib.hid hB
  clear hA hB
  go_enter Try.func5, Try.ntmps5
  go_wp2_with fail
  refine (OneAliveW.alive_any w).mono ?_
  rintro e w1 ⟨rfl, b1⟩
  have X1 := Lib.hid b1
  clear b1
  by_cases h32 : l0.length = 32
  · have ct : ((l0.length : Int) != 32) = false := by simp; omega
    obtain ⟨T, hT⟩ : ∃ T, l0.drop 16 = T := ⟨_, rfl⟩
    have HTl := Lib.hid (show T.length = 16 by rw [← hT, List.length_drop, h32])
    have N16 := Lib.hid (show (Lib.byteCells T).length = 16 by rw [Lib.byteCells_length]; exact HTl.out)
    have hs1 := osum_any a0 l0 c0 none [] 0 w1 ((HA.out.below X1.out).more X1.out.size) hc0 (Bs.nil _ _ _) (Nat.le_refl _) (by omega) (by decide)
    rw [show sumO l0 [] = (T, 0) by unfold sumO; rw [if_pos h32, tag_none l0 h32, hT], h32] at hs1
    have HS1 : Hid (Calls Try.prog 7 #[.slice a0 32 c0, .slice none 0 0] w1 fun e w' => e = .returned (.tuple #[.agg (Lib.byteCells T).toArray, .int .i64 0]) ∧ Below w1.heap.size w1 w') := Lib.hid hs1
    have HK2 := Lib.hid (show sumO (List.replicate 16 0 ++ T) l1 = (T, 0) by rw [← hT]; unfold sumO; rw [if_pos (by simp [h32]), tag_zero l0 l1 h32])
    obtain ⟨ad, rfl⟩ : ∃ ad, a0 = some ad := by
      obtain ⟨ad, h, _, _⟩ := HA.out.at_ (k := 0) (by omega)
      exact ⟨ad, h⟩
    have hbd : Bs w w.heap.size (some { block := ad.block, off := ad.off + 16 }) T := by rw [← hT]; exact HA.out.drop 16
    have HBd := Lib.hid hbd
    rw [h32] at hc0 ⊢
    have hc16 : ¬ c0 = 16 := by omega
    clear hs1 hT h32 hbd
    go_wp2_with fail
    refine HS1.out.mono ?_
    clear HS1
    rintro e w2 ⟨rfl, b2⟩
    have X2 := Lib.hid (X1.out.trans (b2.mono X1.out.size))
    clear b2
    go_upto_region 6 with (refine Arr.storeL (Arr.new w2 _ _) rfl 23 (.tmp 5) (.tmp 17) rfl rfl (Lib.byteCells T) rfl a16_size (by rfl) N16.out (bytes_one _) ?_)
    generalize hw3 : World.setRow _ _ _ = w3
    obtain ⟨p5, b3, z3⟩ := filled hw3
    have X3 := Lib.hid (X2.out.trans (b3.mono X2.out.size))
    have P5 := Lib.hid p5
    obtain ⟨g5, hg5⟩ : ∃ g, w2.heap.size = g := ⟨_, rfl⟩
    rw [hg5] at P5 ⊢
    clear b3 hw3 p5 hg5 z3 ct
    have hmk : ∀ V : World, (Instr.makeSlice 22 (.int .i64 16) (.int .i64 16)).run Try.prog V = .ok (.slice (some ⟨V.heap.size, 0, none⟩) 16 16) (V.alloc (.cells (Lib.byteCells (List.replicate 16 0)).toArray 5)) := fun V => make16 V
    obtain ⟨Z, hZ⟩ : ∃ Z : List UInt8, List.replicate 16 0 = Z := ⟨_, rfl⟩
    have HZl := Lib.hid (show Z.length = 16 by rw [← hZ]; rfl)
    have NZ := Lib.hid (show (Lib.byteCells Z).length = 16 by rw [Lib.byteCells_length]; exact HZl.out)
    have HZs : Hid (#[Value.int .u8 0, .int .u8 0, .int .u8 0, .int .u8 0, .int .u8 0, .int .u8 0, .int .u8 0, .int .u8 0, .int .u8 0, .int .u8 0, .int .u8 0, .int .u8 0, .int .u8 0, .int .u8 0, .int .u8 0, .int .u8 0].toList = Lib.byteCells Z) := Lib.hid (by rw [← hZ]; rfl)
    rw [hZ] at HK2 hmk
    have HMk := Lib.hid hmk
    clear hZ hmk
    go_upto_region 6 with (fail)
    refine wp_region_tree (Sch.graft (.read 1 (.read 2 (.read 5 (.fork 0 (.fork 3 (.fork 4 (.fork 6 (.read 7 (.read 8 (.read 9 (.step 10 .done)))) 10 (.step 6 (.read 7 (.read 8 (.read 9 .done))))) 10 (.step 4 (.step 6 (.read 7 (.read 8 (.read 9 .done)))))) 10 (.step 3 (.step 4 (.step 6 (.read 7 (.read 8 (.read 9 .done))))))) 10 (.step 0 (.step 3 (.step 4 (.step 6 (.read 7 (.read 8 (.read 9 .done))))))))))) (.step 11 (.read 12 .done))) (fun W => ∃ x : Ab w3, W = x.val) (by kernel_rfl) (by kernel_rfl) (by decide) (fun _ _ d _ _ h => by cases d <;> exact h) (Cl.of (Below.refl _ _).drew) ?_
    have x0 := (Below.refl w3.heap.size w3).drew
    have hab := ab w3
    obtain ⟨V0, hV0⟩ : ∃ x, w3.drew = x := ⟨_, rfl⟩
    rw [hV0] at x0 ⊢
    clear hV0
    refine wp_graft (R := fun a V => ∃ (x20 x23 x24 : Value) (p : Nat), a = { tmps := #[.slice (some ad) 32 c0, .slice a1 l1.length c1, undef, undef, .bool false, .pointer (some ⟨g5, 0, none⟩), .int .i64 0, .pointer (some ⟨p, 0, none⟩), undef, .bool true, .bool false, .slice (some ad) 32 c0, .int .i64 32, .bool false, .tuple #[.agg (Lib.byteCells T).toArray, .int .i64 0], .slice (some ad) 32 c0, .tuple #[.agg (Lib.byteCells T).toArray, .int .i64 0], .agg (Lib.byteCells T).toArray, .int .i64 0, .tuple #[.agg (Lib.byteCells T).toArray, .int .i64 0], x20, .slice (some ad) 32 c0, .slice (some { block := ad.block, off := ad.off + 16 }) 16 (c0 - 16), x23, x24, .slice a1 l1.length c1, .tuple #[.agg (Lib.byteCells T).toArray, .int .i64 0], .agg (Lib.byteCells T).toArray, .int .i64 0, undef, undef, undef, undef, undef, undef, undef, undef, undef, undef, undef, undef, undef, undef, undef, undef, undef, undef, undef], defers := [] } ∧ Arr V p 23 (Lib.byteCells Z) ∧ w3.heap.size ≤ p ∧ Below w3.heap.size w3 V) ?tail _ _ _ ?main
    case main =>
      iterate 3 (refine tree_read rfl (fun K hK => ?_); go_simp; refine hK _ ?_; clear hK K)
      have hbs0 : ∀ V, Below w3.heap.size w3 V → Bs V V.heap.size (some { block := ad.block, off := ad.off + 16 }) T := fun V hV => (HBd.out.below (X3.out.trans (hV.mono X3.out.size))).more (Nat.le_trans X3.out.size hV.size)
      have hbs1 : ∀ V, Below w3.heap.size w3 V → Bs V V.heap.size a1 l1 := fun V hV => (HB.out.below (X3.out.trans (hV.mono X3.out.size))).more (Nat.le_trans X3.out.size hV.size)
      have HBs0 := Lib.hid hbs0
      have HBs1 := Lib.hid hbs1
      clear hbs0 hbs1
      refine tree_fork rfl rfl (Cl.of x0) (fun K hK => ?_) (fun K hK => ?_)
      · have hmk := HMk.out
        go_simp
        clear hmk
        generalize hV1 : World.alloc _ _ = V1
        obtain ⟨q1, b1, -⟩ := start1 hV1
        have hz1 : Bs V1 V1.heap.size (some ⟨V0.heap.size, 0, none⟩) Z := arr_bs (by simpa using q1) (by have := q1.lt; exact this)
        clear hV1 q1
        have x1 := x0.trans (b1.mono x0.size)
        refine hK _ _ ⟨Cl.of x1, ?_⟩
        clear hK K b1
        refine tree_fork rfl rfl (Cl.of x1) (fun K hK => ?_) (fun K hK => ?_)
        · go_simp
          generalize hV2 : World.alloc _ _ = V2
          obtain ⟨-, b2, -⟩ := start1 hV2
          have hm2 : Ms V2 V2.heap.size (some ⟨V1.heap.size, 0, none⟩) [Z, T] := by
            subst hV2
            have h := Ms.laid2 V1 (some ⟨V0.heap.size, 0, none⟩) (some { block := ad.block, off := ad.off + 16 }) Z T _ _ 16 (c0 - 16) rfl rfl hz1 (HBs0.out V1 x1) (by rw [HZl.out]; exact Nat.le_refl _) (by rw [HTl.out]; omega) (0, 0) (V1.heap.size + 1) (by omega)
            rw [HZl.out, HTl.out] at h
            simpa using h
          clear hV2 hz1
          have x2 := x1.trans (b2.mono x1.size)
          refine hK _ _ ⟨Cl.of x2, ?_⟩
          clear hK K b2
          refine tree_fork rfl rfl (Cl.of x2) (fun K hK => ?_) (fun K hK => ?_)
          · have hcc3 := concat_any (some ⟨V1.heap.size, 0, none⟩) [Z, T] 2 V2 hm2 (by simp [tot]; rw [HZl.out, HTl.out]; decide) (by simp)
            have HCc3 := Lib.hid hcc3
            clear hcc3
            go_simp
            refine HCc3.out.mono ?_
            clear HCc3
            rintro e V3 ⟨v, rfl, r3, b3⟩
            obtain ⟨A3, d3, rfl, s3, hd3⟩ := r3.form2
            simp only [List.flatten_cons, List.flatten_nil, List.append_nil] at s3 hd3
            have hl3 : ([Z, T].flatten).length = 32 := by simp [HZl.out, HTl.out]
            rw [hl3]
            clear r3 hl3 hm2
            have x3 := x2.trans (b3.mono x2.size)
            refine hK _ _ ⟨Cl.of x3, ?_⟩
            clear hK K b3
            refine tree_fork rfl rfl (Cl.of x3) (fun K hK => ?_) (fun K hK => ?_)
            · have hsu4 := osum_any A3 (Z ++ T) d3 a1 l1 c1 V3 s3 hd3 (HBs1.out V3 x3) hc1 (by rw [List.length_append, HZl.out, HTl.out]; decide) hl1
              rw [HK2.out, List.length_append, HZl.out, HTl.out] at hsu4
              have HSu4 := Lib.hid hsu4
              clear hsu4
              go_simp
              refine HSu4.out.mono ?_
              clear HSu4
              rintro e V4 ⟨rfl, b4⟩
              have x4 := x3.trans (b4.mono x3.size)
              refine hK _ _ ⟨Cl.of x4, ?_⟩
              clear hK K b4
              iterate 3 (refine tree_read rfl (fun K hK => ?_); go_simp; refine hK _ ?_; clear hK K)
              refine tree_step rfl (Cl.of x4) (fun K hK => ?_)
              go_simp
              generalize hV5 : World.alloc _ _ = V5
              obtain ⟨q5, b5, -⟩ := start1 hV5
              rw [HZs.out] at q5
              have hpl5 := x4.size
              clear hV5
              have x5 := x4.trans (b5.mono x4.size)
              refine hK _ _ ⟨Cl.of x5, ?_⟩
              clear hK K b5
              refine tree_done ?_
              exact ⟨_, _, _, _, rfl, q5, hpl5, x5⟩
            · go_simp
              generalize hV6 : World.alloc _ _ = V6
              obtain ⟨q6, b6, -⟩ := start1 hV6
              rw [HZs.out] at q6
              have hc6 := (s3.below b6).more b6.size
              have hpl6 := x3.size
              clear hV6
              have x6 := x3.trans (b6.mono x3.size)
              refine hK _ _ ⟨Cl.of x6, ?_⟩
              clear hK K b6
              refine tree_step rfl (Cl.of x6) (fun K hK => ?_)
              have hsu7 := osum_any A3 (Z ++ T) d3 a1 l1 c1 V6 hc6 hd3 (HBs1.out V6 x6) hc1 (by rw [List.length_append, HZl.out, HTl.out]; decide) hl1
              rw [HK2.out, List.length_append, HZl.out, HTl.out] at hsu7
              have HSu7 := Lib.hid hsu7
              clear hsu7
              go_simp
              refine HSu7.out.mono ?_
              clear HSu7
              rintro e V7 ⟨rfl, b7⟩
              have hp7 := q6.below b7 q6.lt
              have x7 := x6.trans (b7.mono x6.size)
              refine hK _ _ ⟨Cl.of x7, ?_⟩
              clear hK K b7
              iterate 3 (refine tree_read rfl (fun K hK => ?_); go_simp; refine hK _ ?_; clear hK K)
              refine tree_done ?_
              exact ⟨_, _, _, _, rfl, hp7, hpl6, x7⟩
          · go_simp
            generalize hV8 : World.alloc _ _ = V8
            obtain ⟨q8, b8, -⟩ := start1 hV8
            rw [HZs.out] at q8
            have hm8 := (hm2.below b8).more b8.size
            have hpl8 := x2.size
            clear hV8
            have x8 := x2.trans (b8.mono x2.size)
            refine hK _ _ ⟨Cl.of x8, ?_⟩
            clear hK K b8
            refine tree_step rfl (Cl.of x8) (fun K hK => ?_)
            have hcc9 := concat_any (some ⟨V1.heap.size, 0, none⟩) [Z, T] 2 V8 hm8 (by simp [tot]; rw [HZl.out, HTl.out]; decide) (by simp)
            have HCc9 := Lib.hid hcc9
            clear hcc9
            go_simp
            refine HCc9.out.mono ?_
            clear HCc9
            rintro e V9 ⟨v, rfl, r9, b9⟩
            obtain ⟨A9, d9, rfl, s9, hd9⟩ := r9.form2
            simp only [List.flatten_cons, List.flatten_nil, List.append_nil] at s9 hd9
            have hp9 := q8.below b9 q8.lt
            have hl9 : ([Z, T].flatten).length = 32 := by simp [HZl.out, HTl.out]
            rw [hl9]
            clear r9 hl9 hm8
            have x9 := x8.trans (b9.mono x8.size)
            refine hK _ _ ⟨Cl.of x9, ?_⟩
            clear hK K b9
            refine tree_step rfl (Cl.of x9) (fun K hK => ?_)
            have hsu10 := osum_any A9 (Z ++ T) d9 a1 l1 c1 V9 s9 hd9 (HBs1.out V9 x9) hc1 (by rw [List.length_append, HZl.out, HTl.out]; decide) hl1
            rw [HK2.out, List.length_append, HZl.out, HTl.out] at hsu10
            have HSu10 := Lib.hid hsu10
            clear hsu10
            go_simp
            refine HSu10.out.mono ?_
            clear HSu10
            rintro e V10 ⟨rfl, b10⟩
            have hp10 := hp9.below b10 hp9.lt
            have x10 := x9.trans (b10.mono x9.size)
            refine hK _ _ ⟨Cl.of x10, ?_⟩
            clear hK K b10
            iterate 3 (refine tree_read rfl (fun K hK => ?_); go_simp; refine hK _ ?_; clear hK K)
            refine tree_done ?_
            exact ⟨_, _, _, _, rfl, hp10, hpl8, x10⟩
        · go_simp
          generalize hV11 : World.alloc _ _ = V11
          obtain ⟨q11, b11, -⟩ := start1 hV11
          rw [HZs.out] at q11
          have hz11 := (hz1.below b11).more b11.size
          have hpl11 := x1.size
          clear hV11
          have x11 := x1.trans (b11.mono x1.size)
          refine hK _ _ ⟨Cl.of x11, ?_⟩
          clear hK K b11
          refine tree_step rfl (Cl.of x11) (fun K hK => ?_)
          go_simp
          generalize hV12 : World.alloc _ _ = V12
          obtain ⟨-, b12, -⟩ := start1 hV12
          have hm12 : Ms V12 V12.heap.size (some ⟨V11.heap.size, 0, none⟩) [Z, T] := by
            subst hV12
            have h := Ms.laid2 V11 (some ⟨V0.heap.size, 0, none⟩) (some { block := ad.block, off := ad.off + 16 }) Z T _ _ 16 (c0 - 16) rfl rfl hz11 (HBs0.out V11 x11) (by rw [HZl.out]; exact Nat.le_refl _) (by rw [HTl.out]; omega) (0, 0) (V11.heap.size + 1) (by omega)
            rw [HZl.out, HTl.out] at h
            simpa using h
          have hp12 := q11.below b12 q11.lt
          clear hV12 hz11
          have x12 := x11.trans (b12.mono x11.size)
          refine hK _ _ ⟨Cl.of x12, ?_⟩
          clear hK K b12
          refine tree_step rfl (Cl.of x12) (fun K hK => ?_)
          have hcc13 := concat_any (some ⟨V11.heap.size, 0, none⟩) [Z, T] 2 V12 hm12 (by simp [tot]; rw [HZl.out, HTl.out]; decide) (by simp)
          have HCc13 := Lib.hid hcc13
          clear hcc13
          go_simp
          refine HCc13.out.mono ?_
          clear HCc13
          rintro e V13 ⟨v, rfl, r13, b13⟩
          obtain ⟨A13, d13, rfl, s13, hd13⟩ := r13.form2
          simp only [List.flatten_cons, List.flatten_nil, List.append_nil] at s13 hd13
          have hp13 := hp12.below b13 hp12.lt
          have hl13 : ([Z, T].flatten).length = 32 := by simp [HZl.out, HTl.out]
          rw [hl13]
          clear r13 hl13 hm12
          have x13 := x12.trans (b13.mono x12.size)
          refine hK _ _ ⟨Cl.of x13, ?_⟩
          clear hK K b13
          refine tree_step rfl (Cl.of x13) (fun K hK => ?_)
          have hsu14 := osum_any A13 (Z ++ T) d13 a1 l1 c1 V13 s13 hd13 (HBs1.out V13 x13) hc1 (by rw [List.length_append, HZl.out, HTl.out]; decide) hl1
          rw [HK2.out, List.length_append, HZl.out, HTl.out] at hsu14
          have HSu14 := Lib.hid hsu14
          clear hsu14
          go_simp
          refine HSu14.out.mono ?_
          clear HSu14
          rintro e V14 ⟨rfl, b14⟩
          have hp14 := hp13.below b14 hp13.lt
          have x14 := x13.trans (b14.mono x13.size)
          refine hK _ _ ⟨Cl.of x14, ?_⟩
          clear hK K b14
          iterate 3 (refine tree_read rfl (fun K hK => ?_); go_simp; refine hK _ ?_; clear hK K)
          refine tree_done ?_
          exact ⟨_, _, _, _, rfl, hp14, hpl11, x14⟩
      · go_simp
        generalize hV15 : World.alloc _ _ = V15
        obtain ⟨q15, b15, -⟩ := start1 hV15
        rw [HZs.out] at q15
        have hpl15 := x0.size
        clear hV15
        have x15 := x0.trans (b15.mono x0.size)
        refine hK _ _ ⟨Cl.of x15, ?_⟩
        clear hK K b15
        refine tree_step rfl (Cl.of x15) (fun K hK => ?_)
        have hmk := HMk.out
        go_simp
        clear hmk
        generalize hV16 : World.alloc _ _ = V16
        obtain ⟨q16, b16, -⟩ := start1 hV16
        have hp16 := q15.below b16 q15.lt
        have hz16 : Bs V16 V16.heap.size (some ⟨V15.heap.size, 0, none⟩) Z := arr_bs (by simpa using q16) (by have := q16.lt; exact this)
        clear hV16 q16
        have x16 := x15.trans (b16.mono x15.size)
        refine hK _ _ ⟨Cl.of x16, ?_⟩
        clear hK K b16
        refine tree_step rfl (Cl.of x16) (fun K hK => ?_)
        go_simp
        generalize hV17 : World.alloc _ _ = V17
        obtain ⟨-, b17, -⟩ := start1 hV17
        have hm17 : Ms V17 V17.heap.size (some ⟨V16.heap.size, 0, none⟩) [Z, T] := by
          subst hV17
          have h := Ms.laid2 V16 (some ⟨V15.heap.size, 0, none⟩) (some { block := ad.block, off := ad.off + 16 }) Z T _ _ 16 (c0 - 16) rfl rfl hz16 (HBs0.out V16 x16) (by rw [HZl.out]; exact Nat.le_refl _) (by rw [HTl.out]; omega) (0, 0) (V16.heap.size + 1) (by omega)
          rw [HZl.out, HTl.out] at h
          simpa using h
        have hp17 := hp16.below b17 hp16.lt
        clear hV17 hz16
        have x17 := x16.trans (b17.mono x16.size)
        refine hK _ _ ⟨Cl.of x17, ?_⟩
        clear hK K b17
        refine tree_step rfl (Cl.of x17) (fun K hK => ?_)
        have hcc18 := concat_any (some ⟨V16.heap.size, 0, none⟩) [Z, T] 2 V17 hm17 (by simp [tot]; rw [HZl.out, HTl.out]; decide) (by simp)
        have HCc18 := Lib.hid hcc18
        clear hcc18
        go_simp
        refine HCc18.out.mono ?_
        clear HCc18
        rintro e V18 ⟨v, rfl, r18, b18⟩
        obtain ⟨A18, d18, rfl, s18, hd18⟩ := r18.form2
        simp only [List.flatten_cons, List.flatten_nil, List.append_nil] at s18 hd18
        have hp18 := hp17.below b18 hp17.lt
        have hl18 : ([Z, T].flatten).length = 32 := by simp [HZl.out, HTl.out]
        rw [hl18]
        clear r18 hl18 hm17
        have x18 := x17.trans (b18.mono x17.size)
        refine hK _ _ ⟨Cl.of x18, ?_⟩
        clear hK K b18
        refine tree_step rfl (Cl.of x18) (fun K hK => ?_)
        have hsu19 := osum_any A18 (Z ++ T) d18 a1 l1 c1 V18 s18 hd18 (HBs1.out V18 x18) hc1 (by rw [List.length_append, HZl.out, HTl.out]; decide) hl1
        rw [HK2.out, List.length_append, HZl.out, HTl.out] at hsu19
        have HSu19 := Lib.hid hsu19
        clear hsu19
        go_simp
        refine HSu19.out.mono ?_
        clear HSu19
        rintro e V19 ⟨rfl, b19⟩
        have hp19 := hp18.below b19 hp18.lt
        have x19 := x18.trans (b19.mono x18.size)
        refine hK _ _ ⟨Cl.of x19, ?_⟩
        clear hK K b19
        iterate 3 (refine tree_read rfl (fun K hK => ?_); go_simp; refine hK _ ?_; clear hK K)
        refine tree_done ?_
        exact ⟨_, _, _, _, rfl, hp19, hpl15, x19⟩
    case tail =>
      rintro a V ⟨x20, x23, x24, p, rfl, hp, hpl, hb⟩
      refine tree_step rfl (Cl.of hb) (fun K hK => want rfl ?_)
      refine Arr.storeO hp 23 (.tmp 7) (.tmp 27) rfl rfl (Lib.byteCells T) rfl a16_size NZ.out N16.out (bytes_one _) ?_
      have hp2 := Lib.hid (hp.row (Lib.byteCells T))
      have hb2 := below_row hb hpl (Lib.byteCells T).toArray
      obtain ⟨U, hU⟩ : ∃ U, V.setRow p (Lib.byteCells T).toArray = U := ⟨_, rfl⟩
      rw [hU] at hp2 hb2 ⊢
      refine hK _ _ ⟨Cl.of hb2, ?_⟩
      clear hK K hU hp
      iterate 1 (refine tree_read rfl (fun K hK => ?_); go_simp; refine hK _ ?_; clear hK K)
      refine tree_done ?_
      have HP5 := Lib.hid (P5.out.below hb2 P5.out.lt)
      have XU := Lib.hid (X3.out.trans (hb2.mono X3.out.size))
      have HBu := Lib.hid ((HBd.out.below XU.out).more XU.out.size)
      have cv1 : ∀ x : Ab U, (convert 22 9 (.slice (some ⟨g5, 0, none⟩) 16 16)).run Try.prog x.val = .ok (.string ⟨T.toArray⟩) x.val := fun x => by
        have h := ((arr_bs HP5.out HP5.out.lt).below (Cl.below ⟨x, rfl⟩)).conv 16
        rw [HTl.out] at h
        exact h
      have cv2 : ∀ x : Ab U, (convert 22 9 (.slice (some { block := ad.block, off := ad.off + 16 }) 16 (c0 - 16))).run Try.prog x.val = .ok (.string ⟨T.toArray⟩) x.val := fun x => by
        have h := (HBu.out.below (Cl.below ⟨x, rfl⟩)).conv (c0 - 16)
        rw [HTl.out] at h
        exact h
      have heq : ∀ x : Ab U, (Op.equalIn 10000 23 (.agg (Lib.byteCells T).toArray) (.agg (Lib.byteCells T).toArray)).run Try.prog x.val = .ok true x.val := fun x => eql16 T HTl.out x.val
      have habu := ab U
      clear hb hpl hb2 hab x0
      go_upto_region 7 with (fail)
      refine Phase.wp_region_phases [([], [0, 1, 2, 3, 4, 5, 6, 7, 8, 9, 10, 11, 12, 13, 14, 15, 16, 17, 18, 19], none)] (fun V => ∃ x : Ab U, V = x.val) (by kernel_rfl) (by kernel_rfl) (fun _ _ d _ _ h => by cases d <;> exact h) (Cl.of (Below.refl _ _).drew) ?_
      refine Phase.g_quiet ?_
      refine Phase.p_nil ?_
      iterate 15 (refine Phase.q_step rfl (fun K hK => ?_); go_simp; refine hK _ ?_; clear hK K)
      refine Phase.q_step rfl (fun K hK => want rfl ?_)
      refine Arr.loadQ (fun V (h : ∃ x : Ab U, V = x.val) => HP5.out.below (Cl.below h) HP5.out.lt) 23 (.tmp 5) rfl rfl a16 rfl a16_size N16.out ?_
      refine hK _ ?_
      clear hK K
      refine Phase.q_step rfl (fun K hK => want rfl ?_)
      refine Arr.loadQ (fun V (h : ∃ x : Ab U, V = x.val) => hp2.out.below (Cl.below h) hp2.out.lt) 23 (.tmp 7) rfl rfl a16 rfl a16_size N16.out ?_
      refine hK _ ?_
      clear hK K
      iterate 3 (refine Phase.q_step rfl (fun K hK => ?_); go_simp; refine hK _ ?_; clear hK K)
      refine Phase.q_nil ?_
      refine Phase.g_nil ?_
      intro wz hz
      have hbz := Cl.below hz
      clear cv1 cv2 heq
      go_wp2
      go_ret
      exact ⟨rfl, XU.out.trans (hbz.mono XU.out.size)⟩
  · have ct : ((l0.length : Int) != 32) = true := by simp; omega
    go_wp2
    go_ret
    exact ⟨rfl, X1.out⟩
end Go.Proofs.Ytooaaacingaapaa.OnetimeNoneL
