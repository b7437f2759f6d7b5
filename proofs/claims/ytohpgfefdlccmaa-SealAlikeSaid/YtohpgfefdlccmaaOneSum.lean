/-
  ticketwardref.ISum: what it hands back. Conditions: in the statement.
-/
import Derived.Test.YtohpgfefdlccmaaOneCarry
import Derived.Test.YtohpgfefdlccmaaOneDig
import Derived.Test.YtohpgfefdlccmaaOneR
import Derived.Test.YtohpgfefdlccmaaKc
import Derived.Test.YtohpgfefdlccmaaKd
import Derived.Lib.AppendZeros
namespace Go.Proofs.Ytohpgfefdlccmaa.OneSumW
open Go.RowKit BytesW ArrW ArrG OneM OneI OneCarryW OneDigW OneR

theorem a16 : Try.prog.underlying 33 = some (.array 16 5) := by kernel_rfl
theorem a16_size : (Try.prog.info? 33).map (·.size) = some 16 := by kernel_rfl
theorem bytes_one (l : List UInt8) : ∀ v ∈ Lib.byteCells l, v.oneCell' = true := by
  intro v hv
  unfold Lib.byteCells at hv
  obtain ⟨n, _, rfl⟩ := List.mem_map.1 hv
  rfl

set_option maxHeartbeats 8000000 in
set_option maxRecDepth 100000 in
theorem isum_any (A : Option Addr) (key : List UInt8) (c : Nat) (A' : Option Addr) (b : List UInt8) (c' : Nat) (w : World) (hA : Bs w w.heap.size A key) (hc : key.length ≤ c) (hk : key.length = 32) (hB : Bs w w.heap.size A' b) (hc' : b.length ≤ c') (hb : b.length ≤ 140737488351232) :
    Calls Try.prog 33 #[.slice A key.length c, .slice A' b.length c'] w fun e w' => e = .returned (.agg (Lib.byteCells (tagS key b)).toArray) ∧ Below w.heap.size w w' := by
  have HA := Lib.hid hA
  have HBb := Lib.hid hB
  have HKl := Lib.hid hk
  rw [hk] at hc ⊢
  clear hA hB hk
  go_enter Try.func33, Try.ntmps33
  go_upto_region 1 with (fail)
  generalize hW : World.alloc _ _ = W
  obtain ⟨H0, hbw, hsz⟩ := start1 hW
  clear hW
  have a4 : Arr W w.heap.size 33 (Lib.byteCells (List.replicate 16 0)) := H0
  have A4 := Lib.hid a4
  have X0 := Lib.hid hbw
  have HSZ := Lib.hid hsz
  clear a4 H0 hbw hsz
  have hr0 := Row.empty W.heap.size W (Nat.le_refl _)
  have hb0 := (Below.refl W.heap.size W).alloc (Nat.le_refl _) (.cells #[] 5)
  obtain ⟨W1, hW1⟩ : ∃ W1, W.alloc (.cells #[] 5) = W1 := ⟨_, rfl⟩
  have HW1 := Lib.hid hW1
  rw [hW1] at hr0 hb0
  have R0 := Lib.hid hr0
  have X1 := Lib.hid hb0
  have S16 := Lib.hid (((HA.out.below X0.out).more X0.out.size).below X1.out |>.more X1.out.size |>.take 16)
  have i16 : (16 : Int) ≤ (c : Int) := by omega
  have HT16 := Lib.hid (show (key.take 16).length = 16 by rw [List.length_take, HKl.out]; rfl)
  clear hr0 hb0 hW1
  go_wp2_with (at_builtin; go_must (rw [HW1.out]; refine appN rfl (.tmp 25) (.tmp 27) rfl W.heap.size _ _ ([] : List UInt8) rfl R0.out A (key.take 16) c (by rw [HT16.out]; rfl) S16.out (by rw [HT16.out]; decide) X1.out.size ?_))
  intro v28 W2 r28 b28
  have X2 := Lib.hid (X1.out.trans b28)
  obtain ⟨K, hKd⟩ : ∃ K, key.take 16 = K := ⟨_, rfl⟩
  have HK := Lib.hid hKd
  have hKl : K.length = 16 := by rw [← hKd]; exact HT16.out
  have HKl16 := Lib.hid hKl
  have hr28 : Row W.heap.size W2 v28 K := by rw [← hKd]; exact r28
  obtain ⟨A5, c5, rfl, -, -⟩ := hr28.form2
  obtain ⟨g5, rfl, -, hg5, hg5', -, -⟩ := hr28.place (by omega)
  have R5 : Hid (Row W.heap.size W2 (.slice (some ⟨g5, 0, none⟩) 16 c5) (st1 K 0)) := Lib.hid (by rw [hKl] at hr28; exact hr28)
  have HG5 := Lib.hid hg5
  have HG5' := Lib.hid hg5'
  rw [hKl]
  clear r28 b28 hKd hr28 hg5 hg5' S16 R0 X1 HW1 hKl
  go_upto_region 3 with (fail)
  generalize hW3 : World.alloc _ _ = W3
  obtain ⟨H29, b3, z3⟩ := start1 hW3
  clear hW3
  obtain ⟨g29, hg29⟩ : ∃ g, W2.heap.size = g := ⟨_, rfl⟩
  have X3 := Lib.hid (X2.out.trans (b3.mono X2.out.size))
  have R53 := Lib.hid (R5.out.below b3)
  have HZ3 := Lib.hid (show W3.heap.size = g29 + 1 ∧ g5 < g29 by have := HG5'.out; omega)
  rw [hg29] at H29 ⊢
  have HLit : Hid (∀ n, n < 4 → W3.cell? ⟨g29, n, none⟩ = some (.int .i64 ((4 * n + 3 : Nat) : Int))) := Lib.hid (fun n hn => by
    rw [H29.cell]
    match n, hn with
    | 0, _ => rfl
    | 1, _ => rfl
    | 2, _ => rfl
    | 3, _ => rfl)
  clear H29 b3 hg29 z3
  go_wp2
  go_loopw [31] (fun vi wr => ∃ n : Nat, n ≤ 4 ∧ vi = .int .i64 (n : Int) ∧ Row W.heap.size wr (.slice (some ⟨g5, 0, none⟩) 16 c5) (st1 K n) ∧ W3.grownBy wr (some g5)) (fun vi _ => 4 - (intOf vi).toNat)
  case atStart => exact ⟨0, by omega, rfl, R53.out, grownRefl _ _⟩
  case round =>
    obtain ⟨n, hn, rfl, hr, hg⟩ := hrel
    have HR := Lib.hid hr
    have HG := Lib.hid hg
    by_cases hlt : n < 4
    · have ct : decide ((n : Int) < 4) = true := decide_eq_true (by omega)
      have cl : wr.cell? ⟨g29, n, none⟩ = some (.int .i64 ((4 * n + 3 : Nat) : Int)) := (World.cell?_of_block (a := ⟨g29, n, none⟩) (hg.block g29 (by have := HZ3.out; omega) (fun e => by have := HZ3.out; cases e; omega))).trans (HLit.out n hlt)
      obtain ⟨q, hq⟩ : ∃ q, 4 * n + 3 = q := ⟨_, rfl⟩
      have hql : q < 16 := by omega
      rw [hq] at cl
      have hsl : (st1 K n).length = 16 := by rw [st1_len]; exact HKl16.out
      obtain ⟨c1, f1⟩ := hr.at2 q (by rw [hsl]; exact hql)
      obtain ⟨x, hx⟩ : ∃ x, (st1 K n)[q]'(by rw [hsl]; exact hql) = x := ⟨_, rfl⟩
      rw [hx] at c1
      obtain ⟨z, hz⟩ : ∃ z, UInt8.ofNat (x.toNat % 16) = z := ⟨_, rfl⟩
      have e2 : (x.toNat : Int) % 16 = (z.toNat : Int) := by rw [← hz, UInt8.toNat_ofNat']; omega
      have e1 : (x.toNat : Int).tmod 16 = (z.toNat : Int) := by rw [Int.tmod_eq_emod_of_nonneg (by omega)]; exact e2
      have hset : (st1 K n).set q z = st1 K (n + 1) := by rw [st1, hq, getD_at _ _ (by rw [hsl]; exact hql), hx, hz]
      have HR2 := Lib.hid (Row.set2 hr hsl q z (z.toNat : Int) rfl hset)
      have HG2 := Lib.hid (grownTrans hg (grownSet wr g5 q (.int .u8 (z.toNat : Int))))
      have iq : (q : Int) < 16 := by omega
      clear hr hg hx hz hset hq
      go_wp2
      go_roundw
      case rel => exact ⟨n + 1, by omega, by go_num, HR2.out, HG2.out⟩
      case measure => simp [intOf]; omega
    · obtain rfl : n = 4 := by omega
      have ct : decide (((4 : Nat) : Int) < 4) = false := rfl
      clear hlt hn
      have X4 := Lib.hid (X3.out.trans (grownBelow hg HG5.out X3.out.size))
      have R54 : Hid (Row W.heap.size wr (.slice (some ⟨g5, 0, none⟩) 16 c5) (st2 (st1 K 4) 0)) := HR
      have HK4 := Lib.hid (show (st1 K 4).length = 16 by rw [st1_len]; exact HKl16.out)
      have HG54 := Lib.hid (show g5 < wr.heap.size by have := HZ3.out; have := hg.size; omega)
      obtain ⟨K4, hK4e⟩ : ∃ K4, st1 K 4 = K4 := ⟨_, rfl⟩
      have HK4e := Lib.hid hK4e
      rw [hK4e] at R54 HK4
      clear hK4e
      clear hr hg HR HG HZ3 HLit R5 R53 X2 X3 HG5' HKl16
      go_upto_region 8 with (fail)
      generalize hW5 : World.alloc _ _ = W5
      obtain ⟨H42, b5, z5⟩ := start1 hW5
      clear hW5
      obtain ⟨g42, hg42⟩ : ∃ g, wr.heap.size = g := ⟨_, rfl⟩
      have X5 := Lib.hid (X4.out.trans (b5.mono X4.out.size))
      have R55 := Lib.hid (R54.out.below b5)
      have HZ5 := Lib.hid (show W5.heap.size = g42 + 1 ∧ g5 < g42 by have := HG54.out; omega)
      rw [hg42] at H42 ⊢
      have HLit : Hid (∀ n, n < 3 → W5.cell? ⟨g42, n, none⟩ = some (.int .i64 ((4 * n + 4 : Nat) : Int))) := Lib.hid (fun n hn => by
        rw [H42.cell]
        match n, hn with
        | 0, _ => rfl
        | 1, _ => rfl
        | 2, _ => rfl)
      clear H42 b5 hg42 z5
      go_wp2
      go_loopw [44] (fun vi wr => ∃ n : Nat, n ≤ 3 ∧ vi = .int .i64 (n : Int) ∧ Row W.heap.size wr (.slice (some ⟨g5, 0, none⟩) 16 c5) (st2 K4 n) ∧ W5.grownBy wr (some g5)) (fun vi _ => 3 - (intOf vi).toNat)
      case atStart => exact ⟨0, by omega, rfl, R55.out, grownRefl _ _⟩
      case round =>
        obtain ⟨n, hn, rfl, hr, hg⟩ := hrel
        have HR := Lib.hid hr
        have HG := Lib.hid hg
        by_cases hlt : n < 3
        · have ct : decide ((n : Int) < 3) = true := decide_eq_true (by omega)
          rename_i wr0 wr
          have cl : wr.cell? ⟨g42, n, none⟩ = some (.int .i64 ((4 * n + 4 : Nat) : Int)) := (World.cell?_of_block (a := ⟨g42, n, none⟩) (hg.block g42 (by have := HZ5.out; omega) (fun e => by have := HZ5.out; cases e; omega))).trans (HLit.out n hlt)
          obtain ⟨q, hq⟩ : ∃ q, 4 * n + 4 = q := ⟨_, rfl⟩
          have hql : q < 16 := by omega
          rw [hq] at cl
          have hsl : (st2 K4 n).length = 16 := by rw [st2_len]; exact HK4.out
          obtain ⟨c1, f1⟩ := hr.at2 q (by rw [hsl]; exact hql)
          obtain ⟨x, hx⟩ : ∃ x, (st2 K4 n)[q]'(by rw [hsl]; exact hql) = x := ⟨_, rfl⟩
          rw [hx] at c1
          obtain ⟨z, hz⟩ : ∃ z, UInt8.ofNat (x.toNat / 4 * 4) = z := ⟨_, rfl⟩
          have hzz : (z.toNat : Int) = (x.toNat : Int) - (x.toNat : Int) % 4 := by rw [← hz, UInt8.toNat_ofNat']; have := x.toNat_lt; omega
          have e0 : (x.toNat : Int).tmod 4 = (x.toNat : Int) % 4 := Int.tmod_eq_emod_of_nonneg (by omega)
          have e1 : IntKind.u8.wrap ((x.toNat : Int) - (x.toNat : Int) % 4) = (z.toNat : Int) := by rw [IntKind.wrap_u8]; have := x.toNat_lt; omega
          have e2 : ((x.toNat : Int) - (x.toNat : Int) % 4) % 256 = (z.toNat : Int) := by have := x.toNat_lt; omega
          have hset : (st2 K4 n).set q z = st2 K4 (n + 1) := by rw [st2, hq, getD_at _ _ (by rw [hsl]; exact hql), hx, hz]
          have HR2 := Lib.hid (Row.drew (Row.set2 hr hsl q z (z.toNat : Int) rfl hset))
          have HG2 := Lib.hid (grownTrans (grownTrans hg (grownSet wr g5 q (.int .u8 (z.toNat : Int)))) (grownDrew _ (some g5)))
          have iq : (q : Int) < 16 := by omega
          clear hr hg hx hz hset hq hzz
          go_upto_region 10 with (fail)
          refine Phase.wp_region_phases [([], [0, 1, 2, 3, 4, 5, 6, 7, 8, 9, 10], some 11)] (fun W => W = wr.drew) (by kernel_rfl) (by kernel_rfl) (fun _ _ d _ _ h => by cases d <;> exact h) rfl ?_
          refine Phase.g_alone rfl (Phase.p_nil ?_)
          iterate 11 (refine Phase.q_step rfl (fun K hK => ?_); go_simp; refine hK _ ?_; clear hK K)
          refine Phase.q_nil ?_
          rintro _ rfl K hK
          go_simp
          obtain ⟨w3, hw3⟩ : ∃ w3, (wr.setCell ⟨g5, q, none⟩ (.int .u8 (z.toNat : Int))).drew = w3 := ⟨_, rfl⟩
          rw [hw3] at HR2 HG2
          refine hK _ _ ⟨fun W => W = w3, hw3, ?_⟩
          clear hK K hw3
          refine Phase.g_nil ?_
          intro wz hz
          rw [show wz = w3 from hz]
          clear hz
          go_wp2
          go_roundw
          case rel =>
            repeat apply Exists.intro
            exact ⟨⟨n + 1, by omega, by go_num, HR2.out, HG2.out⟩, rfl⟩
          case measure => simp [intOf]; omega
        · obtain rfl : n = 3 := by omega
          rename_i wr0 wr
          have ct : decide (((3 : Nat) : Int) < 3) = false := rfl
          clear hlt hn
          have X6 := Lib.hid (X5.out.trans (grownBelow hg HG5.out X5.out.size))
          obtain ⟨K7, hK7⟩ : ∃ K7, st2 K4 3 = K7 := ⟨_, rfl⟩
          have HK7 := Lib.hid (show K7.length = 16 by rw [← hK7, st2_len]; exact HK4.out)
          have R56 : Hid (Row W.heap.size wr (.slice (some ⟨g5, 0, none⟩) 16 c5) K7) := Lib.hid (by rw [← hK7]; exact HR.out)
          have HKK := Lib.hid hK7
          clear hr hg HR HG HZ5 HLit R54 R55 X4 X5 HK4 HG54 hK7
          go_upto_region 12 with (fail)
          rename_i K13 hK13
          have H : ∀ (gx ga : Nat) (V : World) (z2 z3 z6 z7 z8 z9 z12 z13 z14 z15 z16 z17 z18 z19 z20 z21 z22 z23 z24 z25 z26 z27 z28 z29 z30 z31 z32 z33 z34 z35 z36 z37 z38 z39 z40 z41 z42 z43 z44 z45 z46 z47 z48 z49 z50 z51 z52 z53 z54 z55 z56 z57 z58 z59 z60 z61 z62 z63 z64 z65 z66 z67 z68 z69 z70 z71 z72 z73 z74 z75 z76 z77 z78 z79 z80 z81 z82 z83 z84 z85 z86 z87 z88 z89 z90 z91 z92 z93 z94 z95 z96 z97 z98 z99 z100 z101 z102 z103 z104 z105 z106 z107 z108 z109 z110 z111 z112 z113 z114 z115 z116 z117 z118 z119 z120 z121 z122 z123 z124 z125 z126 z127 z128 z129 z130 z131 z132 z133 z134 z135 z136 z137 z138 z139 z140 z141 z142 z143 z144 z145 z146 z147 z148 z149 z150 z151 z152 z153 z154 z155 z156 z157 z158 z159 z160 z161 z162 z163 z164 z165 z166 z167 z168 z169 z170 z171 z172 z173 z174 z175 z176 z177 z178 z179 z180 z181 z182 z183 z184 z185 z186 z187 z188 z189 z190 z191 z192 z193 z194 z195 z196 z197 z198 z199 z200 z201 z202 z203 z204 z205 z206 z207 z208 z209 z210 z211 z212 z213 z214 z215 z216 z217 z218 z219 z220 z221 z222 z223 z224 z225 z226 z227 z228 : Value), gx ≠ ga → W.heap.size ≤ gx → W.heap.size ≤ ga → Below W.heap.size W V → Arr V gx 3 (ic (digs (lev K7) 128)) → Arr V ga 3 (ic (List.replicate 11 0)) → K13 { tmps := #[.slice A 32 c, .slice A' b.length c', z2, z3, .pointer (some ⟨w.heap.size, 0, none⟩), .slice (some ⟨g5, 0, none⟩) 16 c5, z6, z7, z8, z9, .slice (some ⟨gx, 0, none⟩) 11 11, .slice (some ⟨ga, 0, none⟩) 11 11, z12, z13, z14, z15, z16, z17, z18, z19, z20, z21, z22, z23, z24, z25, z26, z27, z28, z29, z30, z31, z32, z33, z34, z35, z36, z37, z38, z39, z40, z41, z42, z43, z44, z45, z46, z47, z48, z49, z50, z51, z52, z53, z54, z55, z56, z57, z58, z59, z60, z61, z62, z63, z64, z65, z66, z67, z68, z69, z70, z71, z72, z73, z74, z75, z76, z77, z78, z79, z80, z81, z82, z83, z84, z85, z86, z87, z88, z89, z90, z91, z92, z93, z94, z95, z96, z97, z98, z99, z100, z101, z102, z103, z104, z105, z106, z107, z108, z109, z110, z111, z112, z113, z114, z115, z116, z117, z118, z119, z120, z121, z122, z123, z124, z125, z126, z127, z128, z129, z130, z131, z132, z133, z134, z135, z136, z137, z138, z139, z140, z141, z142, z143, z144, z145, z146, z147, z148, z149, z150, z151, z152, z153, z154, z155, z156, z157, z158, z159, z160, z161, z162, z163, z164, z165, z166, z167, z168, z169, z170, z171, z172, z173, z174, z175, z176, z177, z178, z179, z180, z181, z182, z183, z184, z185, z186, z187, z188, z189, z190, z191, z192, z193, z194, z195, z196, z197, z198, z199, z200, z201, z202, z203, z204, z205, z206, z207, z208, z209, z210, z211, z212, z213, z214, z215, z216, z217, z218, z219, z220, z221, z222, z223, z224, z225, z226, z227, z228], defers := [] } V := by
            clear R56 X6
            intro gx ga V z2 z3 z6 z7 z8 z9 z12 z13 z14 z15 z16 z17 z18 z19 z20 z21 z22 z23 z24 z25 z26 z27 z28 z29 z30 z31 z32 z33 z34 z35 z36 z37 z38 z39 z40 z41 z42 z43 z44 z45 z46 z47 z48 z49 z50 z51 z52 z53 z54 z55 z56 z57 z58 z59 z60 z61 z62 z63 z64 z65 z66 z67 z68 z69 z70 z71 z72 z73 z74 z75 z76 z77 z78 z79 z80 z81 z82 z83 z84 z85 z86 z87 z88 z89 z90 z91 z92 z93 z94 z95 z96 z97 z98 z99 z100 z101 z102 z103 z104 z105 z106 z107 z108 z109 z110 z111 z112 z113 z114 z115 z116 z117 z118 z119 z120 z121 z122 z123 z124 z125 z126 z127 z128 z129 z130 z131 z132 z133 z134 z135 z136 z137 z138 z139 z140 z141 z142 z143 z144 z145 z146 z147 z148 z149 z150 z151 z152 z153 z154 z155 z156 z157 z158 z159 z160 z161 z162 z163 z164 z165 z166 z167 z168 z169 z170 z171 z172 z173 z174 z175 z176 z177 z178 z179 z180 z181 z182 z183 z184 z185 z186 z187 z188 z189 z190 z191 z192 z193 z194 z195 z196 z197 z198 z199 z200 z201 z202 z203 z204 z205 z206 z207 z208 z209 z210 z211 z212 z213 z214 z215 z216 z217 z218 z219 z220 z221 z222 z223 z224 z225 z226 z227 z228 hxa hgx hga hbV hX hAa
            refine hK13 _ _ ?_
            go_wp2
            have HX := Lib.hid hX
            have HXl := Lib.hid (digs_done (lev K7))
            have HR128 := Lib.hid (show lev K7 < 2 ^ 128 by have := lev_lt K7; rw [HK7.out] at this; exact this)
            obtain ⟨X, hXe⟩ : ∃ X, digs (lev K7) 128 = X := ⟨_, rfl⟩
            have HXe := Lib.hid hXe
            rw [hXe] at HX HXl
            obtain ⟨r, hre⟩ : ∃ r, lev K7 = r := ⟨_, rfl⟩
            have HRe := Lib.hid hre
            rw [hre] at HR128 HXe
            have HA0 := Lib.hid hAa
            have HBV := Lib.hid hbV
            clear hX hXe hre hAa hbV
            go_loopw [11, 12] (fun v11 v12 wr => ∃ (n ga : Nat) (a : List Nat), v12 = .int .i64 ((16 * n : Nat) : Int) ∧ 16 * n ≤ b.length + 15 ∧ v11 = .slice (some ⟨ga, 0, none⟩) 11 11 ∧ ga ≠ gx ∧ W.heap.size ≤ ga ∧ Below W.heap.size W wr ∧ Arr wr gx 3 (ic X) ∧ Arr wr ga 3 (ic a) ∧ DoneC a ∧ num a % pp = accS r b n) (fun _ v12 _ => b.length - (intOf v12).toNat)
            case atStart => exact ⟨0, ga, List.replicate 11 0, rfl, by omega, rfl, fun e => hxa e.symm, hga, HBV.out, HX.out, HA0.out, zero_done, rfl⟩
            case round =>
              clear HA0 HX HBV
              obtain ⟨n, ga2, a, rfl, hn, rfl, hax, hga2, hbv, hx, ha, hda, hac⟩ := hrel
              rename_i wr0 wr1 wr
              have HX := Lib.hid hx
              have HAr := Lib.hid ha
              have HDa := Lib.hid hda
              have HAc := Lib.hid hac
              have HBv := Lib.hid hbv
              clear hx ha hda hac hbv
              obtain ⟨k, hk⟩ : ∃ k, 16 * n = k := ⟨_, rfl⟩
              rw [hk]
              by_cases hlt : k < b.length
              · have ct : decide ((k : Int) < (b.length : Int)) = true := decide_eq_true (by omega)
                obtain ⟨m, hm⟩ : ∃ m, min (k + 16) b.length = m := ⟨_, rfl⟩
                have hif : (if (b.length : Int) < (k : Int) + 16 then (b.length : Int) else (k : Int) + 16) = (m : Int) := by split <;> omega
                have i1 : (k : Int) ≤ (m : Int) := by omega
                have i2 : (m : Int) ≤ (c' : Int) := by omega
                have hkc : ¬ c' = k := by omega
                obtain ⟨blk, hblk⟩ : ∃ blk, (b.drop k).take 16 = blk := ⟨_, rfl⟩
                have HBlk := Lib.hid hblk
                have HBll := Lib.hid (show blk.length = m - k by rw [← hblk, List.length_take, List.length_drop]; omega)
                have HBll16 := Lib.hid (show blk.length ≤ 16 by rw [← hblk, List.length_take]; omega)
                obtain ⟨A2, hA2⟩ : ∃ A2, A'.map (·.add k) = A2 := ⟨_, rfl⟩
                have HA2 := Lib.hid hA2
                have HSb := Lib.hid (show Bs W W.heap.size A2 blk by rw [← hA2, ← hblk]; exact (((HBb.out.below X0.out).more X0.out.size).drop k).take 16)
                have hr0 := Row.empty wr.heap.size wr (Nat.le_refl _)
                have hb0 := (Below.refl wr.heap.size wr).alloc (Nat.le_refl _) (.cells #[] 5)
                obtain ⟨W1, hW1⟩ : ∃ W1, wr.alloc (.cells #[] 5) = W1 := ⟨_, rfl⟩
                have HW1 := Lib.hid hW1
                rw [hW1] at hr0 hb0
                have R0 := Lib.hid hr0
                have X1 := Lib.hid hb0
                have HSb1 := Lib.hid (((HSb.out.below HBv.out).more HBv.out.size).below X1.out |>.more X1.out.size)
                clear hm hblk hA2 hr0 hb0 hW1
                go_wp2_with (at_builtin; go_must (rw [HW1.out]; refine appN rfl (.tmp 69) (.tmp 77) rfl wr.heap.size _ _ ([] : List UInt8) rfl R0.out A2 blk (c' - k) (by rw [HBll.out, ← HA2.out]; rfl) HSb1.out (by have := HBll16.out; simp; omega) X1.out.size ?_))
                intro v78 W2 r78 b78
                have X2 := Lib.hid (X1.out.trans b78)
                have R78 : Hid (Row wr.heap.size W2 v78 blk) := Lib.hid (by simpa using r78)
                have n1 := BytesW.new1 W2 1 1 rfl
                have ra := R78.out.alloc (.cells #[.int .u8 1] 5)
                have sz1 : wr.heap.size ≤ (W2.alloc (.cells #[.int .u8 1] 5)).heap.size := by have := X2.out.size; simp; omega
                have hl17 : blk.length + 1 ≤ 140737488355328 := by have := HBll16.out; omega
                have X3 := Lib.hid (X2.out.alloc X2.out.size (.cells #[.int .u8 1] 5))
                clear r78 b78 R0 X1 X2 HW1 HSb1 HSb
                go_wp2_with (at_builtin; go_must (refine app1 rfl (.tmp 78) (.tmp 79) rfl wr.heap.size _ blk rfl ra ⟨W2.heap.size, 0, none⟩ 1 1 rfl n1 hl17 sz1 ?_))
                intro v80 W4 r80 b80
                have X4 := Lib.hid (X3.out.trans b80)
                obtain ⟨Zb, hZb⟩ : ∃ Zb, blk ++ [1] = Zb := ⟨_, rfl⟩
                have HZb := Lib.hid hZb
                have hZl : Zb.length ≤ 17 := by rw [← hZb, List.length_append]; have := HBll16.out; simp; omega
                rw [hZb] at r80
                obtain ⟨A80, c80, rfl, s80, -⟩ := r80.form2
                have hdg := digits_any A80 Zb c80 W4 s80 hZl
                clear hZb hZl
                obtain ⟨Y, hY⟩ : ∃ Y, digs (lev Zb) (8 * Zb.length) = Y := ⟨_, rfl⟩
                have HY := Lib.hid hY
                have HYl := Lib.hid (show Y.length = 11 by rw [← hY]; exact digs_len _ _)
                rw [hY] at hdg
                have HDg := Lib.hid hdg
                clear n1 ra sz1 hl17 r80 b80 s80 hdg hY X3 R78
                go_wp2_with fail
                refine HDg.out.mono ?_
                clear HDg
                rintro e W5 ⟨rfl, qy, b5⟩
                have X5 := Lib.hid (X4.out.trans (b5.mono X4.out.size))
                obtain ⟨gy, hgy⟩ : ∃ gy, W4.heap.size = gy := ⟨_, rfl⟩
                rw [hgy] at qy ⊢
                have HGy := Lib.hid (show wr.heap.size ≤ gy by rw [← hgy]; exact X4.out.size)
                have QY := Lib.hid qy
                have hmk := make11 W5
                clear b5 qy hgy X4
                go_upto_region 18 with (fail)
                clear hmk
                generalize hW6 : World.alloc _ _ = W6
                obtain ⟨qn, b6, z6'⟩ := start1 hW6
                clear hW6
                obtain ⟨gn, hgn⟩ : ∃ gn, W5.heap.size = gn := ⟨_, rfl⟩
                have X6 := Lib.hid (X5.out.trans (b6.mono X5.out.size))
                have QY6 := Lib.hid (QY.out.below b6 QY.out.lt)
                have HGn := Lib.hid (show gy < gn ∧ W6.heap.size = gn + 1 by have := QY.out.lt; omega)
                rw [hgn] at qn ⊢
                have QN6 : Hid (Arr W6 gn 3 (ic (List.replicate 11 0))) := Lib.hid qn
                have HX6 := Lib.hid (HX.out.below X6.out HX.out.lt)
                have HA6 := Lib.hid (HAr.out.below X6.out HAr.out.lt)
                have HLx := Lib.hid (show gx < wr.heap.size ∧ ga2 < wr.heap.size from ⟨HX.out.lt, HAr.out.lt⟩)
                clear b6 qn hgn z6' QY X5 HX HAr
                go_wp2
                go_loopw [83] (fun vi wq => ∃ i : Nat, i ≤ 11 ∧ vi = .int .i64 (i : Int) ∧ Arr wq gy 3 (ic (addS Y a i)) ∧ W6.grownBy wq (some gy)) (fun vi _ => 11 - (intOf vi).toNat)
                case atStart => exact ⟨0, by omega, rfl, by rw [addS_zero]; exact QY6.out, grownRefl _ _⟩
                case round =>
                  obtain ⟨i, hi, rfl, hay, hgq⟩ := hrel
                  have HAY := Lib.hid hay
                  have HGQ := Lib.hid hgq
                  clear hay hgq
                  by_cases hlt2 : i < 11
                  · have ct2 : decide ((i : Int) < 11) = true := decide_eq_true (by omega)
                    have ii : (i : Int) < 11 := by omega
                    have hal := HDa.out.1
                    have cy := HAY.out.cell i
                    rw [ic_getD _ i (by rw [addS_len _ _ _ HYl.out hal (by omega)]; exact hlt2), addS_at _ _ _ HYl.out hal hlt2] at cy
                    have fy := HAY.out.frozen i
                    have ca := (arr_grown HA6.out HGQ.out (by have := HLx.out; have := HGy.out; omega)).cell i
                    rw [ic_getD _ i (by rw [hal]; exact hlt2)] at ca
                    have hset := addS_set Y a i HYl.out hal hlt2
                    have hys : Y.getD i 0 < 8192 := by rw [← HY.out]; exact digs_small _ _ _
                    have has : a.getD i 0 < 8192 := by
                      by_cases e : i = 10
                      · subst e; rw [HDa.out.2.2]; decide
                      · exact HDa.out.2.1 i (by omega)
                    obtain ⟨y, hy⟩ : ∃ y, Y.getD i 0 = y := ⟨_, rfl⟩
                    obtain ⟨x, hx⟩ : ∃ x, a.getD i 0 = x := ⟨_, rfl⟩
                    rw [hy] at cy hset hys
                    rw [hx] at ca hset has
                    obtain ⟨t, ht⟩ : ∃ t, y + x = t := ⟨_, rfl⟩
                    rw [ht] at hset
                    have wS : IntKind.i64.wrap ((y : Int) + (x : Int)) = (t : Int) := by rw [IntWalk.i64_in _ (by omega)]; omega
                    have a2 := (HAY.out.set i (.int .i64 (t : Int))).drew
                    rw [ic_set, hset] at a2
                    have A2' := Lib.hid a2
                    have G2 := Lib.hid (grownTrans HGQ.out (grownTrans (grownSet wr gy i (.int .i64 (t : Int))) (grownDrew _ (some gy))))
                    clear a2 hset hys has hy hx ht hal
                    go_upto_region 21 with (fail)
                    refine Phase.wp_region_phases [([], [0, 1, 2, 3, 4, 5, 6, 7, 8, 9], some 10)] (fun W => W = wr.drew) (by kernel_rfl) (by kernel_rfl) (fun _ _ d _ _ h => by cases d <;> exact h) rfl ?_
                    refine Phase.g_alone rfl (Phase.p_nil ?_)
                    iterate 10 (refine Phase.q_step rfl (fun K hK => ?_); go_simp; refine hK _ ?_; clear hK K)
                    refine Phase.q_nil ?_
                    rintro _ rfl K hK
                    go_simp
                    obtain ⟨w3, hw3⟩ : ∃ w3, (wr.setCell ⟨gy, i, none⟩ (.int .i64 (t : Int))).drew = w3 := ⟨_, rfl⟩
                    rw [hw3] at A2' G2
                    refine hK _ _ ⟨fun W => W = w3, hw3, ?_⟩
                    clear hK K hw3 cy fy ca wS
                    refine Phase.g_nil ?_
                    intro wz hz
                    rw [show wz = w3 from hz]
                    clear hz
                    go_wp2
                    go_roundw
                    case rel => exact ⟨i + 1, by omega, by go_num, A2'.out, G2.out⟩
                    case measure => simp [intOf]; omega
                  · obtain rfl : i = 11 := by omega
                    have ct2 : decide (((11 : Nat) : Int) < 11) = false := rfl
                    clear hlt2 hi
                    have hay := HAY.out
                    rw [addS_all _ _ HYl.out HDa.out.1] at hay
                    have hst : StartC (sumS Y a) := by rw [← HY.out]; exact sumS_start _ _ _ HDa.out
                    have hca := carry_any gy (sumS Y a) wr hst hay
                    have HCa := Lib.hid hca
                    have X7 := Lib.hid (X6.out.trans (grownBelow HGQ.out HGy.out X6.out.size))
                    have HXq := Lib.hid (arr_grown HX6.out HGQ.out (by have := HLx.out; have := HGy.out; omega))
                    have HNq := Lib.hid (arr_grown QN6.out HGQ.out (by have := HGn.out; omega))
                    clear hay hst hca HAY HGQ QY6 QN6 HX6 HA6 X6
                    go_wp2_with fail
                    refine HCa.out.mono ?_
                    clear HCa
                    rintro e W7 ⟨rfl, y, hdy, hmy, ay, gy7⟩
                    have HY7 := Lib.hid ay
                    have HDy := Lib.hid hdy
                    have HMy := Lib.hid hmy
                    have X8 := Lib.hid (X7.out.trans (grownBelow gy7 HGy.out X7.out.size))
                    have HX7 := Lib.hid (arr_grown HXq.out gy7 (by have := HLx.out; have := HGy.out; omega))
                    have HN7 := Lib.hid (arr_grown HNq.out gy7 (by have := HGn.out; omega))
                    have HSm0 : Hid (Small (List.replicate 11 0) 0) := Lib.hid ⟨rfl, fun m _ => by rw [List.getD_eq_getElem?_getD, List.getElem?_replicate]; split <;> simp, rfl⟩
                    clear ay hdy hmy gy7 X7 HXq HNq
                    go_wp2
                    go_loopw [99] (fun vi wr => ∃ (i : Nat) (nx : List Nat), i ≤ 10 ∧ vi = .int .i64 (i : Int) ∧ Small nx (10 * i) ∧ num nx % pp = madeS y X i 0 % pp ∧ Arr wr gn 3 (ic nx) ∧ W7.grownBy wr (some gn)) (fun vi _ => 10 - (intOf vi).toNat)
                    case atStart => exact ⟨0, _, by omega, rfl, HSm0.out, by rw [madeS_zero]; rfl, HN7.out, grownRefl _ _⟩
                    case round =>
                      obtain ⟨i, nx, hi, rfl, hsm, hnm, han, hgn⟩ := hrel
                      have HSm := Lib.hid hsm
                      have HNm := Lib.hid hnm
                      have HAn := Lib.hid han
                      have HGN := Lib.hid hgn
                      clear hsm hnm han hgn
                      by_cases hlt3 : i < 10
                      · have ct3 : decide ((i : Int) < 10) = true := decide_eq_true (by omega)
                        go_wp2
                        go_loopw [102] (fun vj wr => ∃ (j : Nat) (nx : List Nat), j ≤ 10 ∧ vj = .int .i64 (j : Int) ∧ Small nx (10 * i + j) ∧ num nx % pp = madeS y X i j % pp ∧ Arr wr gn 3 (ic nx) ∧ W7.grownBy wr (some gn)) (fun vj _ => 10 - (intOf vj).toNat)
                        case atStart => exact ⟨0, nx, by omega, rfl, HSm.out, HNm.out, HAn.out, HGN.out⟩
                        case round =>
                          clear HSm HNm HAn HGN
                          obtain ⟨j, nx, hj, rfl, hsm, hnm, han, hgn⟩ := hrel
                          have HSm := Lib.hid hsm
                          have HNm := Lib.hid hnm
                          have HAn := Lib.hid han
                          have HGN := Lib.hid hgn
                          clear hsm hnm han hgn
                          by_cases hlt4 : j < 10
                          · have ct4 : decide ((j : Int) < 10) = true := decide_eq_true (by omega)
                            have cyi := (arr_grown HY7.out HGN.out (by have := HGn.out; omega)).cell i
                            rw [ic_getD _ i (by rw [HDy.out.1]; omega)] at cyi
                            have cxj := (arr_grown HX7.out HGN.out (by have := HLx.out; have := HGn.out; have := HGy.out; omega)).cell j
                            rw [ic_getD _ j (by rw [HXl.out.1]; omega)] at cxj
                            have hys := HDy.out.2.1 i hlt3
                            have hxs := HXl.out.2.1 j hlt4
                            have HSm2 := Lib.hid (small_step nx y X i j _ HSm.out hlt3 hlt4 hys hxs)
                            have HNm2 := Lib.hid (show num (prodS nx y X i j) % pp = madeS y X i (j + 1) % pp by
                              rw [prodS_num nx y X i j HSm.out.1 hlt3 hlt4, madeS_step y X i j HXl.out.1 hlt4, Nat.add_mod, HNm.out, ← Nat.add_mod])
                            have hnl := HSm.out.1
                            obtain ⟨yi, hyi⟩ : ∃ yi, y.getD i 0 = yi := ⟨_, rfl⟩
                            obtain ⟨xj, hxj⟩ : ∃ xj, X.getD j 0 = xj := ⟨_, rfl⟩
                            rw [hyi] at cyi hys
                            rw [hxj] at cxj hxs
                            have hpm : yi * xj ≤ 67092481 := Nat.mul_le_mul (show yi ≤ 8191 by omega) (show xj ≤ 8191 by omega)
                            obtain ⟨pr, hpr⟩ : ∃ pr, yi * xj = pr := ⟨_, rfl⟩
                            rw [hpr] at hpm
                            have hprI : (yi : Int) * (xj : Int) = (pr : Int) := by rw [← hpr, Int.natCast_mul]
                            have ii : (i : Int) < 11 := by omega
                            have ij : (j : Int) < 11 := by omega
                            have wij : IntKind.i64.wrap ((i : Int) + (j : Int)) = ((i + j : Nat) : Int) := by rw [IntWalk.i64_in _ (by omega)]; omega
                            have hbound : ∀ m, m < 11 → nx.getD m 0 < 34000000000 := fun m hm => by
                              have h1 := HSm.out.2.1 m hm
                              have h2 : (10 * i + j) * cc ≤ 100 * cc := Nat.mul_le_mul_right _ (by omega)
                              unfold cc at h1 h2
                              omega
                            by_cases hij : i + j < 10
                            · have ct5 : decide ((i : Int) + (j : Int) < 10) = true := decide_eq_true (by omega)
                              have hps : prodS nx y X i j = nx.set (i + j) (nx.getD (i + j) 0 + pr) := by unfold prodS; rw [if_pos hij, hyi, hxj, hpr]
                              obtain ⟨q, hq⟩ : ∃ q, i + j = q := ⟨_, rfl⟩
                              have hqI : (i : Int) + (j : Int) = (q : Int) := by omega
                              rw [hq] at hps wij
                              have cn := HAn.out.cell q
                              rw [ic_getD _ q (by omega)] at cn
                              have fn := HAn.out.frozen q
                              have hb1 := hbound q (by omega)
                              obtain ⟨nq, hnq⟩ : ∃ nq, nx.getD q 0 = nq := ⟨_, rfl⟩
                              rw [hnq] at cn hps hb1
                              obtain ⟨t, ht⟩ : ∃ t, nq + pr = t := ⟨_, rfl⟩
                              rw [ht] at hps
                              have wP : IntKind.i64.wrap ((yi : Int) * (xj : Int)) = (pr : Int) := by rw [hprI, IntWalk.i64_in _ (by omega)]
                              have wS : IntKind.i64.wrap ((nq : Int) + (pr : Int)) = (t : Int) := by rw [IntWalk.i64_in _ (by omega)]; omega
                              have a2 := (HAn.out.set q (.int .i64 (t : Int))).drew
                              rw [ic_set, ← hps] at a2
                              have AN2 := Lib.hid a2
                              have GN2 := Lib.hid (grownTrans HGN.out (grownTrans (grownSet wr gn q (.int .i64 (t : Int))) (grownDrew _ (some gn))))
                              have iq : (q : Int) < 11 := by omega
                              have iq10 : decide ((q : Int) < 10) = true := decide_eq_true (by omega)
                              have wq : IntKind.i64.wrap (q : Int) = (q : Int) := IntWalk.i64_in _ (by omega)
                              have wpr : IntKind.i64.wrap (pr : Int) = (pr : Int) := IntWalk.i64_in _ (by omega)
                              clear a2 hps hq hnq ht hbound hyi hxj hpr hnl hys hxs hpm hb1
                              go_upto_region 31 with (fail)
                              refine Phase.wp_region_phases [([], [0, 1, 2, 3, 4, 5, 6, 7, 8, 9, 10, 11, 12, 13, 14, 15, 16], some 17)] (fun W => W = wr.drew) (by kernel_rfl) (by kernel_rfl) (fun _ _ d _ _ h => by cases d <;> exact h) rfl ?_
                              refine Phase.g_alone rfl (Phase.p_nil ?_)
                              iterate 17 (refine Phase.q_step rfl (fun K hK => ?_); go_simp; refine hK _ ?_; clear hK K)
                              refine Phase.q_nil ?_
                              rintro _ rfl K hK
                              go_simp
                              obtain ⟨w3, hw3⟩ : ∃ w3, (wr.setCell ⟨gn, q, none⟩ (.int .i64 (t : Int))).drew = w3 := ⟨_, rfl⟩
                              rw [hw3] at AN2 GN2
                              refine hK _ _ ⟨fun W => W = w3, hw3, ?_⟩
                              clear hK K hw3 cn fn cyi cxj wS wP wij wq wpr
                              refine Phase.g_nil ?_
                              intro wz hz
                              rw [show wz = w3 from hz]
                              clear hz
                              go_wp2
                              go_roundw
                              case rel => exact ⟨j + 1, prodS nx y X i j, by omega, by go_num, HSm2.out, HNm2.out, AN2.out, GN2.out⟩
                              case measure => simp [intOf]; omega
                            · have ct5 : decide ((i : Int) + (j : Int) < 10) = false := decide_eq_false (by omega)
                              obtain ⟨y5, hy5⟩ : ∃ y5, 5 * yi = y5 := ⟨_, rfl⟩
                              obtain ⟨p5, hp5⟩ : ∃ p5, y5 * xj = p5 := ⟨_, rfl⟩
                              have hp5m : p5 ≤ 335462405 := by rw [← hp5, ← hy5, Nat.mul_assoc, hpr]; omega
                              have hy5I : (5 : Int) * (yi : Int) = (y5 : Int) := by omega
                              have hp5I : (y5 : Int) * (xj : Int) = (p5 : Int) := by rw [← hp5, Int.natCast_mul]
                              have hps : prodS nx y X i j = nx.set (i + j - 10) (nx.getD (i + j - 10) 0 + p5) := by unfold prodS; rw [if_neg hij, hyi, hxj, hy5, hp5]
                              obtain ⟨q1, hq1⟩ : ∃ q1, i + j = q1 := ⟨_, rfl⟩
                              have hq1I : (i : Int) + (j : Int) = (q1 : Int) := by omega
                              rw [hq1] at hps wij
                              obtain ⟨q, hq⟩ : ∃ q, q1 - 10 = q := ⟨_, rfl⟩
                              have hqI : (q1 : Int) - 10 = (q : Int) := by omega
                              rw [hq] at hps
                              have cn := HAn.out.cell q
                              rw [ic_getD _ q (by omega)] at cn
                              have fn := HAn.out.frozen q
                              have hb1 := hbound q (by omega)
                              obtain ⟨nq, hnq⟩ : ∃ nq, nx.getD q 0 = nq := ⟨_, rfl⟩
                              rw [hnq] at cn hps hb1
                              obtain ⟨t, ht⟩ : ∃ t, nq + p5 = t := ⟨_, rfl⟩
                              rw [ht] at hps
                              have wP : IntKind.i64.wrap ((5 : Int) * (yi : Int)) = (y5 : Int) := by rw [hy5I, IntWalk.i64_in _ (by omega)]
                              have wP2 : IntKind.i64.wrap ((y5 : Int) * (xj : Int)) = (p5 : Int) := by rw [hp5I, IntWalk.i64_in _ (by omega)]
                              have wS : IntKind.i64.wrap ((nq : Int) + (p5 : Int)) = (t : Int) := by rw [IntWalk.i64_in _ (by omega)]; omega
                              have a2 := (HAn.out.set q (.int .i64 (t : Int))).drew
                              rw [ic_set, ← hps] at a2
                              have AN2 := Lib.hid a2
                              have GN2 := Lib.hid (grownTrans HGN.out (grownTrans (grownSet wr gn q (.int .i64 (t : Int))) (grownDrew _ (some gn))))
                              have iq : (q : Int) < 11 := by omega
                              have iq10 : decide ((q1 : Int) < 10) = false := decide_eq_false (by omega)
                              have wq : IntKind.i64.wrap (q : Int) = (q : Int) := IntWalk.i64_in _ (by omega)
                              have wpr : IntKind.i64.wrap (p5 : Int) = (p5 : Int) := IntWalk.i64_in _ (by omega)
                              have wy5 : IntKind.i64.wrap (y5 : Int) = (y5 : Int) := IntWalk.i64_in _ (by omega)
                              have wq1 : IntKind.i64.wrap (q1 : Int) = (q1 : Int) := IntWalk.i64_in _ (by omega)
                              have wq2 : IntKind.i64.wrap ((q1 : Int) - 10) = (q : Int) := by rw [hqI]; exact wq
                              clear a2 hps hq hq1 hy5 hp5 hnq ht hbound hyi hxj hpr hnl hys hxs hpm hb1
                              go_upto_region 32 with (fail)
                              refine Phase.wp_region_phases [([], [0, 1, 2, 3, 4, 5, 6, 7, 8, 9, 10, 11, 12, 13, 14, 15, 16, 17, 18], some 19)] (fun W => W = wr.drew) (by kernel_rfl) (by kernel_rfl) (fun _ _ d _ _ h => by cases d <;> exact h) rfl ?_
                              refine Phase.g_alone rfl (Phase.p_nil ?_)
                              iterate 19 (refine Phase.q_step rfl (fun K hK => ?_); go_simp; refine hK _ ?_; clear hK K)
                              refine Phase.q_nil ?_
                              rintro _ rfl K hK
                              go_simp
                              obtain ⟨w3, hw3⟩ : ∃ w3, (wr.setCell ⟨gn, q, none⟩ (.int .i64 (t : Int))).drew = w3 := ⟨_, rfl⟩
                              rw [hw3] at AN2 GN2
                              refine hK _ _ ⟨fun W => W = w3, hw3, ?_⟩
                              clear hK K hw3 cn fn cyi cxj wS wP wij wq wpr wP2 wy5 wq1 wq2
                              refine Phase.g_nil ?_
                              intro wz hz
                              rw [show wz = w3 from hz]
                              clear hz
                              go_wp2
                              go_roundw
                              case rel => exact ⟨j + 1, prodS nx y X i j, by omega, by go_num, HSm2.out, HNm2.out, AN2.out, GN2.out⟩
                              case measure => simp [intOf]; omega
                          · obtain rfl : j = 10 := by omega
                            have ct4 : decide (((10 : Nat) : Int) < 10) = false := rfl
                            have HSm2 : Hid (Small nx (10 * (i + 1))) := Lib.hid (by have h := HSm.out; rwa [show 10 * i + 10 = 10 * (i + 1) by omega] at h)
                            have HNm2 := Lib.hid (HNm.out.trans (by rw [madeS_row y X i HDy.out.1 hlt3]))
                            clear hlt4 hj
                            go_wp2
                            go_roundw
                            case rel => exact ⟨i + 1, nx, by omega, by go_num, HSm2.out, HNm2.out, HAn.out, HGN.out⟩
                            case measure => simp [intOf]; omega
                      · obtain rfl : i = 10 := by omega
                        have ct3 : decide (((10 : Nat) : Int) < 10) = false := rfl
                        clear hlt3 hi
                        have hca := carry_any gn nx wr (HSm.out.start (by decide)) HAn.out
                        have HCa := Lib.hid hca
                        have HNf := Lib.hid (HNm.out.trans (by rw [madeS_all y X HDy.out HXl.out]))
                        have HGnW := Lib.hid (Nat.le_trans HGy.out (Nat.le_of_lt HGn.out.1))
                        have X9 := Lib.hid (X8.out.trans (grownBelow HGN.out HGnW.out X8.out.size))
                        have HX9 := Lib.hid (arr_grown HX7.out HGN.out (by have := HLx.out; have := HGn.out; have := HGy.out; omega))
                        clear hca HSm HNm HAn HGN HX7 HN7 X8
                        go_wp2_with fail
                        refine HCa.out.mono ?_
                        clear HCa
                        rintro e W8 ⟨rfl, a', hda', hma', aa', ga8⟩
                        have HAcc := Lib.hid (acc_step r b n a y a' HR128.out blk (by rw [hk]; exact HBlk.out) HBll16.out HAc.out HDa.out.1 (by rw [HZb.out, HY.out]; exact HMy.out) (by rw [HXe.out]; exact hma'.trans HNf.out))
                        have HDa' := Lib.hid hda'
                        have HA' := Lib.hid aa'
                        have X10 := Lib.hid (X9.out.trans (grownBelow ga8 HGnW.out X9.out.size))
                        have HX10 := Lib.hid (arr_grown HX9.out ga8 (by have := HLx.out; have := HGn.out; have := HGy.out; omega))
                        clear hda' hma' aa' ga8 HNf X9 HX9 HY7
                        go_wp2
                        go_roundw
                        case rel => exact ⟨n + 1, gn, a', by go_num, by omega, rfl, by have := HLx.out; have := HGn.out; have := HGy.out; omega, Nat.le_trans HBv.out.size HGnW.out, HBv.out.trans (X10.out.mono HBv.out.size), HX10.out, HA'.out, HDa'.out, HAcc.out⟩
                        case measure => simp [intOf]; omega
              · have ct : decide ((k : Int) < (b.length : Int)) = false := decide_eq_false (by omega)
                have ct' : decide (k < b.length) = false := decide_eq_false hlt
                have HN := Lib.hid (show n = (b.length + 15) / 16 by omega)
                have HAc2 : Hid (num a % pp = accS r b ((b.length + 15) / 16)) := Lib.hid (by rw [← HN.out]; exact HAc.out)
                have HKey := Lib.hid (show r = lev (clamp key) by rw [clamp_eq key (by rw [HKl.out]; decide), HK.out, HK4e.out, HKK.out]; exact HRe.out.symm)
                clear hlt HX HXl HXe HR128 HAc HN
                have hr0 := NRow.empty wr.heap.size wr (Nat.le_refl _)
                have hb0 := (Below.refl wr.heap.size wr).alloc (Nat.le_refl _) (.cells #[] 3)
                obtain ⟨W1, hW1⟩ : ∃ W1, wr.alloc (.cells #[] 3) = W1 := ⟨_, rfl⟩
                have HW1 := Lib.hid hW1
                rw [hW1] at hr0 hb0
                have ha1 := HAr.out.below hb0 HAr.out.lt
                obtain ⟨gc, cc, W2, hrun, hcc, rc, b2⟩ := run_copy hr0 57 ga2 a 11 11 HDa.out.1 (by decide) (by decide) (fun j hj => by rw [ha1.cell, ic_getD a j (by rw [HDa.out.1]; exact hj)]) hb0.size
                have X2 := Lib.hid (hb0.trans b2)
                have RC := Lib.hid rc
                have HRun := Lib.hid hrun
                have hcc2 : 11 ≤ cc := hcc
                clear hr0 hb0 hW1 ha1 hrun rc b2 hcc
                obtain ⟨gc', e, -, -, hgcB, hgcl, hcells, hfz⟩ := RC.out.place (by rw [HDa.out.1]; decide)
                cases e
                have c0 := hcells 0 (by rw [HDa.out.1]; decide)
                have f0 := hfz 0
                have h0 := HDa.out.2.1 0 (by decide)
                have R3 := RC.out.set HDa.out.1 0 (a.getD 0 0 + 5)
                have HAt := Lib.hid (AtF.start HDa.out)
                have HNs := Lib.hid (start_num HDa.out)
                obtain ⟨a0, ha0⟩ : ∃ a0, a.getD 0 0 = a0 := ⟨_, rfl⟩
                rw [ha0] at c0 h0 R3 HAt HNs
                obtain ⟨t0, ht0⟩ : ∃ t0, a0 + 5 = t0 := ⟨_, rfl⟩
                have e0 : (a0 : Int) + 5 = (t0 : Int) := by omega
                have w0 : wrap64 (t0 : Int) = (t0 : Int) := IntWalk.wrap64_in _ (by omega)
                rw [ht0] at R3 HAt HNs
                have G3 := grownSet W2 gc 0 (.int .i64 (t0 : Int))
                have HAr2 := Lib.hid (HAr.out.below X2.out HAr.out.lt)
                have HLg := Lib.hid (show wr.heap.size ≤ gc ∧ gc < W2.heap.size ∧ ga2 < wr.heap.size from ⟨hgcB, hgcl, HAr.out.lt⟩)
                obtain ⟨W3, hW3⟩ : ∃ W3, W2.setCell ⟨gc, 0, none⟩ (.int .i64 (t0 : Int)) = W3 := ⟨_, rfl⟩
                rw [hW3] at R3 G3
                have HR3 := Lib.hid R3
                have HG3 := Lib.hid G3
                have HW3 := Lib.hid hW3
                clear hcells hfz R3 G3 hgcB hgcl ha0 ht0 h0 HAr RC hW3
                go_upto_region 38 with (at_builtin; rw [HW1.out]; refine Lib.wpList_append_run _ rfl _ _ _ _ rfl _ _ rfl rfl _ _ HRun.out ?_; go_simp)
                rw [HW3.out]
                clear HW3 c0 f0 e0 w0 HW1 HRun
                go_wp2
                go_loopw [157] (fun vi wx => ∃ (j : Nat) (C : List Nat), j ≤ 10 ∧ vi = .int .i64 (j : Int) ∧ AtF C j ∧ num C = num a + 5 ∧ NRow wr.heap.size wx (.slice (some ⟨gc, 0, none⟩) 11 cc) C ∧ W2.grownBy wx (some gc)) (fun vi _ => 10 - (intOf vi).toNat)
                case atStart => exact ⟨0, _, by omega, rfl, HAt.out, HNs.out, HR3.out, HG3.out⟩
                case round =>
                  clear HR3 HG3 HAt HNs
                  obtain ⟨j, C, hj, rfl, hat, hnc, hrc, hgc⟩ := hrel
                  have HAt := Lib.hid hat
                  have HNc := Lib.hid hnc
                  have HRc := Lib.hid hrc
                  have HGc := Lib.hid hgc
                  clear hat hnc hrc hgc
                  by_cases hlt5 : j < 10
                  · have ct5 : decide ((j : Int) < 10) = true := decide_eq_true (by omega)
                    obtain ⟨gc', e, -, -, hgcB, hgcl, hcells, hfz⟩ := HRc.out.place (by rw [HAt.out.1]; decide)
                    cases e
                    have cj := hcells j (by rw [HAt.out.1]; omega)
                    have cq := hcells (j + 1) (by rw [HAt.out.1]; omega)
                    have fq := hfz (j + 1)
                    have h1 := HAt.out.2.2.1
                    have h2 := HAt.out.2.2.2 (j + 1) (by omega) (by omega)
                    have R4 := HRc.out.set HAt.out.1 (j + 1) (C.getD (j + 1) 0 + C.getD j 0 / 8192)
                    have R5 := R4.drew.set (by rw [List.length_set]; exact HAt.out.1) j (C.getD j 0 % 8192)
                    have HAt2 := Lib.hid (AtF.step HAt.out hlt5)
                    have HNc2 := Lib.hid ((stepF_num C j HAt.out.1 hlt5).trans HNc.out)
                    rw [show (C.set (j + 1) (C.getD (j + 1) 0 + C.getD j 0 / 8192)).set j (C.getD j 0 % 8192) = stepF C j from rfl] at R5
                    obtain ⟨_, e, -, -, -, -, hcells4, hfz4⟩ := R4.drew.place (by rw [List.length_set, HAt.out.1]; decide)
                    cases e
                    have cj4 := hcells4 j (by rw [List.length_set, HAt.out.1]; omega)
                    rw [OneM.getD_set_ne _ _ _ _ (by omega)] at cj4
                    have fj4 := hfz4 j
                    obtain ⟨x, hx⟩ : ∃ x, C.getD j 0 = x := ⟨_, rfl⟩
                    obtain ⟨y, hy⟩ : ∃ y, C.getD (j + 1) 0 = y := ⟨_, rfl⟩
                    rw [hx] at cj h1 R4 R5 cj4 fj4
                    rw [hy] at cq h2 R4 R5 cj4 fj4
                    obtain ⟨q, hq⟩ : ∃ q, j + 1 = q := ⟨_, rfl⟩
                    rw [hq] at cq fq R4 R5 cj4 fj4
                    obtain ⟨o, ho⟩ : ∃ o, x / 8192 = o := ⟨_, rfl⟩
                    obtain ⟨m, hm⟩ : ∃ m, x % 8192 = m := ⟨_, rfl⟩
                    rw [ho] at R4 R5 cj4 fj4
                    rw [hm] at R5
                    obtain ⟨t, ht⟩ : ∃ t, y + o = t := ⟨_, rfl⟩
                    rw [ht] at R4 R5 cj4 fj4
                    have q1 : (x : Int) / 8192 = (o : Int) := by omega
                    have q2 : (x : Int) / 2 ^ 13 = (o : Int) := by
                      have h2 : (2 : Int) ^ 13 = 8192 := by decide
                      rw [h2]
                      exact q1
                    have m1 : (x : Int).tmod 8192 = (m : Int) := by rw [Int.tmod_eq_emod_of_nonneg (by omega)]; omega
                    have m2 : (x : Int) % 8192 = (m : Int) := by omega
                    have wq : IntKind.i64.wrap ((j : Int) + 1) = (q : Int) := by rw [IntWalk.i64_in _ (by omega)]; omega
                    have wt : IntKind.i64.wrap ((y : Int) + (o : Int)) = (t : Int) := by rw [IntWalk.i64_in _ (by omega)]; omega
                    have ij : (j : Int) < 11 := by omega
                    have iq : (q : Int) < 11 := by omega
                    have G4 := grownTrans HGc.out (grownTrans (grownSet _ gc q (.int .i64 (t : Int))) (grownDrew _ (some gc)))
                    have G5 := grownTrans G4 (grownSet _ gc j (.int .i64 (m : Int)))
                    have HR5 := Lib.hid R5
                    have HG5x := Lib.hid G5
                    clear R4 R5 G4 G5 hx hy hq ho hm ht h1 h2 hcells hfz hcells4 hfz4 hgcB hgcl
                    go_upto_region 41 with (fail)
                    refine Phase.wp_region_phases [([], [0, 1, 2, 3, 4, 5, 6, 7, 8, 9, 10, 11], some 12)] (fun W => W = wr.drew) (by kernel_rfl) (by kernel_rfl) (fun _ _ d _ _ h => by cases d <;> exact h) rfl ?_
                    refine Phase.g_alone rfl (Phase.p_nil ?_)
                    iterate 12 (refine Phase.q_step rfl (fun K hK => ?_); go_simp; refine hK _ ?_; clear hK K)
                    refine Phase.q_nil ?_
                    rintro _ rfl K hK
                    go_simp
                    obtain ⟨w3, hw3⟩ : ∃ w3, (wr.setCell ⟨gc, q, none⟩ (.int .i64 (t : Int))).drew = w3 := ⟨_, rfl⟩
                    rw [hw3] at HR5 HG5x cj4 fj4
                    refine hK _ _ ⟨fun W => W = w3, hw3, ?_⟩
                    clear hK K hw3 cj cq fq wt wq
                    refine Phase.g_nil ?_
                    intro wz hz
                    rw [show wz = w3 from hz]
                    clear hz
                    go_wp2
                    go_roundw
                    case rel => exact ⟨j + 1, stepF C j, by omega, by go_num, HAt2.out, HNc2.out, HR5.out, HG5x.out⟩
                    case measure => simp [intOf]; omega
                  · obtain rfl : j = 10 := by omega
                    have ct5 : decide (((10 : Nat) : Int) < 10) = false := rfl
                    clear hlt5 hj
                    obtain ⟨gc', e, -, -, hgcB, hgcl, hcells, hfz⟩ := HRc.out.place (by rw [HAt.out.1]; decide)
                    cases e
                    have hls := lastS_num a C HDa.out HAt.out.1 HAt.out.2.1 HNc.out
                    have HF := Lib.hid hls
                    have HCl := Lib.hid HAt.out.1
                    have XF := Lib.hid (HBv.out.trans ((X2.out.trans (grownBelow HGc.out HLg.out.1 X2.out.size)).mono HBv.out.size))
                    have haF := arr_grown HAr2.out HGc.out (by have := HLg.out; omega)
                    have HaF := Lib.hid haF
                    have c10 := hcells 10 (by rw [HAt.out.1]; decide)
                    have HCc := Lib.hid (fun k (hk : k < 11) => hcells k (by rw [HAt.out.1]; exact hk))
                    have HGcl := Lib.hid hgcl
                    obtain ⟨x10, hx10⟩ : ∃ x, C.getD 10 0 = x := ⟨_, rfl⟩
                    rw [hx10] at c10
                    have HX10 := Lib.hid hx10
                    clear hls haF hcells hfz hgcB hgcl hx10 HAt HRc HGc HAr2 HNc
                    obtain ⟨F, hFe⟩ : ∃ F, (if 0 < C.getD 10 0 then C.take 10 ++ [0] else a) = F := ⟨_, rfl⟩
                    have HFe := Lib.hid hFe
                    rw [show lastS a C = F from hFe] at HF
                    obtain ⟨Y2, hY2⟩ : ∃ Y2, lev ((key.drop 16).take 16) = Y2 := ⟨_, rfl⟩
                    have HY2 := Lib.hid hY2
                    obtain ⟨S, hS⟩ : ∃ S, num F + Y2 = S := ⟨_, rfl⟩
                    have HS := Lib.hid hS
                    have HTag := Lib.hid (show tagS key b = le16 S by rw [tagS, hY2, ← HKey.out, ← HAc2.out, ← hS, HF.out.1])
                    clear hFe hY2 hS
                    by_cases h10 : 0 < x10
                    · have ct6 : decide ((x10 : Int) > 0) = true := decide_eq_true (by omega)
                      have ct6' : decide (0 < x10) = true := decide_eq_true h10
                      have hFe := HFe.out
                      rw [HX10.out, if_pos h10] at hFe
                      have hc10 : (10 : Int) ≤ (cc : Int) := by omega
                      have b4 := (Below.refl wr.heap.size wr).alloc (Nat.le_refl _) (.cells #[.int .i64 0] 3)
                      have n4 := CellsW.new_cell wr (.int .i64 0) 3
                      obtain ⟨W4, hW4⟩ : ∃ W4, wr.alloc (.cells #[.int .i64 0] 3) = W4 := ⟨_, rfl⟩
                      have HW4 := Lib.hid hW4
                      rw [hW4] at b4 n4
                      obtain ⟨gf, cf, Vz, hrun, hcf, rf, b5⟩ := run_cut W4 57 gc (C.take 10) 10 (by rw [List.length_take, HCl.out]; rfl) (by decide) (by decide) (fun k hk => by
                        rw [List.getD_eq_getElem?_getD, List.getElem?_take, if_pos hk, ← List.getD_eq_getElem?_getD]
                        exact (b4.cell (p := ⟨gc, k, none⟩) HGcl.out).trans (HCc.out k (by omega))) ⟨wr.heap.size, 0, none⟩ 0 n4
                      have HRun := Lib.hid hrun
                      rw [hFe] at rf
                      have XV := Lib.hid (XF.out.trans ((b4.trans (b5.mono b4.size)).mono XF.out.size))
                      obtain ⟨gf', e, -, -, -, hgfl, hcells, -⟩ := rf.place (by rw [HF.out.2.1]; decide)
                      cases e
                      have HgV := Lib.hid hgfl
                      have HcF := Lib.hid (fun k (hk : k < 11) => hcells k (by rw [HF.out.2.1]; exact hk))
                      clear hrun hcf rf b5 b4 n4 hW4 hcells hgfl hFe h10 HCc HGcl HCl XF HaF HX10
                      go_upto_region 46 with (at_builtin; rw [HW4.out]; refine Lib.wpList_append_run _ rfl _ _ _ _ rfl _ _ rfl rfl _ _ HRun.out ?_; go_simp)
                      clear HW4 HRun
                      go_upto_region 47 with (fail)
                      generalize hW9 : World.alloc _ _ = W9
                      obtain ⟨q9, b9, z9'⟩ := start1 hW9
                      clear hW9
                      obtain ⟨go, hgo⟩ : ∃ g, Vz.heap.size = g := ⟨_, rfl⟩
                      have X9 := Lib.hid (XV.out.trans (b9.mono XV.out.size))
                      have HF9 := Lib.hid (fun k (hk : k < 11) => (b9.cell (p := ⟨gf, k, none⟩) HgV.out).trans (HcF.out k hk))
                      have HGo := Lib.hid (show W.heap.size ≤ go ∧ gf < go ∧ W9.heap.size = go + 1 by have := XV.out.size; have := HgV.out; omega)
                      rw [hgo] at q9 ⊢
                      have HQ9 : Hid (Arr W9 go 33 (Lib.byteCells (outS S 0))) := Lib.hid (by rw [outS_zero]; exact q9)
                      clear q9 b9 hgo z9' HcF XV HgV
                      go_wp2
                      go_loopw [21, 187] (fun vc vi wr => ∃ k : Nat, k ≤ 16 ∧ vi = .int .i64 (k : Int) ∧ vc = .int .i64 ((carryS (num F) Y2 k : Nat) : Int) ∧ Arr wr go 33 (Lib.byteCells (outS S k)) ∧ W9.grownBy wr (some go)) (fun _ vi _ => 16 - (intOf vi).toNat)
                      case atStart => exact ⟨0, by omega, rfl, by rw [carry_zero]; rfl, HQ9.out, grownRefl _ _⟩
                      case round =>
                        clear HQ9
                        obtain ⟨k, hk, rfl, rfl, hao, hgo⟩ := hrel
                        have HAo := Lib.hid hao
                        have HGO := Lib.hid hgo
                        clear hao hgo
                        by_cases hlt6 : k < 16
                        · have ct7 : decide ((k : Int) < 16) = true := decide_eq_true (by omega)
                          have hsl : ((key.drop 16).take 16).length = 16 := by rw [List.length_take, List.length_drop, HKl.out]; rfl
                          obtain ⟨ad, hadA, hadb, hcell⟩ := HA.out.at_ (k := 16 + k) (by rw [HKl.out]; omega)
                          have hbA : Below w.heap.size w wr := ((X0.out.trans ((X9.out.trans (grownBelow HGO.out HGo.out.1 X9.out.size)).mono X0.out.size)))
                          have ckey := (hbA.cell (p := ad.add (16 + k)) (by rw [add_block]; exact hadb)).trans hcell
                          have hby := lev_byte ((key.drop 16).take 16) k (by rw [hsl]; exact hlt6)
                          rw [HY2.out] at hby
                          have hkb : ((key.drop 16).take 16)[k]'(by rw [hsl]; exact hlt6) = key[16 + k]'(by rw [HKl.out]; omega) := by simp
                          rw [hkb] at hby
                          obtain ⟨kb, hkbe⟩ : ∃ kb, (key[16 + k]'(by rw [HKl.out]; omega)).toNat = kb := ⟨_, rfl⟩
                          rw [hkbe] at hby ckey
                          have hkb8 : kb < 256 := by rw [← hkbe]; exact UInt8.toNat_lt _
                          obtain ⟨hc1, hc2⟩ := carry_step (num F) Y2 k
                          rw [hby, HS.out] at hc1
                          rw [hby] at hc2
                          have hcy1 := carry_le (num F) Y2 k
                          obtain ⟨cy, hcy⟩ : ∃ cy, carryS (num F) Y2 k = cy := ⟨_, rfl⟩
                          rw [hcy] at hc1 hc2 hcy1 ⊢
                          obtain ⟨v0, hv0⟩ : ∃ v0, cy + kb = v0 := ⟨_, rfl⟩
                          have hv0l : v0 ≤ 256 := by omega
                          have ev0 : (cy : Int) + (kb : Int) = (v0 : Int) := by omega
                          rw [hv0] at hc1 hc2
                          have HC1 := Lib.hid hc1
                          have HC2 := Lib.hid hc2
                          obtain ⟨k16, hk16⟩ : ∃ k16, 16 + k = k16 := ⟨_, rfl⟩
                          have ek16 : (16 : Int) + (k : Int) = (k16 : Int) := by omega
                          have ik16 : (k16 : Int) < 32 := by omega
                          have ikc : (k16 : Int) < (c : Int) := by omega
                          rw [hk16] at ckey
                          have HAd := Lib.hid hadA
                          clear hc1 hc2 hcy hby hkb hkbe hcell hadb hv0 hk16 hsl hbA hadA
                          obtain ⟨ad', hadA⟩ : ∃ ad', A = some ad' := ⟨ad, HAd.out⟩
                          subst hadA
                          obtain rfl : ad' = ad := by have := HAd.out; cases this; rfl
                          clear HAd
                          have HFk := Lib.hid (fun m (hm : m < 11) => (World.cell?_of_block (a := ⟨gf, m, none⟩) (HGO.out.block gf (by have := HGo.out; omega) (fun e => by have := HGo.out; cases e; omega))).trans (HF9.out m hm))
                          go_wp2
                          go_loop [23, 198] (fun vv vi => ∃ i : Nat, i ≤ 8 ∧ vi = .int .i64 (i : Int) ∧ vv = .int .i64 ((v0 + num F / 256 ^ k % 2 ^ i : Nat) : Int)) (fun _ vi => 8 - (intOf vi).toNat)
                          case atStart => exact ⟨0, by omega, rfl, by simp [Nat.mod_one]⟩
                          case round =>
                            obtain ⟨i, hi, rfl, rfl⟩ := hrel
                            by_cases hlt7 : i < 8
                            · have ct8 : decide ((i : Int) < 8) = true := decide_eq_true (by omega)
                              have hbs := bits_step (num F) k i
                              obtain ⟨t, ht⟩ : ∃ t, 8 * k + i = t := ⟨_, rfl⟩
                              have hnb := num_bit F t (fun m hm => HF.out.2.2.1 m (by omega))
                              rw [ht, hnb] at hbs
                              obtain ⟨j, hj⟩ : ∃ j, t / 13 = j := ⟨_, rfl⟩
                              obtain ⟨r, hr⟩ : ∃ r, t % 13 = r := ⟨_, rfl⟩
                              have cf9 := HFk.out j (by omega)
                              have hfl := HF.out.2.2.1 j (by omega)
                              rw [hj, hr] at hbs
                              obtain ⟨f, hf⟩ : ∃ f, F.getD j 0 = f := ⟨_, rfl⟩
                              rw [hf] at cf9 hfl hbs
                              obtain ⟨f2, hf2⟩ : ∃ f2, f / 2 ^ r = f2 := ⟨_, rfl⟩
                              have hf2l : f2 < 8192 := by rw [← hf2]; exact Nat.lt_of_le_of_lt (Nat.div_le_self _ _) hfl
                              have a1 := Bits.and1_i64 f2 (by omega)
                              rw [hf2] at hbs
                              obtain ⟨β, hβ⟩ : ∃ β, f2 % 2 = β := ⟨_, rfl⟩
                              have hβ2 : β < 2 := by rw [← hβ]; exact Nat.mod_lt _ (by decide)
                              rw [hβ] at hbs a1
                              have hi2 : 2 ^ i ≤ 128 := by rw [show (128 : Nat) = 2 ^ 7 by decide]; exact Nat.pow_le_pow_right (by decide) (by omega)
                              have hm256 : num F / 256 ^ k % 2 ^ i < 2 ^ i := Nat.mod_lt _ (Nat.two_pow_pos i)
                              have HBs := Lib.hid hbs
                              obtain ⟨u, hu⟩ : ∃ u, v0 + num F / 256 ^ k % 2 ^ i = u := ⟨_, rfl⟩
                              have hul : u ≤ 512 := by omega
                              obtain ⟨P, hP⟩ : ∃ P, 2 ^ i = P := ⟨_, rfl⟩
                              rw [hP] at hi2
                              obtain ⟨bp, hbp⟩ : ∃ bp, β * P = bp := ⟨_, rfl⟩
                              have hbpl : bp ≤ 128 := by rw [← hbp]; exact Nat.le_trans (Nat.mul_le_mul (show β ≤ 1 by omega) hi2) (by decide)
                              obtain ⟨u2, hu2⟩ : ∃ u2, u + bp = u2 := ⟨_, rfl⟩
                              have HU2 := Lib.hid (show v0 + num F / 256 ^ k % 2 ^ (i + 1) = u2 by rw [HBs.out, ← hu2, ← hu, ← hbp, ← hP, Nat.add_assoc])
                              obtain ⟨k8, hk8⟩ : ∃ k8, 8 * k = k8 := ⟨_, rfl⟩
                              have e8 : (8 : Int) * (k : Int) = (k8 : Int) := by omega
                              have e9 : (k8 : Int) + (i : Int) = (t : Int) := by omega
                              have d1 : (t : Int).tdiv 13 = (j : Int) := by rw [Int.tdiv_eq_ediv_of_nonneg (by omega)]; omega
                              have d2 : (t : Int) / 13 = (j : Int) := by omega
                              have m1 : (t : Int).tmod 13 = (r : Int) := by rw [Int.tmod_eq_emod_of_nonneg (by omega)]; omega
                              have m2 : (t : Int) % 13 = (r : Int) := by omega
                              have s1 : (f : Int) / 2 ^ r = (f2 : Int) := by rw [← hf2, Int.natCast_ediv, Int.natCast_pow]; rfl
                              have s2 : (f : Int) / 2 ^ (min r 64) = (f2 : Int) := by rw [Nat.min_eq_left (by omega)]; exact s1
                              have p1 : (β : Int) * 2 ^ i = (bp : Int) := by rw [← hbp, ← hP, Int.natCast_mul, Int.natCast_pow]; rfl
                              have eu : (u : Int) + (bp : Int) = (u2 : Int) := by omega
                              have ij : (j : Int) < 11 := by omega
                              have ik : (t : Int) < 128 := by omega
                              rw [hu]
                              clear ht hnb hj hr hf hf2 hβ hbs hm256 hu hP hbp hu2 hk8
                              go_wp2
                              go_round
                              case rel => exact ⟨i + 1, by omega, by go_num, by rw [HU2.out]⟩
                              case measure => simp [intOf]; omega
                            · obtain rfl : i = 8 := by omega
                              have ct8 : decide (((8 : Nat) : Int) < 8) = false := rfl
                              have e256 : num F / 256 ^ k % 2 ^ 8 = num F / 256 ^ k % 256 := rfl
                              rw [e256]
                              obtain ⟨v, hv⟩ : ∃ v, v0 + num F / 256 ^ k % 256 = v := ⟨_, rfl⟩
                              have hC1 := HC1.out
                              have hC2 := HC2.out
                              rw [hv] at hC1 hC2
                              have hvl : v ≤ 600 := by have := Nat.mod_lt (num F / 256 ^ k) (show 0 < 256 by decide); omega
                              rw [hv]
                              have hst := HAo.out.set k (.int .u8 ((UInt8.ofNat (S / 256 ^ k)).toNat : Int))
                              have hcs : (Lib.byteCells (outS S k)).set k (.int .u8 ((UInt8.ofNat (S / 256 ^ k)).toNat : Int)) = Lib.byteCells (outS S (k + 1)) := by
                                rw [← outS_set S k hlt6]
                                simp [Lib.byteCells, List.map_set]
                              rw [hcs] at hst
                              have eb : ((UInt8.ofNat (S / 256 ^ k)).toNat : Int) = ((v % 256 : Nat) : Int) := by rw [UInt8.toNat_ofNat', ← hC1]
                              rw [eb] at hst
                              have HSt := Lib.hid hst
                              have HGO2 := Lib.hid (grownTrans HGO.out (grownSet wr go k (.int .u8 ((v % 256 : Nat) : Int))))
                              have d1 : (v : Int).tdiv 256 = ((carryS (num F) Y2 (k + 1) : Nat) : Int) := by rw [Int.tdiv_eq_ediv_of_nonneg (by omega), ← hC2]; omega
                              have d2 : (v : Int) / 256 = ((carryS (num F) Y2 (k + 1) : Nat) : Int) := by rw [← hC2]; omega
                              obtain ⟨vb, hvb⟩ : ∃ vb, v % 256 = vb := ⟨_, rfl⟩
                              have m2 : (v : Int) % 256 = (vb : Int) := by omega
                              have fo := HAo.out.frozen k
                              have hko : k < (outS S k).length := by rw [outS_len S k (by omega)]; exact hlt6
                              have co : wr.cell? ⟨go, k, none⟩ = some (.int .u8 (((outS S k)[k]'hko).toNat : Int)) := by rw [HAo.out.cell]; simp [Lib.byteCells, List.getElem?_eq_getElem hko]
                              generalize (((outS S k)[k]'hko).toNat : Int) = old at co
                              have ik16 : (k : Int) < 16 := by omega
                              obtain ⟨cn, hcn⟩ : ∃ cn, carryS (num F) Y2 (k + 1) = cn := ⟨_, rfl⟩
                              have HCn := Lib.hid hcn
                              rw [hcn] at d1 d2
                              rw [hvb] at HSt HGO2
                              clear hv hC1 hC2 hst hcs eb hvb hcn e256
                              go_wp2
                              go_roundw
                              case rel => exact ⟨k + 1, by omega, by go_num, by rw [HCn.out], HSt.out, HGO2.out⟩
                              case measure => simp [intOf]; omega
                        · obtain rfl : k = 16 := by omega
                          have ct7 : decide (((16 : Nat) : Int) < 16) = false := rfl
                          clear hlt6 hk
                          have hao := HAo.out
                          rw [outS_all, ← HTag.out] at hao
                          have HAoF := Lib.hid hao
                          have HTl := Lib.hid (show (Lib.byteCells (tagS key b)).length = 16 by rw [Lib.byteCells_length, tagS_len])
                          have XW := Lib.hid (X9.out.trans (grownBelow HGO.out HGo.out.1 X9.out.size))
                          have A4F := Lib.hid (A4.out.below XW.out A4.out.lt)
                          have XF2 := Lib.hid (X0.out.trans (XW.out.mono X0.out.size))
                          have AF := Lib.hid (A4F.out.row (Lib.byteCells (tagS key b)))
                          have HBF := Lib.hid (below_row XF2.out (Nat.le_refl _) (Lib.byteCells (tagS key b)).toArray)
                          obtain ⟨T, hT⟩ : ∃ T, tagS key b = T := ⟨_, rfl⟩
                          have HTT := Lib.hid hT
                          rw [hT] at HAoF HTl AF HBF
                          clear hao hT
                          go_wp2_with (first | (show wpList _ _ _ (⟨_, Op.load _ _, _, _, _, _⟩ :: _) _ _; refine Arr.loadL HAoF.out rfl 33 (.tmp 20) rfl rfl a16 rfl a16_size HTl.out ?_) | (show wpList _ _ _ (⟨_, Op.store _ _ _, _, _, _, _⟩ :: _) _ _; refine Arr.storeL A4F.out rfl 33 (.tmp 4) (.tmp 228) rfl rfl (Lib.byteCells T) rfl a16_size (by rfl) HTl.out (bytes_one _) ?_))
                          refine bodyPost_ret (v := .agg (Lib.byteCells T).toArray) (by exact AF.out.ret rfl _ rfl a16 rfl a16_size HTl.out) rfl ⟨by rw [HTT.out], HBF.out⟩
                    · have ct6 : decide ((x10 : Int) > 0) = false := decide_eq_false (by omega)
                      have ct6' : decide (0 < x10) = false := decide_eq_false h10
                      have hFe := HFe.out
                      rw [HX10.out, if_neg h10] at hFe
                      have XV := XF
                      have HgV := Lib.hid HaF.out.lt
                      have HcF : Hid (∀ k, k < 11 → wr.cell? ⟨ga2, k, none⟩ = some (.int .i64 ((F.getD k 0 : Nat) : Int))) := Lib.hid (fun k hk => by rw [← hFe]; exact (HaF.out.cell k).trans (ic_getD a k (by rw [HDa.out.1]; exact hk)))
                      clear hFe
                      clear h10 HCc HGcl HCl XF HaF HX10
                      go_upto_region 46 with (fail)
                      go_upto_region 47 with (fail)
                      generalize hW9 : World.alloc _ _ = W9
                      obtain ⟨q9, b9, z9'⟩ := start1 hW9
                      clear hW9
                      obtain ⟨go, hgo⟩ : ∃ g, wr.heap.size = g := ⟨_, rfl⟩
                      have X9 := Lib.hid (XV.out.trans (b9.mono XV.out.size))
                      have HF9 := Lib.hid (fun k (hk : k < 11) => (b9.cell (p := ⟨ga2, k, none⟩) HgV.out).trans (HcF.out k hk))
                      have HGo := Lib.hid (show W.heap.size ≤ go ∧ ga2 < go ∧ W9.heap.size = go + 1 by have := XV.out.size; have := HgV.out; omega)
                      rw [hgo] at q9 ⊢
                      have HQ9 : Hid (Arr W9 go 33 (Lib.byteCells (outS S 0))) := Lib.hid (by rw [outS_zero]; exact q9)
                      clear q9 b9 hgo z9' HcF XV HgV
                      go_wp2
                      go_loopw [21, 187] (fun vc vi wr => ∃ k : Nat, k ≤ 16 ∧ vi = .int .i64 (k : Int) ∧ vc = .int .i64 ((carryS (num F) Y2 k : Nat) : Int) ∧ Arr wr go 33 (Lib.byteCells (outS S k)) ∧ W9.grownBy wr (some go)) (fun _ vi _ => 16 - (intOf vi).toNat)
                      case atStart => exact ⟨0, by omega, rfl, by rw [carry_zero]; rfl, HQ9.out, grownRefl _ _⟩
                      case round =>
                        clear HQ9
                        obtain ⟨k, hk, rfl, rfl, hao, hgo⟩ := hrel
                        have HAo := Lib.hid hao
                        have HGO := Lib.hid hgo
                        clear hao hgo
                        by_cases hlt6 : k < 16
                        · have ct7 : decide ((k : Int) < 16) = true := decide_eq_true (by omega)
                          have hsl : ((key.drop 16).take 16).length = 16 := by rw [List.length_take, List.length_drop, HKl.out]; rfl
                          obtain ⟨ad, hadA, hadb, hcell⟩ := HA.out.at_ (k := 16 + k) (by rw [HKl.out]; omega)
                          have hbA : Below w.heap.size w wr := ((X0.out.trans ((X9.out.trans (grownBelow HGO.out HGo.out.1 X9.out.size)).mono X0.out.size)))
                          have ckey := (hbA.cell (p := ad.add (16 + k)) (by rw [add_block]; exact hadb)).trans hcell
                          have hby := lev_byte ((key.drop 16).take 16) k (by rw [hsl]; exact hlt6)
                          rw [HY2.out] at hby
                          have hkb : ((key.drop 16).take 16)[k]'(by rw [hsl]; exact hlt6) = key[16 + k]'(by rw [HKl.out]; omega) := by simp
                          rw [hkb] at hby
                          obtain ⟨kb, hkbe⟩ : ∃ kb, (key[16 + k]'(by rw [HKl.out]; omega)).toNat = kb := ⟨_, rfl⟩
                          rw [hkbe] at hby ckey
                          have hkb8 : kb < 256 := by rw [← hkbe]; exact UInt8.toNat_lt _
                          obtain ⟨hc1, hc2⟩ := carry_step (num F) Y2 k
                          rw [hby, HS.out] at hc1
                          rw [hby] at hc2
                          have hcy1 := carry_le (num F) Y2 k
                          obtain ⟨cy, hcy⟩ : ∃ cy, carryS (num F) Y2 k = cy := ⟨_, rfl⟩
                          rw [hcy] at hc1 hc2 hcy1 ⊢
                          obtain ⟨v0, hv0⟩ : ∃ v0, cy + kb = v0 := ⟨_, rfl⟩
                          have hv0l : v0 ≤ 256 := by omega
                          have ev0 : (cy : Int) + (kb : Int) = (v0 : Int) := by omega
                          rw [hv0] at hc1 hc2
                          have HC1 := Lib.hid hc1
                          have HC2 := Lib.hid hc2
                          obtain ⟨k16, hk16⟩ : ∃ k16, 16 + k = k16 := ⟨_, rfl⟩
                          have ek16 : (16 : Int) + (k : Int) = (k16 : Int) := by omega
                          have ik16 : (k16 : Int) < 32 := by omega
                          have ikc : (k16 : Int) < (c : Int) := by omega
                          rw [hk16] at ckey
                          have HAd := Lib.hid hadA
                          clear hc1 hc2 hcy hby hkb hkbe hcell hadb hv0 hk16 hsl hbA hadA
                          obtain ⟨ad', hadA⟩ : ∃ ad', A = some ad' := ⟨ad, HAd.out⟩
                          subst hadA
                          obtain rfl : ad' = ad := by have := HAd.out; cases this; rfl
                          clear HAd
                          have HFk := Lib.hid (fun m (hm : m < 11) => (World.cell?_of_block (a := ⟨ga2, m, none⟩) (HGO.out.block ga2 (by have := HGo.out; omega) (fun e => by have := HGo.out; cases e; omega))).trans (HF9.out m hm))
                          go_wp2
                          go_loop [23, 198] (fun vv vi => ∃ i : Nat, i ≤ 8 ∧ vi = .int .i64 (i : Int) ∧ vv = .int .i64 ((v0 + num F / 256 ^ k % 2 ^ i : Nat) : Int)) (fun _ vi => 8 - (intOf vi).toNat)
                          case atStart => exact ⟨0, by omega, rfl, by simp [Nat.mod_one]⟩
                          case round =>
                            obtain ⟨i, hi, rfl, rfl⟩ := hrel
                            by_cases hlt7 : i < 8
                            · have ct8 : decide ((i : Int) < 8) = true := decide_eq_true (by omega)
                              have hbs := bits_step (num F) k i
                              obtain ⟨t, ht⟩ : ∃ t, 8 * k + i = t := ⟨_, rfl⟩
                              have hnb := num_bit F t (fun m hm => HF.out.2.2.1 m (by omega))
                              rw [ht, hnb] at hbs
                              obtain ⟨j, hj⟩ : ∃ j, t / 13 = j := ⟨_, rfl⟩
                              obtain ⟨r, hr⟩ : ∃ r, t % 13 = r := ⟨_, rfl⟩
                              have cf9 := HFk.out j (by omega)
                              have hfl := HF.out.2.2.1 j (by omega)
                              rw [hj, hr] at hbs
                              obtain ⟨f, hf⟩ : ∃ f, F.getD j 0 = f := ⟨_, rfl⟩
                              rw [hf] at cf9 hfl hbs
                              obtain ⟨f2, hf2⟩ : ∃ f2, f / 2 ^ r = f2 := ⟨_, rfl⟩
                              have hf2l : f2 < 8192 := by rw [← hf2]; exact Nat.lt_of_le_of_lt (Nat.div_le_self _ _) hfl
                              have a1 := Bits.and1_i64 f2 (by omega)
                              rw [hf2] at hbs
                              obtain ⟨β, hβ⟩ : ∃ β, f2 % 2 = β := ⟨_, rfl⟩
                              have hβ2 : β < 2 := by rw [← hβ]; exact Nat.mod_lt _ (by decide)
                              rw [hβ] at hbs a1
                              have hi2 : 2 ^ i ≤ 128 := by rw [show (128 : Nat) = 2 ^ 7 by decide]; exact Nat.pow_le_pow_right (by decide) (by omega)
                              have hm256 : num F / 256 ^ k % 2 ^ i < 2 ^ i := Nat.mod_lt _ (Nat.two_pow_pos i)
                              have HBs := Lib.hid hbs
                              obtain ⟨u, hu⟩ : ∃ u, v0 + num F / 256 ^ k % 2 ^ i = u := ⟨_, rfl⟩
                              have hul : u ≤ 512 := by omega
                              obtain ⟨P, hP⟩ : ∃ P, 2 ^ i = P := ⟨_, rfl⟩
                              rw [hP] at hi2
                              obtain ⟨bp, hbp⟩ : ∃ bp, β * P = bp := ⟨_, rfl⟩
                              have hbpl : bp ≤ 128 := by rw [← hbp]; exact Nat.le_trans (Nat.mul_le_mul (show β ≤ 1 by omega) hi2) (by decide)
                              obtain ⟨u2, hu2⟩ : ∃ u2, u + bp = u2 := ⟨_, rfl⟩
                              have HU2 := Lib.hid (show v0 + num F / 256 ^ k % 2 ^ (i + 1) = u2 by rw [HBs.out, ← hu2, ← hu, ← hbp, ← hP, Nat.add_assoc])
                              obtain ⟨k8, hk8⟩ : ∃ k8, 8 * k = k8 := ⟨_, rfl⟩
                              have e8 : (8 : Int) * (k : Int) = (k8 : Int) := by omega
                              have e9 : (k8 : Int) + (i : Int) = (t : Int) := by omega
                              have d1 : (t : Int).tdiv 13 = (j : Int) := by rw [Int.tdiv_eq_ediv_of_nonneg (by omega)]; omega
                              have d2 : (t : Int) / 13 = (j : Int) := by omega
                              have m1 : (t : Int).tmod 13 = (r : Int) := by rw [Int.tmod_eq_emod_of_nonneg (by omega)]; omega
                              have m2 : (t : Int) % 13 = (r : Int) := by omega
                              have s1 : (f : Int) / 2 ^ r = (f2 : Int) := by rw [← hf2, Int.natCast_ediv, Int.natCast_pow]; rfl
                              have s2 : (f : Int) / 2 ^ (min r 64) = (f2 : Int) := by rw [Nat.min_eq_left (by omega)]; exact s1
                              have p1 : (β : Int) * 2 ^ i = (bp : Int) := by rw [← hbp, ← hP, Int.natCast_mul, Int.natCast_pow]; rfl
                              have eu : (u : Int) + (bp : Int) = (u2 : Int) := by omega
                              have ij : (j : Int) < 11 := by omega
                              have ik : (t : Int) < 128 := by omega
                              rw [hu]
                              clear ht hnb hj hr hf hf2 hβ hbs hm256 hu hP hbp hu2 hk8
                              go_wp2
                              go_round
                              case rel => exact ⟨i + 1, by omega, by go_num, by rw [HU2.out]⟩
                              case measure => simp [intOf]; omega
                            · obtain rfl : i = 8 := by omega
                              have ct8 : decide (((8 : Nat) : Int) < 8) = false := rfl
                              have e256 : num F / 256 ^ k % 2 ^ 8 = num F / 256 ^ k % 256 := rfl
                              rw [e256]
                              obtain ⟨v, hv⟩ : ∃ v, v0 + num F / 256 ^ k % 256 = v := ⟨_, rfl⟩
                              have hC1 := HC1.out
                              have hC2 := HC2.out
                              rw [hv] at hC1 hC2
                              have hvl : v ≤ 600 := by have := Nat.mod_lt (num F / 256 ^ k) (show 0 < 256 by decide); omega
                              rw [hv]
                              have hst := HAo.out.set k (.int .u8 ((UInt8.ofNat (S / 256 ^ k)).toNat : Int))
                              have hcs : (Lib.byteCells (outS S k)).set k (.int .u8 ((UInt8.ofNat (S / 256 ^ k)).toNat : Int)) = Lib.byteCells (outS S (k + 1)) := by
                                rw [← outS_set S k hlt6]
                                simp [Lib.byteCells, List.map_set]
                              rw [hcs] at hst
                              have eb : ((UInt8.ofNat (S / 256 ^ k)).toNat : Int) = ((v % 256 : Nat) : Int) := by rw [UInt8.toNat_ofNat', ← hC1]
                              rw [eb] at hst
                              have HSt := Lib.hid hst
                              have HGO2 := Lib.hid (grownTrans HGO.out (grownSet wr go k (.int .u8 ((v % 256 : Nat) : Int))))
                              have d1 : (v : Int).tdiv 256 = ((carryS (num F) Y2 (k + 1) : Nat) : Int) := by rw [Int.tdiv_eq_ediv_of_nonneg (by omega), ← hC2]; omega
                              have d2 : (v : Int) / 256 = ((carryS (num F) Y2 (k + 1) : Nat) : Int) := by rw [← hC2]; omega
                              obtain ⟨vb, hvb⟩ : ∃ vb, v % 256 = vb := ⟨_, rfl⟩
                              have m2 : (v : Int) % 256 = (vb : Int) := by omega
                              have fo := HAo.out.frozen k
                              have hko : k < (outS S k).length := by rw [outS_len S k (by omega)]; exact hlt6
                              have co : wr.cell? ⟨go, k, none⟩ = some (.int .u8 (((outS S k)[k]'hko).toNat : Int)) := by rw [HAo.out.cell]; simp [Lib.byteCells, List.getElem?_eq_getElem hko]
                              generalize (((outS S k)[k]'hko).toNat : Int) = old at co
                              have ik16 : (k : Int) < 16 := by omega
                              obtain ⟨cn, hcn⟩ : ∃ cn, carryS (num F) Y2 (k + 1) = cn := ⟨_, rfl⟩
                              have HCn := Lib.hid hcn
                              rw [hcn] at d1 d2
                              rw [hvb] at HSt HGO2
                              clear hv hC1 hC2 hst hcs eb hvb hcn e256
                              go_wp2
                              go_roundw
                              case rel => exact ⟨k + 1, by omega, by go_num, by rw [HCn.out], HSt.out, HGO2.out⟩
                              case measure => simp [intOf]; omega
                        · obtain rfl : k = 16 := by omega
                          have ct7 : decide (((16 : Nat) : Int) < 16) = false := rfl
                          clear hlt6 hk
                          have hao := HAo.out
                          rw [outS_all, ← HTag.out] at hao
                          have HAoF := Lib.hid hao
                          have HTl := Lib.hid (show (Lib.byteCells (tagS key b)).length = 16 by rw [Lib.byteCells_length, tagS_len])
                          have XW := Lib.hid (X9.out.trans (grownBelow HGO.out HGo.out.1 X9.out.size))
                          have A4F := Lib.hid (A4.out.below XW.out A4.out.lt)
                          have XF2 := Lib.hid (X0.out.trans (XW.out.mono X0.out.size))
                          have AF := Lib.hid (A4F.out.row (Lib.byteCells (tagS key b)))
                          have HBF := Lib.hid (below_row XF2.out (Nat.le_refl _) (Lib.byteCells (tagS key b)).toArray)
                          obtain ⟨T, hT⟩ : ∃ T, tagS key b = T := ⟨_, rfl⟩
                          have HTT := Lib.hid hT
                          rw [hT] at HAoF HTl AF HBF
                          clear hao hT
                          go_wp2_with (first | (show wpList _ _ _ (⟨_, Op.load _ _, _, _, _, _⟩ :: _) _ _; refine Arr.loadL HAoF.out rfl 33 (.tmp 20) rfl rfl a16 rfl a16_size HTl.out ?_) | (show wpList _ _ _ (⟨_, Op.store _ _ _, _, _, _, _⟩ :: _) _ _; refine Arr.storeL A4F.out rfl 33 (.tmp 4) (.tmp 228) rfl rfl (Lib.byteCells T) rfl a16_size (by rfl) HTl.out (bytes_one _) ?_))
                          refine bodyPost_ret (v := .agg (Lib.byteCells T).toArray) (by exact AF.out.ret rfl _ rfl a16 rfl a16_size HTl.out) rfl ⟨by rw [HTT.out], HBF.out⟩
          clear hK13
          have hmk : ∀ V : World, (Instr.makeSlice 57 (.int .i64 11) (.int .i64 11)).run Try.prog V = .ok (.slice (some ⟨V.heap.size, 0, none⟩) 11 11) (V.alloc (.cells (ic (List.replicate 11 0)).toArray 3)) := make11
          have HSr := Lib.hid (show Bs wr wr.heap.size (some ⟨g5, 0, none⟩) K7 by
            have hh := R56.out
            rw [← HK7.out] at hh
            obtain ⟨A9, c9, e9, s9, _⟩ := hh.form2
            cases e9
            exact s9)
          obtain ⟨Z, hZ⟩ : ∃ Z, (ic (List.replicate 11 0)).toArray = Z := ⟨_, rfl⟩
          have HZ := Lib.hid (show ic (List.replicate 11 0) = Z.toList by rw [← hZ])
          rw [hZ] at hmk
          clear hZ R56
          refine wp_region_tree (.read 0 (.fork 1 (.read 3 (.step 2 (.read 4 .done))) 2 (.step 1 (.read 3 (.read 4 .done))))) (fun W => ∃ x : Ab wr, W = x.val) (by kernel_rfl) (by kernel_rfl) (by decide) (fun _ _ d _ _ h => by cases d <;> exact h) (Cl.of (Below.refl _ _).drew) ?_
          have x0 := (Below.refl wr.heap.size wr).drew
          have hab := ab wr
          obtain ⟨V0, hV0⟩ : ∃ x, wr.drew = x := ⟨_, rfl⟩
          rw [hV0] at x0 ⊢
          clear hV0
          refine tree_read rfl (fun K hK => ?_)
          go_simp
          refine hK _ ?_
          clear hK K
          have HDg := Lib.hid (fun (V : World) (x : Below wr.heap.size wr V) => digits_any (some ⟨g5, 0, none⟩) K7 c5 V ((HSr.out.below x).more x.size) (by rw [HK7.out]; decide))
          rw [HK7.out] at HDg
          refine tree_fork rfl rfl (Cl.of x0) (fun K hK => ?_) (fun K hK => ?_)
          · go_simp
            refine (HDg.out V0 x0).mono ?_
            rintro e V1 ⟨rfl, q1, b1⟩
            have x1 := x0.trans (b1.mono x0.size)
            refine hK _ _ ⟨Cl.of x1, ?_⟩
            clear hK K
            refine tree_read rfl (fun K hK => ?_)
            go_simp
            refine hK _ ?_
            clear hK K
            refine tree_step rfl (Cl.of x1) (fun K hK => ?_)
            go_simp
            generalize hV2 : World.alloc _ _ = V2
            obtain ⟨q2, b2, -⟩ := start1 hV2
            rw [← HZ.out] at q2
            have x2 := x1.trans (b2.mono x1.size)
            refine hK _ _ ⟨Cl.of x2, ?_⟩
            clear hK K hV2
            refine tree_read rfl (fun K hK => ?_)
            go_simp
            refine hK _ ?_
            clear hK K
            refine tree_done ?_
            have hlt := q1.lt
            exact H _ _ V2 _ _ _ _ _ _ _ _ _ _ _ _ _ _ _ _ _ _ _ _ _ _ _ _ _ _ _ _ _ _ _ _ _ _ _ _ _ _ _ _ _ _ _ _ _ _ _ _ _ _ _ _ _ _ _ _ _ _ _ _ _ _ _ _ _ _ _ _ _ _ _ _ _ _ _ _ _ _ _ _ _ _ _ _ _ _ _ _ _ _ _ _ _ _ _ _ _ _ _ _ _ _ _ _ _ _ _ _ _ _ _ _ _ _ _ _ _ _ _ _ _ _ _ _ _ _ _ _ _ _ _ _ _ _ _ _ _ _ _ _ _ _ _ _ _ _ _ _ _ _ _ _ _ _ _ _ _ _ _ _ _ _ _ _ _ _ _ _ _ _ _ _ _ _ _ _ _ _ _ _ _ _ _ _ _ _ _ _ _ _ _ _ _ _ _ _ _ _ _ _ _ _ _ _ _ _ _ _ _ _ _ _ _ _ _ _ _ _ _ _ _ _ _ (by omega) (Nat.le_trans X6.out.size x0.size) (Nat.le_trans X6.out.size x1.size) (X6.out.trans (x2.mono X6.out.size)) (q1.below b2 q1.lt) q2
          · go_simp
            generalize hV1 : World.alloc _ _ = V1
            obtain ⟨q1, b1, -⟩ := start1 hV1
            rw [← HZ.out] at q1
            have x1 := x0.trans (b1.mono x0.size)
            refine hK _ _ ⟨Cl.of x1, ?_⟩
            clear hK K hV1
            refine tree_step rfl (Cl.of x1) (fun K hK => ?_)
            go_simp
            refine (HDg.out V1 x1).mono ?_
            rintro e V2 ⟨rfl, q2, b2⟩
            have x2 := x1.trans (b2.mono x1.size)
            refine hK _ _ ⟨Cl.of x2, ?_⟩
            clear hK K
            iterate 2 (refine tree_read rfl (fun K hK => ?_); go_simp; refine hK _ ?_; clear hK K)
            refine tree_done ?_
            have hlt := q1.lt
            exact H _ _ V2 _ _ _ _ _ _ _ _ _ _ _ _ _ _ _ _ _ _ _ _ _ _ _ _ _ _ _ _ _ _ _ _ _ _ _ _ _ _ _ _ _ _ _ _ _ _ _ _ _ _ _ _ _ _ _ _ _ _ _ _ _ _ _ _ _ _ _ _ _ _ _ _ _ _ _ _ _ _ _ _ _ _ _ _ _ _ _ _ _ _ _ _ _ _ _ _ _ _ _ _ _ _ _ _ _ _ _ _ _ _ _ _ _ _ _ _ _ _ _ _ _ _ _ _ _ _ _ _ _ _ _ _ _ _ _ _ _ _ _ _ _ _ _ _ _ _ _ _ _ _ _ _ _ _ _ _ _ _ _ _ _ _ _ _ _ _ _ _ _ _ _ _ _ _ _ _ _ _ _ _ _ _ _ _ _ _ _ _ _ _ _ _ _ _ _ _ _ _ _ _ _ _ _ _ _ _ _ _ _ _ _ _ _ _ _ _ _ _ _ _ _ _ _ (by omega) (Nat.le_trans X6.out.size x1.size) (Nat.le_trans X6.out.size x0.size) (X6.out.trans (x2.mono X6.out.size)) q2 (q1.below b2 q1.lt)
end Go.Proofs.Ytohpgfefdlccmaa.OneSumW
