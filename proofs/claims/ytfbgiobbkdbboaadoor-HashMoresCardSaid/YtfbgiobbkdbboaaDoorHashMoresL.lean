/-
  The walk of ticketwardlaw.HashMores: it returns true and writes nothing that was there. Conditions: the tables of both; a state of eight words; lengths that a slice has.
-/
import Derived.Test.YtfbgiobbkdbboaaDoorHashDMore
import Derived.Test.YtfbgiobbkdbboaaDoorTree
import Derived.BigGuard
namespace Go.Proofs.YtfbgiobbkdbboaaDoor.HashMoresL
open Go.RowKit BytesW CellsW WordsW ArrW HashM HashX HashMath HashCompW HashFinW HashRightW HashSumW HashSameW HashMoreW HashUseW HashBlockW HashProcW HashDMoreW

theorem build_dig (w : World) : (Instr.build 31 #[]).run Tryd.prog w = .ok (.agg (Lib.byteCells (List.replicate 32 0)).toArray) w := by kernel_rfl
theorem more_len (S : List Nat) (hS : Sm S) (long : Int) (r b : List UInt8) : ∃ S' L' r' g, moreM S long r b = (S', L', r', g) ∧ S'.length = 8 := by
  unfold moreM
  split
  · split
    · exact ⟨_, _, _, _, rfl, rfl⟩
    · exact ⟨_, _, _, _, rfl, (sm_run _ _ hS).1⟩
  · exact ⟨_, _, _, _, rfl, rfl⟩

theorem buildLg {P : Program} {w : World} {ops : Array Oper} {rest : List Oper} {o : Oper} {a : Act} {Q : Exit → Act → World → Prop} {t : TypeId} {parts : Array (Nat × Operand)} {ps : Array (Nat × Value)} {v : Value} (hgd : Region.wanted o (yielded ops a.tmps) = true) (ho : o.op = .build t parts)
    (hp0 : (parts.toList.map fun (i, x) => (i, a.eval x)) = ps.toList) (hr : (Instr.build t ps).run P w = .ok v w) (k : wpList P ops Q rest (a.put o.dst v) w) : wpList P ops Q (o :: rest) a w := by
  have hp : (parts.map fun (i, x) => (i, a.eval x)) = ps := by
    apply Array.toList_inj.1
    rw [Array.toList_map]
    exact hp0
  refine wpList_step fun K hK => ?_
  rw [if_pos hgd]
  unfold Oper.wp execOp
  simp only [ho, hp, Sem.run_bind, hr, Sem.run_pure, Result.andThen_ok]
  exact hK _ _ k

set_option maxHeartbeats 8000000 in
set_option maxRecDepth 100000 in
theorem walk (S : List Nat) (hS : Sm S) (long : Int) (A : Option Addr) (r : List UInt8) (c : Nat) (B : Option Addr) (b : List UInt8) (d : Nat) (w : World)
    (h1 : -9223372036854775808 ≤ long) (h2 : long < 9223372036854775808) (hA : Bs w w.heap.size A r) (hcr : r.length ≤ c) (hB : Bs w w.heap.size B b) (hdb : b.length ≤ d) (hb0 : b.length ≤ 140737488351232) (hT : TabK w ∧ TabR w) :
    Calls Tryd.prog 4 #[.agg (hc S long (.slice A r.length c)).toArray, .slice B b.length d] w fun e w' => e = .returned (.bool true) ∧ Below w.heap.size w w' := by
  have HK := Lib.hid hT.1
  have HR := Lib.hid hT.2
  have HA := Lib.hid hA
  have HBb := Lib.hid hB
  obtain ⟨fs, u27⟩ := hash_struct
  have U27 := Lib.hid u27
  have N10 := Lib.hid (hc_len S long (.slice A r.length c) hS.1)
  clear hT hA hB u27
  go_enter Tryd.func4, Tryd.ntmps4
  go_upto_region 1 with (fail)
  generalize hW : World.alloc _ _ = W
  obtain ⟨H0, hbw, hsz⟩ := start1 hW
  clear hW
  have a0 : Arr W w.heap.size 27 (hc S long (.slice A r.length c)) := H0
  have P2 := Lib.hid a0
  have X0 := Lib.hid hbw
  clear a0 H0 hbw hsz
  obtain ⟨S', L', r', g, hm, hS8⟩ := more_len S hS long r b
  have hmo := more_any S hS long A r c B b d W ((HA.out.below X0.out).more X0.out.size) hcr ((HBb.out.below X0.out).more X0.out.size) hdb h1 h2 (HR.out.below X0.out)
  rw [hm] at hmo
  have HMo := Lib.hid hmo
  have HM := Lib.hid hm
  have H8 := Lib.hid hS8
  clear hmo hm hS8
  go_wp2_with (refine Arr.loadL P2.out rfl 27 (.tmp 2) rfl rfl U27.out rfl hash_size N10.out ?_)
  refine HMo.out.mono ?_
  clear HMo
  rintro e w1 ⟨A5, c5, rfl, hc5, s5, b1⟩
  dsimp only at hc5 s5 ⊢
  have X1 := Lib.hid (X0.out.trans (b1.mono X0.out.size))
  have P21 := Lib.hid (P2.out.below b1 P2.out.lt)
  have S5 := Lib.hid s5
  have N5 := Lib.hid (hc_len S' L' (.slice A5 r'.length c5) H8.out)
  clear b1 s5
  go_upto_region 2 with (refine Arr.storeL (Arr.new w1 _ _) rfl 27 (.tmp 5) (.tmp 16) rfl rfl (hc S' L' (.slice A5 r'.length c5)) rfl hash_size (by rfl) N5.out (hc_one _ _ _ _ _) ?_)
  generalize hw2 : World.setRow _ _ _ = w2
  obtain ⟨p5, b2, -⟩ := filled hw2
  have X2 := Lib.hid (X1.out.trans (b2.mono X1.out.size))
  have P22 := Lib.hid (P21.out.below b2 P21.out.lt)
  have S52 := Lib.hid ((S5.out.below b2).more b2.size)
  have P5 := Lib.hid p5
  obtain ⟨g5, hg5⟩ : ∃ g, w1.heap.size = g := ⟨_, rfl⟩
  rw [hg5] at P5 ⊢
  have hmo := dmore_any S hS long A r c B b d w2 ((HA.out.below X2.out).more X2.out.size) ((HBb.out.below X2.out).more X2.out.size) hb0 h1 h2 (HK.out.below X2.out)
  rw [HM.out] at hmo
  have HMo := Lib.hid hmo
  clear b2 hw2 p5 hg5 hmo
  go_wp2_with (refine Arr.loadL P22.out rfl 27 (.tmp 2) rfl rfl U27.out rfl hash_size N10.out ?_)
  refine HMo.out.mono ?_
  clear HMo
  rintro e w3 ⟨A7, c7, rfl, hc7, s7, b3⟩
  dsimp only at hc7 s7 ⊢
  have X3 := Lib.hid (X2.out.trans (b3.mono X2.out.size))
  have P23 := Lib.hid (P22.out.below b3 P22.out.lt)
  have P53 := Lib.hid (P5.out.below b3 P5.out.lt)
  have S53 := Lib.hid ((S52.out.below b3).more b3.size)
  have S7 := Lib.hid s7
  have N7 := Lib.hid (hc_len S' L' (.slice A7 r'.length c7) H8.out)
  clear b3 s7
  go_upto_region 3 with (refine Arr.storeL (Arr.new w3 _ _) rfl 27 (.tmp 7) (.tmp 22) rfl rfl (hc S' L' (.slice A7 r'.length c7)) rfl hash_size (by rfl) N7.out (hc_one _ _ _ _ _) ?_)
  generalize hw4 : World.setRow _ _ _ = w4
  obtain ⟨p7, b4, -⟩ := filled hw4
  have X4 := Lib.hid (X3.out.trans (b4.mono X3.out.size))
  have P24 := Lib.hid (P23.out.below b4 P23.out.lt)
  have P54 := Lib.hid (P53.out.below b4 P53.out.lt)
  have S54 := Lib.hid ((S53.out.below b4).more b4.size)
  have S74 := Lib.hid ((S7.out.below b4).more b4.size)
  have P7 := Lib.hid p7
  obtain ⟨g7, hg7⟩ : ∃ g, w3.heap.size = g := ⟨_, rfl⟩
  rw [hg7] at P7 ⊢
  obtain ⟨D, ge, hE⟩ : ∃ D ge, endM S long r = (D, ge) := ⟨_, _, rfl⟩
  have hen := end_any S hS long A r c w4 ((HA.out.below X4.out).more X4.out.size) h1 h2 (HR.out.below X4.out)
  rw [hE] at hen
  have HDl := Lib.hid (show D.length = 32 by
    have e : D = (endM S long r).1 := by rw [hE]
    rw [e]
    unfold endM
    split
    · exact hend_len S hS r _
    · rfl)
  have HEn := Lib.hid hen
  have HE := Lib.hid hE
  have N32 := Lib.hid (show (Lib.byteCells D).length = 32 by rw [Lib.byteCells_length]; exact HDl.out)
  clear b4 hw4 p7 hg7 hen hE
  go_wp2_with (refine Arr.loadL P24.out rfl 27 (.tmp 2) rfl rfl U27.out rfl hash_size N10.out ?_)
  refine HEn.out.mono ?_
  clear HEn
  rintro e w5 ⟨rfl, b5⟩
  dsimp only
  have X5 := Lib.hid (X4.out.trans (b5.mono X4.out.size))
  have P25 := Lib.hid (P24.out.below b5 P24.out.lt)
  have P55 := Lib.hid (P54.out.below b5 P54.out.lt)
  have P75 := Lib.hid (P7.out.below b5 P7.out.lt)
  have S55 := Lib.hid ((S54.out.below b5).more b5.size)
  have S75 := Lib.hid ((S74.out.below b5).more b5.size)
  clear b5
  go_upto_region 4 with (refine Arr.storeL (Arr.new w5 _ _) rfl 31 (.tmp 9) (.tmp 27) rfl rfl (Lib.byteCells D) rfl dig_size (by rfl) N32.out (bytes_one _) ?_)
  generalize hw6 : World.setRow _ _ _ = w6
  obtain ⟨p9, b6, -⟩ := filled hw6
  have X6 := Lib.hid (X5.out.trans (b6.mono X5.out.size))
  have P26 := Lib.hid (P25.out.below b6 P25.out.lt)
  have P56 := Lib.hid (P55.out.below b6 P55.out.lt)
  have P76 := Lib.hid (P75.out.below b6 P75.out.lt)
  have S56 := Lib.hid ((S55.out.below b6).more b6.size)
  have S76 := Lib.hid ((S75.out.below b6).more b6.size)
  have P9 := Lib.hid p9
  obtain ⟨g9, hg9⟩ : ∃ g, w5.heap.size = g := ⟨_, rfl⟩
  rw [hg9] at P9 ⊢
  have c8 := P26.out.cell 8
  rw [hc_8 S long _ hS.1] at c8
  have c9 := P26.out.cell 9
  rw [hc_9 S long _ hS.1] at c9
  have HRi := Lib.hid (right_any S hS long A r.length c w6 h1 h2)
  clear b6 hw6 p9 hg9
  by_cases hok : okH long r.length = true
  · obtain ⟨L, rfl, hL, hrL⟩ := okH_nat hok
    have q1 : decide ((L : Int) ≤ 1099511627776) = true := decide_eq_true (by omega)
    have q3 : ((r.length : Int) == (L : Int) % 64) = true := beq_iff_eq.2 (by omega)
    have HD := Lib.hid (show endM S (L : Int) r = (hend S r L, 0) by unfold endM; rw [if_pos hok]; simp)
    rw [hok] at HRi
    have hge : ge = 0 := by have := HE.out.symm.trans HD.out; simp at this; exact this.2
    subst hge
    have HDd := Lib.hid (show D = hend S r L by have := HE.out.symm.trans HD.out; simp at this; exact this)
    have hr64 : r.length < 64 := by omega
    clear hok hrL
    go_upto_region 5 with (fail)
    clear q1 q3 c8 c9
    go_wp2_with (refine Arr.loadL P26.out rfl 27 (.tmp 2) rfl rfl U27.out rfl hash_size N10.out ?_)
    refine HRi.out.mono ?_
    clear HRi
    rintro e w7 ⟨rfl, b7⟩
    have X7 := Lib.hid (X6.out.trans (b7.mono X6.out.size))
    have P27 := Lib.hid (P26.out.below b7 P26.out.lt)
    have P57 := Lib.hid (P56.out.below b7 P56.out.lt)
    have P77 := Lib.hid (P76.out.below b7 P76.out.lt)
    have P97 := Lib.hid (P9.out.below b7 P9.out.lt)
    have HSa := Lib.hid (same_any S' H8.out L' A5 A7 r' c5 c7 w7 ((S56.out.below b7).more b7.size) ((S76.out.below b7).more b7.size))
    clear b7
    go_wp2_with (first | (refine loadLg P57.out rfl 27 (.tmp 5) rfl rfl U27.out rfl hash_size N5.out ?_) | (refine loadLg P77.out rfl 27 (.tmp 7) rfl rfl U27.out rfl hash_size N7.out ?_))
    refine HSa.out.mono ?_
    clear HSa
    rintro e w8 ⟨rfl, b8⟩
    have X8 := Lib.hid (X7.out.trans (b8.mono X7.out.size))
    have P28 : Hid (Arr w8 w.heap.size 27 (wc S ++ [.int .i64 (L : Int), .slice A r.length c])) := Lib.hid (P27.out.below b8 P27.out.lt)
    have P98 := Lib.hid (P97.out.below b8 P97.out.lt)
    have N8 := Lib.hid (show (wc S).length = 8 by rw [wc_length]; exact hS.1)
    clear b8
    go_upto_region 9 with (fail)
    have c8 : ∀ x : Ab w8, x.val.cell? ⟨w.heap.size, 8, none⟩ = some (.int .i64 (L : Int)) := fun x => by
      have h : Arr x.val w.heap.size 27 (hc S (L : Int) (.slice A r.length c)) := P28.out.below x.property P28.out.lt
      rw [h.cell 8, hc_8 S _ _ hS.1]
    have c9 : ∀ x : Ab w8, x.val.cell? ⟨w.heap.size, 9, none⟩ = some (.slice A r.length c) := fun x => by
      have h : Arr x.val w.heap.size 27 (hc S (L : Int) (.slice A r.length c)) := P28.out.below x.property P28.out.lt
      rw [h.cell 9, hc_9 S _ _ hS.1]
    have heq : ∀ x : Ab w8, (Op.equalIn 10000 31 (.agg (Lib.byteCells D).toArray) (.agg (Lib.byteCells D).toArray)).run Tryd.prog x.val = .ok true x.val := fun x => eql_dig _ HDl.out x.val
    have HEq := Lib.hid heq
    have hne := ab w8
    have x0 := (Below.refl w8.heap.size w8).drew
    have hde : ∀ V : World, Below w8.heap.size w8 V → Calls Tryd.prog 17 #[.agg (wc S).toArray, .slice A r.length c, .int .i64 (L : Int)] V fun e w' => e = .returned (.agg (Lib.byteCells D).toArray) ∧ Below V.heap.size V w' := fun V hV => by
      have h := dend_as S hS A r c L V ((HA.out.below (X8.out.trans (hV.mono X8.out.size))).more (X8.out.trans (hV.mono X8.out.size)).size) (HK.out.below (X8.out.trans (hV.mono X8.out.size))) (by omega) (by omega)
      rw [← HDd.out] at h
      exact h
    have HDe := Lib.hid hde
    obtain ⟨V0, hV0⟩ : ∃ x, w8.drew = x := ⟨_, rfl⟩
    clear heq hde
    refine wp_region_tree (.read 0 (.read 1 (.read 2 (.read 3 (.read 4 (.read 5 (.read 6 (.read 7 (.read 8 (.read 9 (.step 10 (.read 11 (.read 12 (.read 13 .done)))))))))))))) (fun W => ∃ x : Ab w8, W = x.val) (by kernel_rfl) (by kernel_rfl) (by decide) (fun _ _ d _ _ h => by cases d <;> exact h) (Cl.of (Below.refl _ _).drew) ?_
    rw [hV0] at x0 ⊢
    clear hV0
    rename_i Kr hKr
    have hDe := HDe.out V0 x0
    refine tree_read rfl (fun K hK => ?_)
    go_simp
    refine hK _ ?_
    clear hK K
    refine tree_read rfl (fun K hK => ?_)
    go_simp
    refine hK _ ?_
    clear hK K
    refine tree_read rfl (fun K hK => ?_)
    go_simp
    refine hK _ ?_
    clear hK K
    refine tree_read rfl (fun K hK => want rfl ⟨_, fun W hW => Arr.loadPartE (zs := []) (by rw [List.append_nil]; exact P98.out.below (Cl.below hW) P98.out.lt) 31 (.tmp 9) rfl rfl dig rfl dig_size N32.out, hK _ ?_⟩)
    clear hK K
    refine tree_read rfl (fun K hK => ?_)
    go_simp
    refine hK _ ?_
    clear hK K
    refine tree_read rfl (fun K hK => want rfl ⟨_, fun W hW => Arr.loadPartE (P28.out.below (Cl.below hW) P28.out.lt) 25 (.tmp 74) rfl rfl arr8 rfl arr8_size N8.out, hK _ ?_⟩)
    clear hK K
    refine tree_read rfl (fun K hK => ?_)
    go_simp
    refine hK _ ?_
    clear hK K
    refine tree_read rfl (fun K hK => ?_)
    go_simp
    refine hK _ ?_
    clear hK K
    refine tree_read rfl (fun K hK => ?_)
    go_simp
    refine hK _ ?_
    clear hK K
    refine tree_read rfl (fun K hK => ?_)
    go_simp
    refine hK _ ?_
    clear hK K
    refine tree_step rfl (Cl.of x0) (fun K hK => ?_)
    go_simp
    refine hDe.mono ?_
    clear hDe
    rintro e V3 ⟨rfl, b3⟩
    have x3 := x0.trans (b3.mono x0.size)
    refine hK _ _ ⟨Cl.of x3, ?_⟩
    clear hK K b3
    have heq := HEq.out
    refine tree_read rfl (fun K hK => ?_)
    go_simp
    refine hK _ ?_
    clear hK K
    refine tree_read rfl (fun K hK => ?_)
    go_simp
    refine hK _ ?_
    clear hK K
    refine tree_read rfl (fun K hK => ?_)
    go_simp
    refine hK _ ?_
    clear hK K
    refine tree_done ?_
    refine hKr _ _ ?_
    go_wp2
    go_ret
    exact ⟨rfl, X8.out.trans (x3.mono X8.out.size)⟩
  · have hok' : okH long r.length = false := by simpa using hok
    have HD := Lib.hid (show endM S long r = (List.replicate 32 0, 1) by unfold endM; rw [if_neg hok])
    have hge : ge = 1 := by have := HE.out.symm.trans HD.out; simp at this; exact this.2
    have hDz : D = List.replicate 32 0 := by have := HE.out.symm.trans HD.out; simp only [Prod.mk.injEq] at this; exact this.1
    subst hge
    have HDd := Lib.hid hDz
    rw [hok'] at HRi
    by_cases p1 : 0 ≤ long
    · obtain ⟨L, rfl⟩ : ∃ L : Nat, long = (L : Int) := ⟨long.toNat, by omega⟩
      by_cases p2 : (L : Int) ≤ 1099511627776
      · have q2 : decide ((L : Int) ≤ 1099511627776) = true := decide_eq_true p2
        have q3 : ((r.length : Int) == (L : Int) % 64) = false := beq_eq_false_iff_ne.2 (fun p3 => hok (decide_eq_true ⟨p1, p2, p3⟩))
        clear p1 hok hok' hDz
        go_upto_region 5 with (fail)
        clear q2 q3 c8 c9 p2
        go_wp2_with (refine Arr.loadL P26.out rfl 27 (.tmp 2) rfl rfl U27.out rfl hash_size N10.out ?_)
        refine HRi.out.mono ?_
        clear HRi
        rintro e w7 ⟨rfl, b7⟩
        have X7 := Lib.hid (X6.out.trans (b7.mono X6.out.size))
        have P57 := Lib.hid (P56.out.below b7 P56.out.lt)
        have P77 := Lib.hid (P76.out.below b7 P76.out.lt)
        have P97 := Lib.hid (P9.out.below b7 P9.out.lt)
        have HSa := Lib.hid (same_any S' H8.out L' A5 A7 r' c5 c7 w7 ((S56.out.below b7).more b7.size) ((S76.out.below b7).more b7.size))
        clear b7
        go_wp2_with (first | (refine loadLg P57.out rfl 27 (.tmp 5) rfl rfl U27.out rfl hash_size N5.out ?_) | (refine loadLg P77.out rfl 27 (.tmp 7) rfl rfl U27.out rfl hash_size N7.out ?_))
        refine HSa.out.mono ?_
        clear HSa
        rintro e w8 ⟨rfl, b8⟩
        have X8 := Lib.hid (X7.out.trans (b8.mono X7.out.size))
        have P98 := Lib.hid (P97.out.below b8 P97.out.lt)
        clear b8
        go_upto_region 8 with (fail)
        have heq := eql_dig D HDl.out w8
        have HBz : Hid ((Instr.build 31 #[]).run Tryd.prog w8 = .ok (.agg (Lib.byteCells D).toArray) w8) := Lib.hid (by rw [HDd.out]; exact build_dig w8)
        go_wp2_with (first | (refine loadLg P98.out rfl 31 (.tmp 9) rfl rfl dig rfl dig_size N32.out ?_) | (refine buildLg rfl rfl rfl HBz.out ?_))
        go_ret
        exact ⟨rfl, X8.out⟩
      · have q2 : decide ((L : Int) ≤ 1099511627776) = false := decide_eq_false p2
        clear p1 hok hok' hDz
        go_upto_region 5 with (fail)
        clear q2 c8 c9 p2
        go_wp2_with (refine Arr.loadL P26.out rfl 27 (.tmp 2) rfl rfl U27.out rfl hash_size N10.out ?_)
        refine HRi.out.mono ?_
        clear HRi
        rintro e w7 ⟨rfl, b7⟩
        have X7 := Lib.hid (X6.out.trans (b7.mono X6.out.size))
        have P57 := Lib.hid (P56.out.below b7 P56.out.lt)
        have P77 := Lib.hid (P76.out.below b7 P76.out.lt)
        have P97 := Lib.hid (P9.out.below b7 P9.out.lt)
        have HSa := Lib.hid (same_any S' H8.out L' A5 A7 r' c5 c7 w7 ((S56.out.below b7).more b7.size) ((S76.out.below b7).more b7.size))
        clear b7
        go_wp2_with (first | (refine loadLg P57.out rfl 27 (.tmp 5) rfl rfl U27.out rfl hash_size N5.out ?_) | (refine loadLg P77.out rfl 27 (.tmp 7) rfl rfl U27.out rfl hash_size N7.out ?_))
        refine HSa.out.mono ?_
        clear HSa
        rintro e w8 ⟨rfl, b8⟩
        have X8 := Lib.hid (X7.out.trans (b8.mono X7.out.size))
        have P98 := Lib.hid (P97.out.below b8 P97.out.lt)
        clear b8
        go_upto_region 8 with (fail)
        have heq := eql_dig D HDl.out w8
        have HBz : Hid ((Instr.build 31 #[]).run Tryd.prog w8 = .ok (.agg (Lib.byteCells D).toArray) w8) := Lib.hid (by rw [HDd.out]; exact build_dig w8)
        go_wp2_with (first | (refine loadLg P98.out rfl 31 (.tmp 9) rfl rfl dig rfl dig_size N32.out ?_) | (refine buildLg rfl rfl rfl HBz.out ?_))
        go_ret
        exact ⟨rfl, X8.out⟩
    · have q1 : decide (long ≥ 0) = false := decide_eq_false p1
      clear p1 hok hok' hDz
      go_upto_region 5 with (fail)
      clear q1 c8 c9
      go_wp2_with (refine Arr.loadL P26.out rfl 27 (.tmp 2) rfl rfl U27.out rfl hash_size N10.out ?_)
      refine HRi.out.mono ?_
      clear HRi
      rintro e w7 ⟨rfl, b7⟩
      have X7 := Lib.hid (X6.out.trans (b7.mono X6.out.size))
      have P57 := Lib.hid (P56.out.below b7 P56.out.lt)
      have P77 := Lib.hid (P76.out.below b7 P76.out.lt)
      have P97 := Lib.hid (P9.out.below b7 P9.out.lt)
      have HSa := Lib.hid (same_any S' H8.out L' A5 A7 r' c5 c7 w7 ((S56.out.below b7).more b7.size) ((S76.out.below b7).more b7.size))
      clear b7
      go_wp2_with (first | (refine loadLg P57.out rfl 27 (.tmp 5) rfl rfl U27.out rfl hash_size N5.out ?_) | (refine loadLg P77.out rfl 27 (.tmp 7) rfl rfl U27.out rfl hash_size N7.out ?_))
      refine HSa.out.mono ?_
      clear HSa
      rintro e w8 ⟨rfl, b8⟩
      have X8 := Lib.hid (X7.out.trans (b8.mono X7.out.size))
      have P98 := Lib.hid (P97.out.below b8 P97.out.lt)
      clear b8
      go_upto_region 8 with (fail)
      have heq := eql_dig D HDl.out w8
      have HBz : Hid ((Instr.build 31 #[]).run Tryd.prog w8 = .ok (.agg (Lib.byteCells D).toArray) w8) := Lib.hid (by rw [HDd.out]; exact build_dig w8)
      go_wp2_with (first | (refine loadLg P98.out rfl 31 (.tmp 9) rfl rfl dig rfl dig_size N32.out ?_) | (refine buildLg rfl rfl rfl HBz.out ?_))
      go_ret
      exact ⟨rfl, X8.out⟩
end Go.Proofs.YtfbgiobbkdbboaaDoor.HashMoresL
