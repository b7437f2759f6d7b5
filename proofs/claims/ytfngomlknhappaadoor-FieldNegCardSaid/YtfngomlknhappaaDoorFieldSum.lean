/-
  The six functions of package field: what each hands back at whatever arguments. Conditions: the two listed variables as they are laid.
-/
import Derived.Test.YtfngomlknhappaaDoorFieldInv
import Derived.Test.YtfngomlknhappaaDoorFieldRdc
namespace Go.Proofs.YtfngomlknhappaaDoor.FieldSumW
open Go.RowKit BytesW CellsW ArrW ArrG ArrL ArrT FieldM NumA NumF FieldN DigsW FieldTW FieldWW

theorem run_build1 (l : List Value) (h : l.length = 32) (w : World) : (Instr.buildSlice 61 1 #[(0, .agg l.toArray)]).run Tryd.prog w = .ok (.slice (some ⟨w.heap.size, 0, none⟩) 1 1) (w.alloc (.cells l.toArray 23)) := by
  obtain ⟨x0, x1, x2, x3, x4, x5, x6, x7, x8, x9, x10, x11, x12, x13, x14, x15, x16, x17, x18, x19, x20, x21, x22, x23, x24, x25, x26, x27, x28, x29, x30, x31, rfl⟩ := thirtytwo h
  kernel_rfl
theorem run_build2 (l m : List Value) (h : l.length = 32) (k : m.length = 32) (w : World) : (Instr.buildSlice 61 2 #[(0, .agg l.toArray), (1, .agg m.toArray)]).run Tryd.prog w = .ok (.slice (some ⟨w.heap.size, 0, none⟩) 2 2) (w.alloc (.cells (l ++ m).toArray 23)) := by
  obtain ⟨x0, x1, x2, x3, x4, x5, x6, x7, x8, x9, x10, x11, x12, x13, x14, x15, x16, x17, x18, x19, x20, x21, x22, x23, x24, x25, x26, x27, x28, x29, x30, x31, rfl⟩ := thirtytwo h
  obtain ⟨y0, y1, y2, y3, y4, y5, y6, y7, y8, y9, y10, y11, y12, y13, y14, y15, y16, y17, y18, y19, y20, y21, y22, y23, y24, y25, y26, y27, y28, y29, y30, y31, rfl⟩ := thirtytwo k
  kernel_rfl
theorem buildN1 {w : World} {ops : Array Oper} {rest : List Oper} {o : Oper} {a : Act} {Q : Exit → Act → World → Prop} (l : List Value) (h : l.length = 32) (hgd : o.guard = none) (x : Operand) (ho : o.op = .buildSlice 61 1 #[(0, x)])
    (hx : a.eval x = .agg l.toArray) (k : wpList Tryd.prog ops Q rest (a.put o.dst (.slice (some ⟨w.heap.size, 0, none⟩) 1 1)) (w.alloc (.cells l.toArray 23))) : wpList Tryd.prog ops Q (o :: rest) a w := by
  refine wpList_plain hgd fun K hK => ?_
  unfold Oper.wp execOp
  simp only [ho, List.map_toArray, List.map_cons, List.map_nil, hx, Sem.run_bind, run_build1 l h, Sem.run_pure, Result.andThen_ok]
  exact hK _ _ k
theorem buildN2 {w : World} {ops : Array Oper} {rest : List Oper} {o : Oper} {a : Act} {Q : Exit → Act → World → Prop} (l m : List Value) (h : l.length = 32) (h' : m.length = 32) (hgd : o.guard = none) (x y : Operand) (ho : o.op = .buildSlice 61 2 #[(0, x), (1, y)])
    (hx : a.eval x = .agg l.toArray) (hy : a.eval y = .agg m.toArray) (k : wpList Tryd.prog ops Q rest (a.put o.dst (.slice (some ⟨w.heap.size, 0, none⟩) 2 2)) (w.alloc (.cells (l ++ m).toArray 23))) : wpList Tryd.prog ops Q (o :: rest) a w := by
  refine wpList_plain hgd fun K hK => ?_
  unfold Oper.wp execOp
  simp only [ho, List.map_toArray, List.map_cons, List.map_nil, hx, hy, Sem.run_bind, run_build2 l m h h', Sem.run_pure, Result.andThen_ok]
  exact hK _ _ k
theorem bs_of_arr {w : World} {g B : Nat} {t : TypeId} {l : List UInt8} (h : Arr w g t (Lib.byteCells l)) (hg : g < B) : Bs w B (some ⟨g, 0, none⟩) l := fun _ => ⟨_, rfl, hg, fun k hk => by
  have hadd : (⟨g, 0, none⟩ : Addr).add k = ⟨g, k, none⟩ := by unfold Addr.add; split <;> simp_all
  rw [hadd, h.cell k]
  unfold Lib.byteCells
  rw [List.getElem?_map, List.getElem?_eq_getElem hk]
  rfl⟩
theorem ds1 {w W : World} {t : TypeId} {a : List UInt8} (ha : a.length = 32) (h : w.alloc (.cells (Lib.byteCells a).toArray t) = W) : Ds W W.heap.size (some ⟨w.heap.size, 0, none⟩) [a] := by
  obtain ⟨h1, _, h2⟩ := start1 h
  refine ⟨fun d hd => by simp at hd; rw [hd]; exact ha, ?_⟩
  rw [show ([a] : List (List UInt8)).flatten = a by simp]
  exact bs_of_arr h1 (by omega)
theorem ds2 {w W : World} {t : TypeId} {a b : List UInt8} (ha : a.length = 32) (hb : b.length = 32) (h : w.alloc (.cells (Lib.byteCells a ++ Lib.byteCells b).toArray t) = W) : Ds W W.heap.size (some ⟨w.heap.size, 0, none⟩) [a, b] := by
  obtain ⟨h1, _, h2⟩ := start1 h
  refine ⟨fun d hd => by simp at hd; rcases hd with e | e <;> rw [e] <;> assumption, ?_⟩
  rw [show ([a, b] : List (List UInt8)).flatten = a ++ b by simp]
  refine bs_of_arr (t := t) ?_ (show w.heap.size < _ by omega)
  have e : Lib.byteCells (a ++ b) = Lib.byteCells a ++ Lib.byteCells b := by simp [Lib.byteCells]
  rw [e]
  exact h1
theorem allR1 (a : List UInt8) : allR [a] = decide (leN a < P) := by simp [allR]
theorem allR2 (a b : List UInt8) : allR [a, b] = (decide (leN a < P) && decide (leN b < P)) := by simp [allR]
theorem not_true' {b : Bool} (h : b = true) : (!b) = false := by rw [h]; rfl
theorem not_false' {b : Bool} (h : b = false) : (!b) = true := by rw [h]; rfl
theorem sub_val' (x y : F) : (x.val + (P - y.val)) % P = (x - y).val := by
  rw [Fin.sub_def, Nat.add_comm]
theorem add_lt' (x y : F) : x.val + y.val < P + P := by have := x.isLt; have := y.isLt; omega
theorem addn_lt' (x y : F) : x.val + (P - y.val) < P + P := by have := x.isLt; have := y.isLt; have := P_pos; omega

set_option maxHeartbeats 1000000 in
set_option maxRecDepth 100000 in
theorem fright_any (a : List UInt8) (ha : a.length = 32) (w : World) (hT : TabP w) :
    Calls Tryd.prog 12 #[.agg (Lib.byteCells a).toArray] w fun e w' => e = .returned (.bool (decide (leN a < P))) ∧ Below w.heap.size w w' := by
  have HC := Lib.hid (bc32 ha)
  rw [← allR1]
  obtain ⟨ok, hok⟩ : ∃ b, allR [a] = b := ⟨_, rfl⟩
  rw [hok]
  go_enter Tryd.func12, Tryd.ntmps12
  go_upto_region 1 with (fail)
  generalize hW : World.alloc _ _ = W
  obtain ⟨H0, hbw, hsz⟩ := start1 hW
  clear hW
  have A0 : Hid (Arr W w.heap.size 23 (Lib.byteCells a)) := Lib.hid H0
  have HT := Lib.hid (hT.below hbw)
  have HBw := Lib.hid hbw
  clear H0 hT hsz hbw
  go_wp2_with (first | (show wpList _ _ _ (⟨_, Op.load _ (.tmp 1), _, _, _, _⟩ :: _) _ _; refine Arr.loadL A0.out rfl 23 (.tmp 1) rfl rfl FieldTW.num_u rfl FieldTW.num_size HC.out ?_) | (show wpList _ _ _ (⟨_, Op.buildSlice _ _ _, _, _, _, _⟩ :: _) _ _; refine buildN1 _ HC.out rfl _ rfl rfl ?_))
  generalize hW2 : World.alloc _ _ = W2
  have hd := ds1 ha hW2
  obtain ⟨_, b2, _⟩ := start1 hW2
  have HR := Lib.hid (reduced_any _ [a] 1 W2 hd (by simp) (HT.out.below b2))
  rw [hok] at HR
  have HB2 := Lib.hid (HBw.out.trans (b2.mono HBw.out.size))
  clear hd b2 hW2 HBw hok
  refine HR.out.mono ?_
  clear HR
  rintro e w3 ⟨rfl, b3⟩
  have HB3 := Lib.hid (HB2.out.trans (b3.mono HB2.out.size))
  clear b3
  go_wp2
  go_ret
  exact ⟨rfl, HB3.out⟩

set_option maxHeartbeats 1000000 in
set_option maxRecDepth 100000 in
theorem fadd_any (a b : List UInt8) (ha : a.length = 32) (hb : b.length = 32) (w : World) (hT : TabP w) :
    Calls Tryd.prog 9 #[.agg (Lib.byteCells a).toArray, .agg (Lib.byteCells b).toArray] w fun e w' => e = .returned (.tuple #[.agg (Lib.byteCells (addM a b).1).toArray, .int .i64 (addM a b).2]) ∧ Below w.heap.size w w' := by
  have HLA := Lib.hid ha
  have HLB := Lib.hid hb
  have HC := Lib.hid (bc32 ha)
  have HD := Lib.hid (bc32 hb)
  by_cases hr : leN a < P ∧ leN b < P
  · have HOk := Lib.hid (show allR [a, b] = true by rw [allR2, decide_eq_true hr.1, decide_eq_true hr.2]; rfl)
    have hx := val_ofL hr.1
    have hy := val_ofL hr.2
    rw [show addM a b = (toL (ofL a + ofL b), 0) from binM_ok hr.1 hr.2]
    obtain ⟨x, hxx⟩ : ∃ x, ofL a = x := ⟨_, rfl⟩
    obtain ⟨y, hyy⟩ : ∃ x, ofL b = x := ⟨_, rfl⟩
    rw [hxx] at hx ⊢
    rw [hyy] at hy ⊢
    have HRa := Lib.hid (fun V => read_any a HLA.out V)
    have HRb := Lib.hid (fun V => read_any b HLB.out V)
    rw [← hx] at HRa
    rw [← hy] at HRb
    obtain ⟨R, hR⟩ : ∃ R, x + y = R := ⟨_, rfl⟩
    rw [hR]
    have HRR := Lib.hid hR
    clear hR
    have HAd := Lib.hid (fun V => FieldWW.add_any x.val y.val V)
    have HRm := Lib.hid (fun V => rem_any (x.val + y.val) (add_lt' x y) V)
    rw [← val_add, HRR.out] at HRm
    obtain ⟨s, hs⟩ : ∃ s, x.val + y.val = s := ⟨_, rfl⟩
    rw [hs] at HAd HRm
    clear hs
    have HTL := Lib.hid (show (Lib.byteCells (toL R)).length = 32 by rw [Lib.byteCells_length, toL_len])
    clear hr hx hy hxx hyy ha hb
    go_enter Tryd.func9, Tryd.ntmps9
    go_upto_region 1 with (fail)
    generalize hW : World.alloc _ _ = W
    obtain ⟨H0, H1, H2, hbw, hsz⟩ := start3 hW
    clear hW
    have A0 : Hid (Arr W (w.heap.size) 23 (Lib.byteCells a)) := Lib.hid H0
    have A1 : Hid (Arr W (w.heap.size + 1) 23 (Lib.byteCells b)) := Lib.hid H1
    have AR : Hid (Arr W (w.heap.size + 2) 23 (Lib.byteCells zeros)) := Lib.hid H2
    have HT := Lib.hid (hT.below hbw)
    obtain ⟨g, hg⟩ : ∃ g, w.heap.size = g := ⟨_, rfl⟩
    have HBw : Hid (Below g w W) := Lib.hid (by rw [← hg]; exact hbw)
    have HSZ : Hid (g + 3 ≤ W.heap.size) := Lib.hid (by rw [← hg]; omega)
    have HG := Lib.hid hg
    rw [hg] at A0 A1 AR
    simp only [hg]
    clear H0 H1 H2 hbw hsz hg hT
    go_wp2_with (first | (show wpList _ _ _ (⟨_, Op.load _ (.tmp 2), _, _, _, _⟩ :: _) _ _; refine Arr.loadL A0.out rfl 23 (.tmp 2) rfl rfl FieldTW.num_u rfl FieldTW.num_size HC.out ?_) | (show wpList _ _ _ (⟨_, Op.load _ (.tmp 3), _, _, _, _⟩ :: _) _ _; refine Arr.loadL A1.out rfl 23 (.tmp 3) rfl rfl FieldTW.num_u rfl FieldTW.num_size HD.out ?_) | (show wpList _ _ _ (⟨_, Op.buildSlice _ _ _, _, _, _, _⟩ :: _) _ _; refine buildN2 _ _ HC.out HD.out rfl _ _ rfl rfl rfl ?_))
    generalize hW2 : World.alloc _ _ = W2
    have hd := ds2 HLA.out HLB.out hW2
    obtain ⟨_, b2, _⟩ := start1 hW2
    replace A0 := Lib.hid (A0.out.below b2 A0.out.lt)
    replace A1 := Lib.hid (A1.out.below b2 A1.out.lt)
    replace AR := Lib.hid (AR.out.below b2 AR.out.lt)
    replace HT := Lib.hid (HT.out.below b2)
    replace HBw := Lib.hid (HBw.out.trans (b2.mono (by have := HSZ.out; omega)))
    replace HSZ := Lib.hid (Nat.le_trans HSZ.out b2.size)
    have HR := Lib.hid (reduced_any _ [a, b] 2 W2 hd (by simp) HT.out)
    rw [HOk.out] at HR
    clear hd b2 hW2
    refine HR.out.mono ?_
    clear HR
    rintro e W3 ⟨rfl, b3⟩
    replace A0 := Lib.hid (A0.out.below b3 A0.out.lt)
    replace A1 := Lib.hid (A1.out.below b3 A1.out.lt)
    replace AR := Lib.hid (AR.out.below b3 AR.out.lt)
    replace HT := Lib.hid (HT.out.below b3)
    replace HBw := Lib.hid (HBw.out.trans (b3.mono (by have := HSZ.out; omega)))
    replace HSZ := Lib.hid (Nat.le_trans HSZ.out b3.size)
    clear b3
    go_upto_region 3 with (fail)
    have hab := ab W3
    have Q0 := Lib.hid (show ∀ V, Below W3.heap.size W3 V → Calls Tryd.prog 29 #[.agg (Lib.byteCells a).toArray] V fun e w' => e = .returned (.agg (nc (wd x.val 4)).toArray) ∧ Below W3.heap.size W3 w' from fun V hV =>
      (HRa.out V).mono fun e w' ⟨he, hb⟩ => ⟨he, hV.trans (hb.mono hV.size)⟩)
    have Q1 := Lib.hid (show ∀ V, Below W3.heap.size W3 V → Calls Tryd.prog 29 #[.agg (Lib.byteCells b).toArray] V fun e w' => e = .returned (.agg (nc (wd y.val 4)).toArray) ∧ Below W3.heap.size W3 w' from fun V hV =>
      (HRb.out V).mono fun e w' ⟨he, hb⟩ => ⟨he, hV.trans (hb.mono hV.size)⟩)
    have Q2 := Lib.hid (show ∀ V, Below W3.heap.size W3 V → Calls Tryd.prog 28 #[.agg (nc (wd x.val 4)).toArray, .agg (nc (wd y.val 4)).toArray] V fun e w' => e = .returned (.agg (nc (wd s 4)).toArray) ∧ Below W3.heap.size W3 w' from fun V hV =>
      (HAd.out V).mono fun e w' ⟨he, hb⟩ => ⟨he, hV.trans (hb.mono hV.size)⟩)
    have Q3 := Lib.hid (show ∀ V, Below W3.heap.size W3 V → Calls Tryd.prog 27 #[.agg (nc (wd s 4)).toArray] V fun e w' => e = .returned (.agg (nc (wd R.val 4)).toArray) ∧ Below W3.heap.size W3 w' from fun V hV =>
      (HRm.out V).mono fun e w' ⟨he, hb⟩ => ⟨he, hV.trans (hb.mono hV.size)⟩)
    have Q4 := Lib.hid (show ∀ V, Below W3.heap.size W3 V → Calls Tryd.prog 26 #[.agg (nc (wd R.val 4)).toArray] V fun e w' => e = .returned (.agg (Lib.byteCells (toL R)).toArray) ∧ Below W3.heap.size W3 w' from fun V hV =>
      (write_any R.val V).mono fun e w' ⟨he, hb⟩ => ⟨he, hV.trans (hb.mono hV.size)⟩)
    refine Phase.wp_region_phases [([], [0, 1, 2, 3, 4, 5, 6], some 7), ([], [8], none)] (fun V => ∃ x : Ab W3, V = x.val) (by kernel_rfl) (by kernel_rfl) (fun _ _ d _ _ h => by cases d <;> exact h) (Cl.of (Below.refl _ _).drew) ?_
    refine Phase.g_alone rfl ?_
    refine Phase.p_nil ?_
    refine Phase.q_step rfl (fun K hK => want rfl ?_)
    refine Arr.loadQ (fun V (h : ∃ x : Ab W3, V = x.val) => A0.out.below (Cl.below h) A0.out.lt) 23 (.tmp 2) rfl rfl FieldTW.num_u rfl FieldTW.num_size HC.out ?_
    refine hK _ ?_
    clear hK K
    refine Phase.q_step rfl (fun K hK => ?_); go_simp; apply Exists.intro; refine ⟨fun x => ?_, hK _ ?_⟩; (exact call_cl Q0.out x); clear hK K
    refine Phase.q_step rfl (fun K hK => want rfl ?_)
    refine Arr.loadQ (fun V (h : ∃ x : Ab W3, V = x.val) => A1.out.below (Cl.below h) A1.out.lt) 23 (.tmp 3) rfl rfl FieldTW.num_u rfl FieldTW.num_size HD.out ?_
    refine hK _ ?_
    clear hK K
    refine Phase.q_step rfl (fun K hK => ?_); go_simp; apply Exists.intro; refine ⟨fun x => ?_, hK _ ?_⟩; (exact call_cl Q1.out x); clear hK K
    refine Phase.q_step rfl (fun K hK => ?_); go_simp; apply Exists.intro; refine ⟨fun x => ?_, hK _ ?_⟩; (exact call_cl Q2.out x); clear hK K
    refine Phase.q_step rfl (fun K hK => ?_); go_simp; apply Exists.intro; refine ⟨fun x => ?_, hK _ ?_⟩; (exact call_cl Q3.out x); clear hK K
    refine Phase.q_step rfl (fun K hK => ?_); go_simp; apply Exists.intro; refine ⟨fun x => ?_, hK _ ?_⟩; (exact call_cl Q4.out x); clear hK K
    refine Phase.q_nil ?_
    rintro V hV K hK
    have hBV := Cl.below hV
    have hAV := AR.out.below hBV AR.out.lt
    refine want rfl ?_
    refine Arr.storeO hAV 23 (.tmp 4) (.tmp 18) rfl rfl (Lib.byteCells (toL R)) rfl FieldTW.num_size (by rfl) HTL.out (bytes_one _) ?_
    have AF := Lib.hid (hAV.row (Lib.byteCells (toL R)))
    have HBF := Lib.hid (below_row (HBw.out.trans (hBV.mono (by have := HSZ.out; omega))) (show g ≤ g + 2 by omega) (Lib.byteCells (toL R)).toArray)
    generalize World.setRow _ _ _ = w5 at *
    refine hK _ _ ⟨fun X => X = w5, rfl, ?_⟩
    clear hK K hV hBV hAV
    refine Phase.g_quiet ?_
    refine Phase.p_nil ?_
    refine Phase.q_step rfl (fun K hK => ?_); go_simp; refine hK _ ?_; clear hK K
    refine Phase.q_nil ?_
    refine Phase.g_nil ?_
    intro wz hz
    rw [show wz = w5 from hz]
    clear hz
    go_wp2
    refine bodyPost_ret (v := .tuple #[.agg (Lib.byteCells (toL R)).toArray, .int .i64 0]) (by exact AF.out.ret2 rfl _ rfl rfl FieldTW.num_u rfl FieldTW.num_size HTL.out) rfl ⟨rfl, by rw [HG.out]; exact HBF.out⟩
  · have HOk := Lib.hid (show allR [a, b] = false by
      rw [allR2, Bool.eq_false_iff]
      intro h
      rw [Bool.and_eq_true, decide_eq_true_eq, decide_eq_true_eq] at h
      exact hr h)
    rw [show addM a b = (zeros, 2) from binM_bad hr]
    clear hr ha hb
    go_enter Tryd.func9, Tryd.ntmps9
    go_upto_region 1 with (fail)
    generalize hW : World.alloc _ _ = W
    obtain ⟨H0, H1, H2, hbw, hsz⟩ := start3 hW
    clear hW
    have A0 : Hid (Arr W (w.heap.size) 23 (Lib.byteCells a)) := Lib.hid H0
    have A1 : Hid (Arr W (w.heap.size + 1) 23 (Lib.byteCells b)) := Lib.hid H1
    have AR : Hid (Arr W (w.heap.size + 2) 23 (Lib.byteCells zeros)) := Lib.hid H2
    have HT := Lib.hid (hT.below hbw)
    obtain ⟨g, hg⟩ : ∃ g, w.heap.size = g := ⟨_, rfl⟩
    have HBw : Hid (Below g w W) := Lib.hid (by rw [← hg]; exact hbw)
    have HSZ : Hid (g + 3 ≤ W.heap.size) := Lib.hid (by rw [← hg]; omega)
    have HG := Lib.hid hg
    rw [hg] at A0 A1 AR
    simp only [hg]
    clear H0 H1 H2 hbw hsz hg hT
    go_wp2_with (first | (show wpList _ _ _ (⟨_, Op.load _ (.tmp 2), _, _, _, _⟩ :: _) _ _; refine Arr.loadL A0.out rfl 23 (.tmp 2) rfl rfl FieldTW.num_u rfl FieldTW.num_size HC.out ?_) | (show wpList _ _ _ (⟨_, Op.load _ (.tmp 3), _, _, _, _⟩ :: _) _ _; refine Arr.loadL A1.out rfl 23 (.tmp 3) rfl rfl FieldTW.num_u rfl FieldTW.num_size HD.out ?_) | (show wpList _ _ _ (⟨_, Op.buildSlice _ _ _, _, _, _, _⟩ :: _) _ _; refine buildN2 _ _ HC.out HD.out rfl _ _ rfl rfl rfl ?_))
    generalize hW2 : World.alloc _ _ = W2
    have hd := ds2 HLA.out HLB.out hW2
    obtain ⟨_, b2, _⟩ := start1 hW2
    replace A0 := Lib.hid (A0.out.below b2 A0.out.lt)
    replace A1 := Lib.hid (A1.out.below b2 A1.out.lt)
    replace AR := Lib.hid (AR.out.below b2 AR.out.lt)
    replace HT := Lib.hid (HT.out.below b2)
    replace HBw := Lib.hid (HBw.out.trans (b2.mono (by have := HSZ.out; omega)))
    replace HSZ := Lib.hid (Nat.le_trans HSZ.out b2.size)
    have HR := Lib.hid (reduced_any _ [a, b] 2 W2 hd (by simp) HT.out)
    rw [HOk.out] at HR
    clear hd b2 hW2
    refine HR.out.mono ?_
    clear HR
    rintro e W3 ⟨rfl, b3⟩
    replace A0 := Lib.hid (A0.out.below b3 A0.out.lt)
    replace A1 := Lib.hid (A1.out.below b3 A1.out.lt)
    replace AR := Lib.hid (AR.out.below b3 AR.out.lt)
    replace HT := Lib.hid (HT.out.below b3)
    replace HBw := Lib.hid (HBw.out.trans (b3.mono (by have := HSZ.out; omega)))
    replace HSZ := Lib.hid (Nat.le_trans HSZ.out b3.size)
    clear b3
    have AF := Lib.hid (AR.out.row (Lib.byteCells zeros))
    have HBF := Lib.hid (below_row HBw.out (show g ≤ g + 2 by omega) (Lib.byteCells zeros).toArray)
    go_wp2_with (first | (show wpList _ _ _ (⟨_, Op.build _ _, _, _, _, _⟩ :: _) _ _; refine buildL rfl rfl rfl (znum _) ?_) | (show wpList _ _ _ (⟨_, Op.store _ (.tmp 4) _, _, _, _, _⟩ :: _) _ _; refine Arr.storeL AR.out rfl 23 (.tmp 4) (.tmp 11) rfl rfl (Lib.byteCells zeros) rfl FieldTW.num_size (by rfl) (by rfl) (bytes_one _) ?_))
    refine bodyPost_ret (v := .tuple #[.agg (Lib.byteCells zeros).toArray, .int .i64 2]) (by exact AF.out.ret2 rfl _ rfl rfl FieldTW.num_u rfl FieldTW.num_size (by rfl)) rfl ⟨rfl, by rw [HG.out]; exact HBF.out⟩

set_option maxHeartbeats 1000000 in
set_option maxRecDepth 100000 in
theorem fsub_any (a b : List UInt8) (ha : a.length = 32) (hb : b.length = 32) (w : World) (hT : TabP w) :
    Calls Tryd.prog 10 #[.agg (Lib.byteCells a).toArray, .agg (Lib.byteCells b).toArray] w fun e w' => e = .returned (.tuple #[.agg (Lib.byteCells (subM a b).1).toArray, .int .i64 (subM a b).2]) ∧ Below w.heap.size w w' := by
  have HLA := Lib.hid ha
  have HLB := Lib.hid hb
  have HC := Lib.hid (bc32 ha)
  have HD := Lib.hid (bc32 hb)
  by_cases hr : leN a < P ∧ leN b < P
  · have HOk := Lib.hid (show allR [a, b] = true by rw [allR2, decide_eq_true hr.1, decide_eq_true hr.2]; rfl)
    have hx := val_ofL hr.1
    have hy := val_ofL hr.2
    rw [show subM a b = (toL (ofL a - ofL b), 0) from binM_ok hr.1 hr.2]
    obtain ⟨x, hxx⟩ : ∃ x, ofL a = x := ⟨_, rfl⟩
    obtain ⟨y, hyy⟩ : ∃ x, ofL b = x := ⟨_, rfl⟩
    rw [hxx] at hx ⊢
    rw [hyy] at hy ⊢
    have HRa := Lib.hid (fun V => read_any a HLA.out V)
    have HRb := Lib.hid (fun V => read_any b HLB.out V)
    rw [← hx] at HRa
    rw [← hy] at HRb
    obtain ⟨R, hR⟩ : ∃ R, x - y = R := ⟨_, rfl⟩
    rw [hR]
    have HRR := Lib.hid hR
    clear hR
    have HNg := Lib.hid (fun V (hV : TabP V) => neg_any y.val (Nat.le_of_lt y.isLt) V hV)
    have HAd := Lib.hid (fun V => FieldWW.add_any x.val (P - y.val) V)
    have HRm := Lib.hid (fun V => rem_any (x.val + (P - y.val)) (addn_lt' x y) V)
    rw [sub_val', HRR.out] at HRm
    obtain ⟨z, hz⟩ : ∃ s, P - y.val = s := ⟨_, rfl⟩
    rw [hz] at HNg HAd HRm
    obtain ⟨s, hs⟩ : ∃ s, x.val + z = s := ⟨_, rfl⟩
    rw [hs] at HAd HRm
    clear hs hz
    have HTL := Lib.hid (show (Lib.byteCells (toL R)).length = 32 by rw [Lib.byteCells_length, toL_len])
    clear hr hx hy hxx hyy ha hb
    go_enter Tryd.func10, Tryd.ntmps10
    go_upto_region 1 with (fail)
    generalize hW : World.alloc _ _ = W
    obtain ⟨H0, H1, H2, hbw, hsz⟩ := start3 hW
    clear hW
    have A0 : Hid (Arr W (w.heap.size) 23 (Lib.byteCells a)) := Lib.hid H0
    have A1 : Hid (Arr W (w.heap.size + 1) 23 (Lib.byteCells b)) := Lib.hid H1
    have AR : Hid (Arr W (w.heap.size + 2) 23 (Lib.byteCells zeros)) := Lib.hid H2
    have HT := Lib.hid (hT.below hbw)
    obtain ⟨g, hg⟩ : ∃ g, w.heap.size = g := ⟨_, rfl⟩
    have HBw : Hid (Below g w W) := Lib.hid (by rw [← hg]; exact hbw)
    have HSZ : Hid (g + 3 ≤ W.heap.size) := Lib.hid (by rw [← hg]; omega)
    have HG := Lib.hid hg
    rw [hg] at A0 A1 AR
    simp only [hg]
    clear H0 H1 H2 hbw hsz hg hT
    go_wp2_with (first | (show wpList _ _ _ (⟨_, Op.load _ (.tmp 2), _, _, _, _⟩ :: _) _ _; refine Arr.loadL A0.out rfl 23 (.tmp 2) rfl rfl FieldTW.num_u rfl FieldTW.num_size HC.out ?_) | (show wpList _ _ _ (⟨_, Op.load _ (.tmp 3), _, _, _, _⟩ :: _) _ _; refine Arr.loadL A1.out rfl 23 (.tmp 3) rfl rfl FieldTW.num_u rfl FieldTW.num_size HD.out ?_) | (show wpList _ _ _ (⟨_, Op.buildSlice _ _ _, _, _, _, _⟩ :: _) _ _; refine buildN2 _ _ HC.out HD.out rfl _ _ rfl rfl rfl ?_))
    generalize hW2 : World.alloc _ _ = W2
    have hd := ds2 HLA.out HLB.out hW2
    obtain ⟨_, b2, _⟩ := start1 hW2
    replace A0 := Lib.hid (A0.out.below b2 A0.out.lt)
    replace A1 := Lib.hid (A1.out.below b2 A1.out.lt)
    replace AR := Lib.hid (AR.out.below b2 AR.out.lt)
    replace HT := Lib.hid (HT.out.below b2)
    replace HBw := Lib.hid (HBw.out.trans (b2.mono (by have := HSZ.out; omega)))
    replace HSZ := Lib.hid (Nat.le_trans HSZ.out b2.size)
    have HR := Lib.hid (reduced_any _ [a, b] 2 W2 hd (by simp) HT.out)
    rw [HOk.out] at HR
    clear hd b2 hW2
    refine HR.out.mono ?_
    clear HR
    rintro e W3 ⟨rfl, b3⟩
    replace A0 := Lib.hid (A0.out.below b3 A0.out.lt)
    replace A1 := Lib.hid (A1.out.below b3 A1.out.lt)
    replace AR := Lib.hid (AR.out.below b3 AR.out.lt)
    replace HT := Lib.hid (HT.out.below b3)
    replace HBw := Lib.hid (HBw.out.trans (b3.mono (by have := HSZ.out; omega)))
    replace HSZ := Lib.hid (Nat.le_trans HSZ.out b3.size)
    clear b3
    go_upto_region 3 with (fail)
    have hab := ab W3
    have Q0 := Lib.hid (show ∀ V, Below W3.heap.size W3 V → Calls Tryd.prog 29 #[.agg (Lib.byteCells a).toArray] V fun e w' => e = .returned (.agg (nc (wd x.val 4)).toArray) ∧ Below W3.heap.size W3 w' from fun V hV =>
      (HRa.out V).mono fun e w' ⟨he, hb⟩ => ⟨he, hV.trans (hb.mono hV.size)⟩)
    have Q1 := Lib.hid (show ∀ V, Below W3.heap.size W3 V → Calls Tryd.prog 29 #[.agg (Lib.byteCells b).toArray] V fun e w' => e = .returned (.agg (nc (wd y.val 4)).toArray) ∧ Below W3.heap.size W3 w' from fun V hV =>
      (HRb.out V).mono fun e w' ⟨he, hb⟩ => ⟨he, hV.trans (hb.mono hV.size)⟩)
    have Q2 := Lib.hid (show ∀ V, Below W3.heap.size W3 V → Calls Tryd.prog 30 #[.agg (nc (wd y.val 4)).toArray] V fun e w' => e = .returned (.agg (nc (wd z 4)).toArray) ∧ Below W3.heap.size W3 w' from fun V hV =>
      (HNg.out V (Tab.below HT.out hV)).mono fun e w' ⟨he, hb⟩ => ⟨he, hV.trans (hb.mono hV.size)⟩)
    have Q3 := Lib.hid (show ∀ V, Below W3.heap.size W3 V → Calls Tryd.prog 28 #[.agg (nc (wd x.val 4)).toArray, .agg (nc (wd z 4)).toArray] V fun e w' => e = .returned (.agg (nc (wd s 4)).toArray) ∧ Below W3.heap.size W3 w' from fun V hV =>
      (HAd.out V).mono fun e w' ⟨he, hb⟩ => ⟨he, hV.trans (hb.mono hV.size)⟩)
    have Q4 := Lib.hid (show ∀ V, Below W3.heap.size W3 V → Calls Tryd.prog 27 #[.agg (nc (wd s 4)).toArray] V fun e w' => e = .returned (.agg (nc (wd R.val 4)).toArray) ∧ Below W3.heap.size W3 w' from fun V hV =>
      (HRm.out V).mono fun e w' ⟨he, hb⟩ => ⟨he, hV.trans (hb.mono hV.size)⟩)
    have Q5 := Lib.hid (show ∀ V, Below W3.heap.size W3 V → Calls Tryd.prog 26 #[.agg (nc (wd R.val 4)).toArray] V fun e w' => e = .returned (.agg (Lib.byteCells (toL R)).toArray) ∧ Below W3.heap.size W3 w' from fun V hV =>
      (write_any R.val V).mono fun e w' ⟨he, hb⟩ => ⟨he, hV.trans (hb.mono hV.size)⟩)
    refine Phase.wp_region_phases [([], [0, 1, 2, 3, 4, 5, 6, 7], some 8), ([], [9], none)] (fun V => ∃ x : Ab W3, V = x.val) (by kernel_rfl) (by kernel_rfl) (fun _ _ d _ _ h => by cases d <;> exact h) (Cl.of (Below.refl _ _).drew) ?_
    refine Phase.g_alone rfl ?_
    refine Phase.p_nil ?_
    refine Phase.q_step rfl (fun K hK => want rfl ?_)
    refine Arr.loadQ (fun V (h : ∃ x : Ab W3, V = x.val) => A0.out.below (Cl.below h) A0.out.lt) 23 (.tmp 2) rfl rfl FieldTW.num_u rfl FieldTW.num_size HC.out ?_
    refine hK _ ?_
    clear hK K
    refine Phase.q_step rfl (fun K hK => ?_); go_simp; apply Exists.intro; refine ⟨fun x => ?_, hK _ ?_⟩; (exact call_cl Q0.out x); clear hK K
    refine Phase.q_step rfl (fun K hK => want rfl ?_)
    refine Arr.loadQ (fun V (h : ∃ x : Ab W3, V = x.val) => A1.out.below (Cl.below h) A1.out.lt) 23 (.tmp 3) rfl rfl FieldTW.num_u rfl FieldTW.num_size HD.out ?_
    refine hK _ ?_
    clear hK K
    refine Phase.q_step rfl (fun K hK => ?_); go_simp; apply Exists.intro; refine ⟨fun x => ?_, hK _ ?_⟩; (exact call_cl Q1.out x); clear hK K
    refine Phase.q_step rfl (fun K hK => ?_); go_simp; apply Exists.intro; refine ⟨fun x => ?_, hK _ ?_⟩; (exact call_cl Q2.out x); clear hK K
    refine Phase.q_step rfl (fun K hK => ?_); go_simp; apply Exists.intro; refine ⟨fun x => ?_, hK _ ?_⟩; (exact call_cl Q3.out x); clear hK K
    refine Phase.q_step rfl (fun K hK => ?_); go_simp; apply Exists.intro; refine ⟨fun x => ?_, hK _ ?_⟩; (exact call_cl Q4.out x); clear hK K
    refine Phase.q_step rfl (fun K hK => ?_); go_simp; apply Exists.intro; refine ⟨fun x => ?_, hK _ ?_⟩; (exact call_cl Q5.out x); clear hK K
    refine Phase.q_nil ?_
    rintro V hV K hK
    have hBV := Cl.below hV
    have hAV := AR.out.below hBV AR.out.lt
    refine want rfl ?_
    refine Arr.storeO hAV 23 (.tmp 4) (.tmp 19) rfl rfl (Lib.byteCells (toL R)) rfl FieldTW.num_size (by rfl) HTL.out (bytes_one _) ?_
    have AF := Lib.hid (hAV.row (Lib.byteCells (toL R)))
    have HBF := Lib.hid (below_row (HBw.out.trans (hBV.mono (by have := HSZ.out; omega))) (show g ≤ g + 2 by omega) (Lib.byteCells (toL R)).toArray)
    generalize World.setRow _ _ _ = w5 at *
    refine hK _ _ ⟨fun X => X = w5, rfl, ?_⟩
    clear hK K hV hBV hAV
    refine Phase.g_quiet ?_
    refine Phase.p_nil ?_
    refine Phase.q_step rfl (fun K hK => ?_); go_simp; refine hK _ ?_; clear hK K
    refine Phase.q_nil ?_
    refine Phase.g_nil ?_
    intro wz hz
    rw [show wz = w5 from hz]
    clear hz
    go_wp2
    refine bodyPost_ret (v := .tuple #[.agg (Lib.byteCells (toL R)).toArray, .int .i64 0]) (by exact AF.out.ret2 rfl _ rfl rfl FieldTW.num_u rfl FieldTW.num_size HTL.out) rfl ⟨rfl, by rw [HG.out]; exact HBF.out⟩
  · have HOk := Lib.hid (show allR [a, b] = false by
      rw [allR2, Bool.eq_false_iff]
      intro h
      rw [Bool.and_eq_true, decide_eq_true_eq, decide_eq_true_eq] at h
      exact hr h)
    rw [show subM a b = (zeros, 2) from binM_bad hr]
    clear hr ha hb
    go_enter Tryd.func10, Tryd.ntmps10
    go_upto_region 1 with (fail)
    generalize hW : World.alloc _ _ = W
    obtain ⟨H0, H1, H2, hbw, hsz⟩ := start3 hW
    clear hW
    have A0 : Hid (Arr W (w.heap.size) 23 (Lib.byteCells a)) := Lib.hid H0
    have A1 : Hid (Arr W (w.heap.size + 1) 23 (Lib.byteCells b)) := Lib.hid H1
    have AR : Hid (Arr W (w.heap.size + 2) 23 (Lib.byteCells zeros)) := Lib.hid H2
    have HT := Lib.hid (hT.below hbw)
    obtain ⟨g, hg⟩ : ∃ g, w.heap.size = g := ⟨_, rfl⟩
    have HBw : Hid (Below g w W) := Lib.hid (by rw [← hg]; exact hbw)
    have HSZ : Hid (g + 3 ≤ W.heap.size) := Lib.hid (by rw [← hg]; omega)
    have HG := Lib.hid hg
    rw [hg] at A0 A1 AR
    simp only [hg]
    clear H0 H1 H2 hbw hsz hg hT
    go_wp2_with (first | (show wpList _ _ _ (⟨_, Op.load _ (.tmp 2), _, _, _, _⟩ :: _) _ _; refine Arr.loadL A0.out rfl 23 (.tmp 2) rfl rfl FieldTW.num_u rfl FieldTW.num_size HC.out ?_) | (show wpList _ _ _ (⟨_, Op.load _ (.tmp 3), _, _, _, _⟩ :: _) _ _; refine Arr.loadL A1.out rfl 23 (.tmp 3) rfl rfl FieldTW.num_u rfl FieldTW.num_size HD.out ?_) | (show wpList _ _ _ (⟨_, Op.buildSlice _ _ _, _, _, _, _⟩ :: _) _ _; refine buildN2 _ _ HC.out HD.out rfl _ _ rfl rfl rfl ?_))
    generalize hW2 : World.alloc _ _ = W2
    have hd := ds2 HLA.out HLB.out hW2
    obtain ⟨_, b2, _⟩ := start1 hW2
    replace A0 := Lib.hid (A0.out.below b2 A0.out.lt)
    replace A1 := Lib.hid (A1.out.below b2 A1.out.lt)
    replace AR := Lib.hid (AR.out.below b2 AR.out.lt)
    replace HT := Lib.hid (HT.out.below b2)
    replace HBw := Lib.hid (HBw.out.trans (b2.mono (by have := HSZ.out; omega)))
    replace HSZ := Lib.hid (Nat.le_trans HSZ.out b2.size)
    have HR := Lib.hid (reduced_any _ [a, b] 2 W2 hd (by simp) HT.out)
    rw [HOk.out] at HR
    clear hd b2 hW2
    refine HR.out.mono ?_
    clear HR
    rintro e W3 ⟨rfl, b3⟩
    replace A0 := Lib.hid (A0.out.below b3 A0.out.lt)
    replace A1 := Lib.hid (A1.out.below b3 A1.out.lt)
    replace AR := Lib.hid (AR.out.below b3 AR.out.lt)
    replace HT := Lib.hid (HT.out.below b3)
    replace HBw := Lib.hid (HBw.out.trans (b3.mono (by have := HSZ.out; omega)))
    replace HSZ := Lib.hid (Nat.le_trans HSZ.out b3.size)
    clear b3
    have AF := Lib.hid (AR.out.row (Lib.byteCells zeros))
    have HBF := Lib.hid (below_row HBw.out (show g ≤ g + 2 by omega) (Lib.byteCells zeros).toArray)
    go_wp2_with (first | (show wpList _ _ _ (⟨_, Op.build _ _, _, _, _, _⟩ :: _) _ _; refine buildL rfl rfl rfl (znum _) ?_) | (show wpList _ _ _ (⟨_, Op.store _ (.tmp 4) _, _, _, _, _⟩ :: _) _ _; refine Arr.storeL AR.out rfl 23 (.tmp 4) (.tmp 11) rfl rfl (Lib.byteCells zeros) rfl FieldTW.num_size (by rfl) (by rfl) (bytes_one _) ?_))
    refine bodyPost_ret (v := .tuple #[.agg (Lib.byteCells zeros).toArray, .int .i64 2]) (by exact AF.out.ret2 rfl _ rfl rfl FieldTW.num_u rfl FieldTW.num_size (by rfl)) rfl ⟨rfl, by rw [HG.out]; exact HBF.out⟩

set_option maxHeartbeats 1000000 in
set_option maxRecDepth 100000 in
theorem fmul_any (a b : List UInt8) (ha : a.length = 32) (hb : b.length = 32) (w : World) (hT : TabP w) :
    Calls Tryd.prog 11 #[.agg (Lib.byteCells a).toArray, .agg (Lib.byteCells b).toArray] w fun e w' => e = .returned (.tuple #[.agg (Lib.byteCells (mulM a b).1).toArray, .int .i64 (mulM a b).2]) ∧ Below w.heap.size w w' := by
  have HLA := Lib.hid ha
  have HLB := Lib.hid hb
  have HC := Lib.hid (bc32 ha)
  have HD := Lib.hid (bc32 hb)
  by_cases hr : leN a < P ∧ leN b < P
  · have HOk := Lib.hid (show allR [a, b] = true by rw [allR2, decide_eq_true hr.1, decide_eq_true hr.2]; rfl)
    have hx := val_ofL hr.1
    have hy := val_ofL hr.2
    rw [show mulM a b = (toL (ofL a * ofL b), 0) from binM_ok hr.1 hr.2]
    obtain ⟨x, hxx⟩ : ∃ x, ofL a = x := ⟨_, rfl⟩
    obtain ⟨y, hyy⟩ : ∃ x, ofL b = x := ⟨_, rfl⟩
    rw [hxx] at hx ⊢
    rw [hyy] at hy ⊢
    have HRa := Lib.hid (fun V => read_any a HLA.out V)
    have HRb := Lib.hid (fun V => read_any b HLB.out V)
    rw [← hx] at HRa
    rw [← hy] at HRb
    obtain ⟨R, hR⟩ : ∃ R, x * y = R := ⟨_, rfl⟩
    rw [hR]
    have HRR := Lib.hid hR
    clear hR
    have HTm := Lib.hid (fun V => times_any x y V)
    rw [HRR.out] at HTm
    have HTL := Lib.hid (show (Lib.byteCells (toL R)).length = 32 by rw [Lib.byteCells_length, toL_len])
    clear hr hx hy hxx hyy ha hb
    go_enter Tryd.func11, Tryd.ntmps11
    go_upto_region 1 with (fail)
    generalize hW : World.alloc _ _ = W
    obtain ⟨H0, H1, H2, hbw, hsz⟩ := start3 hW
    clear hW
    have A0 : Hid (Arr W (w.heap.size) 23 (Lib.byteCells a)) := Lib.hid H0
    have A1 : Hid (Arr W (w.heap.size + 1) 23 (Lib.byteCells b)) := Lib.hid H1
    have AR : Hid (Arr W (w.heap.size + 2) 23 (Lib.byteCells zeros)) := Lib.hid H2
    have HT := Lib.hid (hT.below hbw)
    obtain ⟨g, hg⟩ : ∃ g, w.heap.size = g := ⟨_, rfl⟩
    have HBw : Hid (Below g w W) := Lib.hid (by rw [← hg]; exact hbw)
    have HSZ : Hid (g + 3 ≤ W.heap.size) := Lib.hid (by rw [← hg]; omega)
    have HG := Lib.hid hg
    rw [hg] at A0 A1 AR
    simp only [hg]
    clear H0 H1 H2 hbw hsz hg hT
    go_wp2_with (first | (show wpList _ _ _ (⟨_, Op.load _ (.tmp 2), _, _, _, _⟩ :: _) _ _; refine Arr.loadL A0.out rfl 23 (.tmp 2) rfl rfl FieldTW.num_u rfl FieldTW.num_size HC.out ?_) | (show wpList _ _ _ (⟨_, Op.load _ (.tmp 3), _, _, _, _⟩ :: _) _ _; refine Arr.loadL A1.out rfl 23 (.tmp 3) rfl rfl FieldTW.num_u rfl FieldTW.num_size HD.out ?_) | (show wpList _ _ _ (⟨_, Op.buildSlice _ _ _, _, _, _, _⟩ :: _) _ _; refine buildN2 _ _ HC.out HD.out rfl _ _ rfl rfl rfl ?_))
    generalize hW2 : World.alloc _ _ = W2
    have hd := ds2 HLA.out HLB.out hW2
    obtain ⟨_, b2, _⟩ := start1 hW2
    replace A0 := Lib.hid (A0.out.below b2 A0.out.lt)
    replace A1 := Lib.hid (A1.out.below b2 A1.out.lt)
    replace AR := Lib.hid (AR.out.below b2 AR.out.lt)
    replace HT := Lib.hid (HT.out.below b2)
    replace HBw := Lib.hid (HBw.out.trans (b2.mono (by have := HSZ.out; omega)))
    replace HSZ := Lib.hid (Nat.le_trans HSZ.out b2.size)
    have HR := Lib.hid (reduced_any _ [a, b] 2 W2 hd (by simp) HT.out)
    rw [HOk.out] at HR
    clear hd b2 hW2
    refine HR.out.mono ?_
    clear HR
    rintro e W3 ⟨rfl, b3⟩
    replace A0 := Lib.hid (A0.out.below b3 A0.out.lt)
    replace A1 := Lib.hid (A1.out.below b3 A1.out.lt)
    replace AR := Lib.hid (AR.out.below b3 AR.out.lt)
    replace HT := Lib.hid (HT.out.below b3)
    replace HBw := Lib.hid (HBw.out.trans (b3.mono (by have := HSZ.out; omega)))
    replace HSZ := Lib.hid (Nat.le_trans HSZ.out b3.size)
    clear b3
    go_upto_region 3 with (fail)
    have hab := ab W3
    have Q0 := Lib.hid (show ∀ V, Below W3.heap.size W3 V → Calls Tryd.prog 29 #[.agg (Lib.byteCells a).toArray] V fun e w' => e = .returned (.agg (nc (wd x.val 4)).toArray) ∧ Below W3.heap.size W3 w' from fun V hV =>
      (HRa.out V).mono fun e w' ⟨he, hb⟩ => ⟨he, hV.trans (hb.mono hV.size)⟩)
    have Q1 := Lib.hid (show ∀ V, Below W3.heap.size W3 V → Calls Tryd.prog 29 #[.agg (Lib.byteCells b).toArray] V fun e w' => e = .returned (.agg (nc (wd y.val 4)).toArray) ∧ Below W3.heap.size W3 w' from fun V hV =>
      (HRb.out V).mono fun e w' ⟨he, hb⟩ => ⟨he, hV.trans (hb.mono hV.size)⟩)
    have Q2 := Lib.hid (show ∀ V, Below W3.heap.size W3 V → Calls Tryd.prog 31 #[.agg (nc (wd x.val 4)).toArray, .agg (nc (wd y.val 4)).toArray] V fun e w' => e = .returned (.agg (nc (wd R.val 4)).toArray) ∧ Below W3.heap.size W3 w' from fun V hV =>
      (HTm.out V).mono fun e w' ⟨he, hb⟩ => ⟨he, hV.trans (hb.mono hV.size)⟩)
    have Q3 := Lib.hid (show ∀ V, Below W3.heap.size W3 V → Calls Tryd.prog 26 #[.agg (nc (wd R.val 4)).toArray] V fun e w' => e = .returned (.agg (Lib.byteCells (toL R)).toArray) ∧ Below W3.heap.size W3 w' from fun V hV =>
      (write_any R.val V).mono fun e w' ⟨he, hb⟩ => ⟨he, hV.trans (hb.mono hV.size)⟩)
    refine Phase.wp_region_phases [([], [0, 1, 2, 3, 4, 5], some 6), ([], [7], none)] (fun V => ∃ x : Ab W3, V = x.val) (by kernel_rfl) (by kernel_rfl) (fun _ _ d _ _ h => by cases d <;> exact h) (Cl.of (Below.refl _ _).drew) ?_
    refine Phase.g_alone rfl ?_
    refine Phase.p_nil ?_
    refine Phase.q_step rfl (fun K hK => want rfl ?_)
    refine Arr.loadQ (fun V (h : ∃ x : Ab W3, V = x.val) => A0.out.below (Cl.below h) A0.out.lt) 23 (.tmp 2) rfl rfl FieldTW.num_u rfl FieldTW.num_size HC.out ?_
    refine hK _ ?_
    clear hK K
    refine Phase.q_step rfl (fun K hK => ?_); go_simp; apply Exists.intro; refine ⟨fun x => ?_, hK _ ?_⟩; (exact call_cl Q0.out x); clear hK K
    refine Phase.q_step rfl (fun K hK => want rfl ?_)
    refine Arr.loadQ (fun V (h : ∃ x : Ab W3, V = x.val) => A1.out.below (Cl.below h) A1.out.lt) 23 (.tmp 3) rfl rfl FieldTW.num_u rfl FieldTW.num_size HD.out ?_
    refine hK _ ?_
    clear hK K
    refine Phase.q_step rfl (fun K hK => ?_); go_simp; apply Exists.intro; refine ⟨fun x => ?_, hK _ ?_⟩; (exact call_cl Q1.out x); clear hK K
    refine Phase.q_step rfl (fun K hK => ?_); go_simp; apply Exists.intro; refine ⟨fun x => ?_, hK _ ?_⟩; (exact call_cl Q2.out x); clear hK K
    refine Phase.q_step rfl (fun K hK => ?_); go_simp; apply Exists.intro; refine ⟨fun x => ?_, hK _ ?_⟩; (exact call_cl Q3.out x); clear hK K
    refine Phase.q_nil ?_
    rintro V hV K hK
    have hBV := Cl.below hV
    have hAV := AR.out.below hBV AR.out.lt
    refine want rfl ?_
    refine Arr.storeO hAV 23 (.tmp 4) (.tmp 17) rfl rfl (Lib.byteCells (toL R)) rfl FieldTW.num_size (by rfl) HTL.out (bytes_one _) ?_
    have AF := Lib.hid (hAV.row (Lib.byteCells (toL R)))
    have HBF := Lib.hid (below_row (HBw.out.trans (hBV.mono (by have := HSZ.out; omega))) (show g ≤ g + 2 by omega) (Lib.byteCells (toL R)).toArray)
    generalize World.setRow _ _ _ = w5 at *
    refine hK _ _ ⟨fun X => X = w5, rfl, ?_⟩
    clear hK K hV hBV hAV
    refine Phase.g_quiet ?_
    refine Phase.p_nil ?_
    refine Phase.q_step rfl (fun K hK => ?_); go_simp; refine hK _ ?_; clear hK K
    refine Phase.q_nil ?_
    refine Phase.g_nil ?_
    intro wz hz
    rw [show wz = w5 from hz]
    clear hz
    go_wp2
    refine bodyPost_ret (v := .tuple #[.agg (Lib.byteCells (toL R)).toArray, .int .i64 0]) (by exact AF.out.ret2 rfl _ rfl rfl FieldTW.num_u rfl FieldTW.num_size HTL.out) rfl ⟨rfl, by rw [HG.out]; exact HBF.out⟩
  · have HOk := Lib.hid (show allR [a, b] = false by
      rw [allR2, Bool.eq_false_iff]
      intro h
      rw [Bool.and_eq_true, decide_eq_true_eq, decide_eq_true_eq] at h
      exact hr h)
    rw [show mulM a b = (zeros, 2) from binM_bad hr]
    clear hr ha hb
    go_enter Tryd.func11, Tryd.ntmps11
    go_upto_region 1 with (fail)
    generalize hW : World.alloc _ _ = W
    obtain ⟨H0, H1, H2, hbw, hsz⟩ := start3 hW
    clear hW
    have A0 : Hid (Arr W (w.heap.size) 23 (Lib.byteCells a)) := Lib.hid H0
    have A1 : Hid (Arr W (w.heap.size + 1) 23 (Lib.byteCells b)) := Lib.hid H1
    have AR : Hid (Arr W (w.heap.size + 2) 23 (Lib.byteCells zeros)) := Lib.hid H2
    have HT := Lib.hid (hT.below hbw)
    obtain ⟨g, hg⟩ : ∃ g, w.heap.size = g := ⟨_, rfl⟩
    have HBw : Hid (Below g w W) := Lib.hid (by rw [← hg]; exact hbw)
    have HSZ : Hid (g + 3 ≤ W.heap.size) := Lib.hid (by rw [← hg]; omega)
    have HG := Lib.hid hg
    rw [hg] at A0 A1 AR
    simp only [hg]
    clear H0 H1 H2 hbw hsz hg hT
    go_wp2_with (first | (show wpList _ _ _ (⟨_, Op.load _ (.tmp 2), _, _, _, _⟩ :: _) _ _; refine Arr.loadL A0.out rfl 23 (.tmp 2) rfl rfl FieldTW.num_u rfl FieldTW.num_size HC.out ?_) | (show wpList _ _ _ (⟨_, Op.load _ (.tmp 3), _, _, _, _⟩ :: _) _ _; refine Arr.loadL A1.out rfl 23 (.tmp 3) rfl rfl FieldTW.num_u rfl FieldTW.num_size HD.out ?_) | (show wpList _ _ _ (⟨_, Op.buildSlice _ _ _, _, _, _, _⟩ :: _) _ _; refine buildN2 _ _ HC.out HD.out rfl _ _ rfl rfl rfl ?_))
    generalize hW2 : World.alloc _ _ = W2
    have hd := ds2 HLA.out HLB.out hW2
    obtain ⟨_, b2, _⟩ := start1 hW2
    replace A0 := Lib.hid (A0.out.below b2 A0.out.lt)
    replace A1 := Lib.hid (A1.out.below b2 A1.out.lt)
    replace AR := Lib.hid (AR.out.below b2 AR.out.lt)
    replace HT := Lib.hid (HT.out.below b2)
    replace HBw := Lib.hid (HBw.out.trans (b2.mono (by have := HSZ.out; omega)))
    replace HSZ := Lib.hid (Nat.le_trans HSZ.out b2.size)
    have HR := Lib.hid (reduced_any _ [a, b] 2 W2 hd (by simp) HT.out)
    rw [HOk.out] at HR
    clear hd b2 hW2
    refine HR.out.mono ?_
    clear HR
    rintro e W3 ⟨rfl, b3⟩
    replace A0 := Lib.hid (A0.out.below b3 A0.out.lt)
    replace A1 := Lib.hid (A1.out.below b3 A1.out.lt)
    replace AR := Lib.hid (AR.out.below b3 AR.out.lt)
    replace HT := Lib.hid (HT.out.below b3)
    replace HBw := Lib.hid (HBw.out.trans (b3.mono (by have := HSZ.out; omega)))
    replace HSZ := Lib.hid (Nat.le_trans HSZ.out b3.size)
    clear b3
    have AF := Lib.hid (AR.out.row (Lib.byteCells zeros))
    have HBF := Lib.hid (below_row HBw.out (show g ≤ g + 2 by omega) (Lib.byteCells zeros).toArray)
    go_wp2_with (first | (show wpList _ _ _ (⟨_, Op.build _ _, _, _, _, _⟩ :: _) _ _; refine buildL rfl rfl rfl (znum _) ?_) | (show wpList _ _ _ (⟨_, Op.store _ (.tmp 4) _, _, _, _, _⟩ :: _) _ _; refine Arr.storeL AR.out rfl 23 (.tmp 4) (.tmp 11) rfl rfl (Lib.byteCells zeros) rfl FieldTW.num_size (by rfl) (by rfl) (bytes_one _) ?_))
    refine bodyPost_ret (v := .tuple #[.agg (Lib.byteCells zeros).toArray, .int .i64 2]) (by exact AF.out.ret2 rfl _ rfl rfl FieldTW.num_u rfl FieldTW.num_size (by rfl)) rfl ⟨rfl, by rw [HG.out]; exact HBF.out⟩

set_option maxHeartbeats 1000000 in
set_option maxRecDepth 100000 in
theorem finv_any (a : List UInt8) (ha : a.length = 32) (w : World) (hT : TabP w) :
    Calls Tryd.prog 19 #[.agg (Lib.byteCells a).toArray] w fun e w' => e = .returned (.tuple #[.agg (Lib.byteCells (invM a).1).toArray, .int .i64 (invM a).2]) ∧ Below w.heap.size w w' := by
  have HLA := Lib.hid ha
  have HC := Lib.hid (bc32 ha)
  by_cases hr : leN a < P
  · have HOk := Lib.hid (show allR [a] = true by rw [allR1, decide_eq_true hr])
    have hx := val_ofL hr
    obtain ⟨x, hxx⟩ : ∃ x, ofL a = x := ⟨_, rfl⟩
    rw [hxx] at hx
    have HRa := Lib.hid (fun V => read_any a HLA.out V)
    rw [← hx] at HRa
    have HIv := Lib.hid (fun V => inverse_any x V)
    have hq : ∀ V : World, (Op.equalIn 10000 46 (.agg (nc (wd x.val 4)).toArray) (.agg (nc (wd 0 4)).toArray)).run Tryd.prog V = .ok (decide (x = 0)) V := fun V => eqw x 0 V
    have HQ := Lib.hid hq
    have hzb : ∀ V : World, (Instr.build 46 #[]).run Tryd.prog V = .ok (.agg (nc (wd 0 4)).toArray) V := fun V => by kernel_rfl
    have HZ := Lib.hid hzb
    clear hq hzb
    have HM : Hid ((x = 0 ∧ invM a = (zeros, 3)) ∨ (x ≠ 0 ∧ invM a = (toL (inv x), 0))) := Lib.hid (by
      unfold invM
      rw [if_pos hr, hxx]
      by_cases h0 : leN a = 0
      · rw [if_pos h0]
        exact .inl ⟨of_val (by rw [hx, h0]; rfl), rfl⟩
      · rw [if_neg h0]
        exact .inr ⟨fun e => h0 (by rw [← hx, e]; rfl), rfl⟩)
    obtain ⟨M, hM⟩ : ∃ M, invM a = M := ⟨_, rfl⟩
    rw [hM] at HM ⊢
    clear hr hx hxx ha hM
    go_enter Tryd.func19, Tryd.ntmps19
    go_upto_region 1 with (fail)
    generalize hW : World.alloc _ _ = W
    obtain ⟨H0, H1, hbw, hsz⟩ := start2 hW
    clear hW
    have A0 : Hid (Arr W (w.heap.size) 23 (Lib.byteCells a)) := Lib.hid H0
    have AR : Hid (Arr W (w.heap.size + 1) 23 (Lib.byteCells zeros)) := Lib.hid H1
    have HT := Lib.hid (hT.below hbw)
    obtain ⟨g, hg⟩ : ∃ g, w.heap.size = g := ⟨_, rfl⟩
    have HBw : Hid (Below g w W) := Lib.hid (by rw [← hg]; exact hbw)
    have HSZ : Hid (g + 2 ≤ W.heap.size) := Lib.hid (by rw [← hg]; omega)
    have HG := Lib.hid hg
    rw [hg] at A0 AR
    simp only [hg]
    clear H0 H1 hbw hsz hg hT
    go_wp2_with (first | (show wpList _ _ _ (⟨_, Op.load _ (.tmp 1), _, _, _, _⟩ :: _) _ _; refine Arr.loadL A0.out rfl 23 (.tmp 1) rfl rfl FieldTW.num_u rfl FieldTW.num_size HC.out ?_) | (show wpList _ _ _ (⟨_, Op.buildSlice _ _ _, _, _, _, _⟩ :: _) _ _; refine buildN1 _ HC.out rfl _ rfl rfl ?_))
    generalize hW2 : World.alloc _ _ = W2
    have hd := ds1 HLA.out hW2
    obtain ⟨_, b2, _⟩ := start1 hW2
    replace A0 := Lib.hid (A0.out.below b2 A0.out.lt)
    replace AR := Lib.hid (AR.out.below b2 AR.out.lt)
    replace HT := Lib.hid (HT.out.below b2)
    replace HBw := Lib.hid (HBw.out.trans (b2.mono (by have := HSZ.out; omega)))
    replace HSZ := Lib.hid (Nat.le_trans HSZ.out b2.size)
    have HR := Lib.hid (reduced_any _ [a] 1 W2 hd (by simp) HT.out)
    rw [HOk.out] at HR
    clear hd b2 hW2
    refine HR.out.mono ?_
    clear HR
    rintro e W3 ⟨rfl, b3⟩
    replace A0 := Lib.hid (A0.out.below b3 A0.out.lt)
    replace AR := Lib.hid (AR.out.below b3 AR.out.lt)
    replace HT := Lib.hid (HT.out.below b3)
    replace HBw := Lib.hid (HBw.out.trans (b3.mono (by have := HSZ.out; omega)))
    replace HSZ := Lib.hid (Nat.le_trans HSZ.out b3.size)
    clear b3
    go_wp2_with (show wpList _ _ _ (⟨_, Op.load _ (.tmp 1), _, _, _, _⟩ :: _) _ _; refine Arr.loadL A0.out rfl 23 (.tmp 1) rfl rfl FieldTW.num_u rfl FieldTW.num_size HC.out ?_)
    refine (HRa.out W3).mono ?_
    clear HRa
    rintro e W4 ⟨rfl, b4⟩
    replace A0 := Lib.hid (A0.out.below b4 A0.out.lt)
    replace AR := Lib.hid (AR.out.below b4 AR.out.lt)
    replace HT := Lib.hid (HT.out.below b4)
    replace HBw := Lib.hid (HBw.out.trans (b4.mono (by have := HSZ.out; omega)))
    replace HSZ := Lib.hid (Nat.le_trans HSZ.out b4.size)
    clear b4
    go_upto_region 4 with (show wpList _ _ _ (⟨_, Op.store _ (.tmp 4) _, _, _, _, _⟩ :: _) _ _; refine Arr.storeL (Arr.new W4 _ _) rfl 46 (.tmp 4) (.tmp 11) rfl rfl (nc (wd x.val 4)) rfl wnum_size (by rfl) (wd4 _) (nc_one _) ?_)
    generalize hw : World.setRow _ _ _ = W5
    obtain ⟨an, bn, zn⟩ := filled hw
    obtain ⟨p, hp⟩ : ∃ p, W4.heap.size = p := ⟨_, rfl⟩
    have HP := Lib.hid (show g + 2 ≤ p by rw [← hp]; exact HSZ.out)
    rw [hp] at an ⊢
    have AX := Lib.hid an
    clear an hw hp zn
    replace A0 := Lib.hid (A0.out.below bn A0.out.lt)
    replace AR := Lib.hid (AR.out.below bn AR.out.lt)
    replace HT := Lib.hid (HT.out.below bn)
    replace HBw := Lib.hid (HBw.out.trans (bn.mono (by have := HSZ.out; omega)))
    replace HSZ := Lib.hid (Nat.le_trans HSZ.out bn.size)
    clear bn
    have hq := HQ.out W5
    rcases HM.out with ⟨h1, rfl⟩ | ⟨h1, rfl⟩
    · rw [decide_eq_true h1] at hq
      clear HM h1
      have AF := Lib.hid (AR.out.row (Lib.byteCells zeros))
      have HBF := Lib.hid (below_row HBw.out (show g ≤ g + 1 by omega) (Lib.byteCells zeros).toArray)
      go_wp2_with (first | (show wpList _ _ _ (⟨_, Op.load _ (.tmp 4), _, _, _, _⟩ :: _) _ _; refine Arr.loadL AX.out rfl 46 (.tmp 4) rfl rfl wnum_u rfl wnum_size (wd4 _) ?_) | (show wpList _ _ _ (⟨_, Op.build 46 _, _, _, _, _⟩ :: _) _ _; refine buildL rfl rfl rfl (HZ.out _) ?_) | (show wpList _ _ _ (⟨_, Op.build 23 _, _, _, _, _⟩ :: _) _ _; refine buildL rfl rfl rfl (znum _) ?_) | (show wpList _ _ _ (⟨_, Op.store _ (.tmp 2) _, _, _, _, _⟩ :: _) _ _; refine Arr.storeL AR.out rfl 23 (.tmp 2) (.tmp 15) rfl rfl (Lib.byteCells zeros) rfl FieldTW.num_size (by rfl) (by rfl) (bytes_one _) ?_))
      refine bodyPost_ret (v := .tuple #[.agg (Lib.byteCells zeros).toArray, .int .i64 3]) (by exact AF.out.ret2 rfl _ rfl rfl FieldTW.num_u rfl FieldTW.num_size (by rfl)) rfl ⟨rfl, by rw [HG.out]; exact HBF.out⟩
    · rw [decide_eq_false h1] at hq
      clear HM h1
      go_wp2_with (first | (show wpList _ _ _ (⟨_, Op.load _ (.tmp 4), _, _, _, _⟩ :: _) _ _; refine Arr.loadL AX.out rfl 46 (.tmp 4) rfl rfl wnum_u rfl wnum_size (wd4 _) ?_) | (show wpList _ _ _ (⟨_, Op.build 46 _, _, _, _, _⟩ :: _) _ _; refine buildL rfl rfl rfl (HZ.out _) ?_))
      refine (HIv.out W5).mono ?_
      clear HIv hq
      rintro e W6 ⟨rfl, b6⟩
      replace AR := Lib.hid (AR.out.below b6 AR.out.lt)
      replace HBw := Lib.hid (HBw.out.trans (b6.mono (by have := HSZ.out; omega)))
      replace HSZ := Lib.hid (Nat.le_trans HSZ.out b6.size)
      clear b6
      obtain ⟨R, hR⟩ : ∃ R, inv x = R := ⟨_, rfl⟩
      rw [hR]
      have HRR := Lib.hid hR
      have HTL := Lib.hid (show (Lib.byteCells (toL R)).length = 32 by rw [Lib.byteCells_length, toL_len])
      have HWr := Lib.hid (write_any R.val W6)
      clear hR
      go_wp2_with fail
      refine HWr.out.mono ?_
      clear HWr
      rintro e W7 ⟨rfl, b7⟩
      replace AR := Lib.hid (AR.out.below b7 AR.out.lt)
      replace HBw := Lib.hid (HBw.out.trans (b7.mono (by have := HSZ.out; omega)))
      clear b7
      have AF := Lib.hid (AR.out.row (Lib.byteCells (toL R)))
      have HBF := Lib.hid (below_row HBw.out (show g ≤ g + 1 by omega) (Lib.byteCells (toL R)).toArray)
      go_wp2_with (show wpList _ _ _ (⟨_, Op.store _ (.tmp 2) _, _, _, _, _⟩ :: _) _ _; refine Arr.storeL AR.out rfl 23 (.tmp 2) (.tmp 18) rfl rfl (Lib.byteCells (toL R)) rfl FieldTW.num_size (by rfl) HTL.out (bytes_one _) ?_)
      refine bodyPost_ret (v := .tuple #[.agg (Lib.byteCells (toL R)).toArray, .int .i64 0]) (by exact AF.out.ret2 rfl _ rfl rfl FieldTW.num_u rfl FieldTW.num_size HTL.out) rfl ⟨by rw [HRR.out], by rw [HG.out]; exact HBF.out⟩
  · have HOk := Lib.hid (show allR [a] = false by rw [allR1, decide_eq_false hr])
    rw [show invM a = (zeros, 2) by unfold invM; rw [if_neg hr]]
    clear hr ha
    go_enter Tryd.func19, Tryd.ntmps19
    go_upto_region 1 with (fail)
    generalize hW : World.alloc _ _ = W
    obtain ⟨H0, H1, hbw, hsz⟩ := start2 hW
    clear hW
    have A0 : Hid (Arr W (w.heap.size) 23 (Lib.byteCells a)) := Lib.hid H0
    have AR : Hid (Arr W (w.heap.size + 1) 23 (Lib.byteCells zeros)) := Lib.hid H1
    have HT := Lib.hid (hT.below hbw)
    obtain ⟨g, hg⟩ : ∃ g, w.heap.size = g := ⟨_, rfl⟩
    have HBw : Hid (Below g w W) := Lib.hid (by rw [← hg]; exact hbw)
    have HSZ : Hid (g + 2 ≤ W.heap.size) := Lib.hid (by rw [← hg]; omega)
    have HG := Lib.hid hg
    rw [hg] at A0 AR
    simp only [hg]
    clear H0 H1 hbw hsz hg hT
    go_wp2_with (first | (show wpList _ _ _ (⟨_, Op.load _ (.tmp 1), _, _, _, _⟩ :: _) _ _; refine Arr.loadL A0.out rfl 23 (.tmp 1) rfl rfl FieldTW.num_u rfl FieldTW.num_size HC.out ?_) | (show wpList _ _ _ (⟨_, Op.buildSlice _ _ _, _, _, _, _⟩ :: _) _ _; refine buildN1 _ HC.out rfl _ rfl rfl ?_))
    generalize hW2 : World.alloc _ _ = W2
    have hd := ds1 HLA.out hW2
    obtain ⟨_, b2, _⟩ := start1 hW2
    replace A0 := Lib.hid (A0.out.below b2 A0.out.lt)
    replace AR := Lib.hid (AR.out.below b2 AR.out.lt)
    replace HT := Lib.hid (HT.out.below b2)
    replace HBw := Lib.hid (HBw.out.trans (b2.mono (by have := HSZ.out; omega)))
    replace HSZ := Lib.hid (Nat.le_trans HSZ.out b2.size)
    have HR := Lib.hid (reduced_any _ [a] 1 W2 hd (by simp) HT.out)
    rw [HOk.out] at HR
    clear hd b2 hW2
    refine HR.out.mono ?_
    clear HR
    rintro e W3 ⟨rfl, b3⟩
    replace A0 := Lib.hid (A0.out.below b3 A0.out.lt)
    replace AR := Lib.hid (AR.out.below b3 AR.out.lt)
    replace HT := Lib.hid (HT.out.below b3)
    replace HBw := Lib.hid (HBw.out.trans (b3.mono (by have := HSZ.out; omega)))
    replace HSZ := Lib.hid (Nat.le_trans HSZ.out b3.size)
    clear b3
    have AF := Lib.hid (AR.out.row (Lib.byteCells zeros))
    have HBF := Lib.hid (below_row HBw.out (show g ≤ g + 1 by omega) (Lib.byteCells zeros).toArray)
    go_wp2_with (first | (show wpList _ _ _ (⟨_, Op.build _ _, _, _, _, _⟩ :: _) _ _; refine buildL rfl rfl rfl (znum _) ?_) | (show wpList _ _ _ (⟨_, Op.store _ (.tmp 2) _, _, _, _, _⟩ :: _) _ _; refine Arr.storeL AR.out rfl 23 (.tmp 2) (.tmp 9) rfl rfl (Lib.byteCells zeros) rfl FieldTW.num_size (by rfl) (by rfl) (bytes_one _) ?_))
    refine bodyPost_ret (v := .tuple #[.agg (Lib.byteCells zeros).toArray, .int .i64 2]) (by exact AF.out.ret2 rfl _ rfl rfl FieldTW.num_u rfl FieldTW.num_size (by rfl)) rfl ⟨rfl, by rw [HG.out]; exact HBF.out⟩

set_option maxHeartbeats 1000000 in
set_option maxRecDepth 100000 in
theorem froot_any (a : List UInt8) (ha : a.length = 32) (w : World) (hT : Tabs w) :
    Calls Tryd.prog 20 #[.agg (Lib.byteCells a).toArray] w fun e w' => e = .returned (.tuple #[.agg (Lib.byteCells (rootM a).1).toArray, .int .i64 (rootM a).2]) ∧ Below w.heap.size w w' := by
  have HLA := Lib.hid ha
  have HC := Lib.hid (bc32 ha)
  by_cases hr : leN a < P
  · have HOk := Lib.hid (show allR [a] = true by rw [allR1, decide_eq_true hr])
    have hx := val_ofL hr
    obtain ⟨x, hxx⟩ : ∃ x, ofL a = x := ⟨_, rfl⟩
    rw [hxx] at hx
    have HRa := Lib.hid (fun V => read_any a HLA.out V)
    rw [← hx] at HRa
    have HRt := Lib.hid (fun V (hV : TabT V) => root_any x V hV)
    have HM : Hid ((rr x * rr x = x ∧ rootM a = (toL (FieldM.even (rr x)), 0)) ∨ (¬ rr x * rr x = x ∧ rootM a = (zeros, 3))) := Lib.hid (by
      unfold rootM
      rw [if_pos hr, hxx, rootF_rr]
      by_cases h0 : rr x * rr x = x
      · rw [if_pos h0]
        exact .inl ⟨h0, rfl⟩
      · rw [if_neg h0]
        exact .inr ⟨h0, rfl⟩)
    obtain ⟨M, hM⟩ : ∃ M, rootM a = M := ⟨_, rfl⟩
    rw [hM] at HM ⊢
    obtain ⟨r, hrr⟩ : ∃ r, rr x = r := ⟨_, rfl⟩
    rw [hrr] at HM HRt
    obtain ⟨ok, hok⟩ : ∃ b, decide (r * r = x) = b := ⟨_, rfl⟩
    rw [hok] at HRt
    have HK := Lib.hid hok
    clear hr hx hxx ha hM hrr hok
    go_enter Tryd.func20, Tryd.ntmps20
    go_upto_region 1 with (fail)
    generalize hW : World.alloc _ _ = W
    obtain ⟨H0, H1, hbw, hsz⟩ := start2 hW
    clear hW
    have A0 : Hid (Arr W (w.heap.size) 23 (Lib.byteCells a)) := Lib.hid H0
    have AR : Hid (Arr W (w.heap.size + 1) 23 (Lib.byteCells zeros)) := Lib.hid H1
    have HT := Lib.hid (hT.below hbw)
    obtain ⟨g, hg⟩ : ∃ g, w.heap.size = g := ⟨_, rfl⟩
    have HBw : Hid (Below g w W) := Lib.hid (by rw [← hg]; exact hbw)
    have HSZ : Hid (g + 2 ≤ W.heap.size) := Lib.hid (by rw [← hg]; omega)
    have HG := Lib.hid hg
    rw [hg] at A0 AR
    simp only [hg]
    clear H0 H1 hbw hsz hg hT
    go_wp2_with (first | (show wpList _ _ _ (⟨_, Op.load _ (.tmp 1), _, _, _, _⟩ :: _) _ _; refine Arr.loadL A0.out rfl 23 (.tmp 1) rfl rfl FieldTW.num_u rfl FieldTW.num_size HC.out ?_) | (show wpList _ _ _ (⟨_, Op.buildSlice _ _ _, _, _, _, _⟩ :: _) _ _; refine buildN1 _ HC.out rfl _ rfl rfl ?_))
    generalize hW2 : World.alloc _ _ = W2
    have hd := ds1 HLA.out hW2
    obtain ⟨_, b2, _⟩ := start1 hW2
    replace A0 := Lib.hid (A0.out.below b2 A0.out.lt)
    replace AR := Lib.hid (AR.out.below b2 AR.out.lt)
    replace HT := Lib.hid (HT.out.below b2)
    replace HBw := Lib.hid (HBw.out.trans (b2.mono (by have := HSZ.out; omega)))
    replace HSZ := Lib.hid (Nat.le_trans HSZ.out b2.size)
    have HR := Lib.hid (reduced_any _ [a] 1 W2 hd (by simp) HT.out.1)
    rw [HOk.out] at HR
    clear hd b2 hW2
    refine HR.out.mono ?_
    clear HR
    rintro e W3 ⟨rfl, b3⟩
    replace A0 := Lib.hid (A0.out.below b3 A0.out.lt)
    replace AR := Lib.hid (AR.out.below b3 AR.out.lt)
    replace HT := Lib.hid (HT.out.below b3)
    replace HBw := Lib.hid (HBw.out.trans (b3.mono (by have := HSZ.out; omega)))
    replace HSZ := Lib.hid (Nat.le_trans HSZ.out b3.size)
    clear b3
    go_wp2_with (show wpList _ _ _ (⟨_, Op.load _ (.tmp 1), _, _, _, _⟩ :: _) _ _; refine Arr.loadL A0.out rfl 23 (.tmp 1) rfl rfl FieldTW.num_u rfl FieldTW.num_size HC.out ?_)
    refine (HRa.out W3).mono ?_
    clear HRa
    rintro e W4 ⟨rfl, b4⟩
    replace A0 := Lib.hid (A0.out.below b4 A0.out.lt)
    replace AR := Lib.hid (AR.out.below b4 AR.out.lt)
    replace HT := Lib.hid (HT.out.below b4)
    replace HBw := Lib.hid (HBw.out.trans (b4.mono (by have := HSZ.out; omega)))
    replace HSZ := Lib.hid (Nat.le_trans HSZ.out b4.size)
    clear b4
    go_wp2_with fail
    refine (HRt.out W4 HT.out.2).mono ?_
    clear HRt
    rintro e W5 ⟨rfl, b5⟩
    replace A0 := Lib.hid (A0.out.below b5 A0.out.lt)
    replace AR := Lib.hid (AR.out.below b5 AR.out.lt)
    replace HT := Lib.hid (HT.out.below b5)
    replace HBw := Lib.hid (HBw.out.trans (b5.mono (by have := HSZ.out; omega)))
    replace HSZ := Lib.hid (Nat.le_trans HSZ.out b5.size)
    clear b5
    go_upto_region 4 with (show wpList _ _ _ (⟨_, Op.store _ (.tmp 4) _, _, _, _, _⟩ :: _) _ _; refine Arr.storeL (Arr.new W5 _ _) rfl 46 (.tmp 4) (.tmp 15) rfl rfl (nc (wd r.val 4)) rfl wnum_size (by rfl) (wd4 _) (nc_one _) ?_)
    generalize hw : World.setRow _ _ _ = W6
    obtain ⟨an, bn, zn⟩ := filled hw
    obtain ⟨p, hp⟩ : ∃ p, W5.heap.size = p := ⟨_, rfl⟩
    have HP := Lib.hid (show g + 2 ≤ p by rw [← hp]; exact HSZ.out)
    rw [hp] at an ⊢
    have AX := Lib.hid an
    clear an hw hp zn
    replace A0 := Lib.hid (A0.out.below bn A0.out.lt)
    replace AR := Lib.hid (AR.out.below bn AR.out.lt)
    replace HT := Lib.hid (HT.out.below bn)
    replace HBw := Lib.hid (HBw.out.trans (bn.mono (by have := HSZ.out; omega)))
    replace HSZ := Lib.hid (Nat.le_trans HSZ.out bn.size)
    clear bn
    rcases HM.out with ⟨h1, rfl⟩ | ⟨h1, rfl⟩
    · obtain rfl : ok = true := by rw [← HK.out]; exact decide_eq_true h1
      clear HM h1 HK
      have HEv := Lib.hid (even_any r W6 HT.out.1)
      go_wp2_with (show wpList _ _ _ (⟨_, Op.load _ (.tmp 4), _, _, _, _⟩ :: _) _ _; refine Arr.loadL AX.out rfl 46 (.tmp 4) rfl rfl wnum_u rfl wnum_size (wd4 _) ?_)
      refine HEv.out.mono ?_
      clear HEv
      rintro e W7 ⟨rfl, b6⟩
      replace AR := Lib.hid (AR.out.below b6 AR.out.lt)
      replace HBw := Lib.hid (HBw.out.trans (b6.mono (by have := HSZ.out; omega)))
      replace HSZ := Lib.hid (Nat.le_trans HSZ.out b6.size)
      clear b6
      obtain ⟨R, hR⟩ : ∃ R, FieldM.even r = R := ⟨_, rfl⟩
      rw [hR]
      have HRR := Lib.hid hR
      have HTL := Lib.hid (show (Lib.byteCells (toL R)).length = 32 by rw [Lib.byteCells_length, toL_len])
      have HWr := Lib.hid (write_any R.val W7)
      clear hR
      go_wp2_with fail
      refine HWr.out.mono ?_
      clear HWr
      rintro e W8 ⟨rfl, b7⟩
      replace AR := Lib.hid (AR.out.below b7 AR.out.lt)
      replace HBw := Lib.hid (HBw.out.trans (b7.mono (by have := HSZ.out; omega)))
      clear b7
      have AF := Lib.hid (AR.out.row (Lib.byteCells (toL R)))
      have HBF := Lib.hid (below_row HBw.out (show g ≤ g + 1 by omega) (Lib.byteCells (toL R)).toArray)
      go_wp2_with (show wpList _ _ _ (⟨_, Op.store _ (.tmp 2) _, _, _, _, _⟩ :: _) _ _; refine Arr.storeL AR.out rfl 23 (.tmp 2) (.tmp 22) rfl rfl (Lib.byteCells (toL R)) rfl FieldTW.num_size (by rfl) HTL.out (bytes_one _) ?_)
      refine bodyPost_ret (v := .tuple #[.agg (Lib.byteCells (toL R)).toArray, .int .i64 0]) (by exact AF.out.ret2 rfl _ rfl rfl FieldTW.num_u rfl FieldTW.num_size HTL.out) rfl ⟨by rw [HRR.out], by rw [HG.out]; exact HBF.out⟩
    · obtain rfl : ok = false := by rw [← HK.out]; exact decide_eq_false h1
      clear HM h1 HK
      have AF := Lib.hid (AR.out.row (Lib.byteCells zeros))
      have HBF := Lib.hid (below_row HBw.out (show g ≤ g + 1 by omega) (Lib.byteCells zeros).toArray)
      go_wp2_with (first | (show wpList _ _ _ (⟨_, Op.build _ _, _, _, _, _⟩ :: _) _ _; refine buildL rfl rfl rfl (znum _) ?_) | (show wpList _ _ _ (⟨_, Op.store _ (.tmp 2) _, _, _, _, _⟩ :: _) _ _; refine Arr.storeL AR.out rfl 23 (.tmp 2) (.tmp 19) rfl rfl (Lib.byteCells zeros) rfl FieldTW.num_size (by rfl) (by rfl) (bytes_one _) ?_))
      refine bodyPost_ret (v := .tuple #[.agg (Lib.byteCells zeros).toArray, .int .i64 3]) (by exact AF.out.ret2 rfl _ rfl rfl FieldTW.num_u rfl FieldTW.num_size (by rfl)) rfl ⟨rfl, by rw [HG.out]; exact HBF.out⟩
  · have HOk := Lib.hid (show allR [a] = false by rw [allR1, decide_eq_false hr])
    rw [show rootM a = (zeros, 2) by unfold rootM; rw [if_neg hr]]
    clear hr ha
    go_enter Tryd.func20, Tryd.ntmps20
    go_upto_region 1 with (fail)
    generalize hW : World.alloc _ _ = W
    obtain ⟨H0, H1, hbw, hsz⟩ := start2 hW
    clear hW
    have A0 : Hid (Arr W (w.heap.size) 23 (Lib.byteCells a)) := Lib.hid H0
    have AR : Hid (Arr W (w.heap.size + 1) 23 (Lib.byteCells zeros)) := Lib.hid H1
    have HT := Lib.hid (hT.below hbw)
    obtain ⟨g, hg⟩ : ∃ g, w.heap.size = g := ⟨_, rfl⟩
    have HBw : Hid (Below g w W) := Lib.hid (by rw [← hg]; exact hbw)
    have HSZ : Hid (g + 2 ≤ W.heap.size) := Lib.hid (by rw [← hg]; omega)
    have HG := Lib.hid hg
    rw [hg] at A0 AR
    simp only [hg]
    clear H0 H1 hbw hsz hg hT
    go_wp2_with (first | (show wpList _ _ _ (⟨_, Op.load _ (.tmp 1), _, _, _, _⟩ :: _) _ _; refine Arr.loadL A0.out rfl 23 (.tmp 1) rfl rfl FieldTW.num_u rfl FieldTW.num_size HC.out ?_) | (show wpList _ _ _ (⟨_, Op.buildSlice _ _ _, _, _, _, _⟩ :: _) _ _; refine buildN1 _ HC.out rfl _ rfl rfl ?_))
    generalize hW2 : World.alloc _ _ = W2
    have hd := ds1 HLA.out hW2
    obtain ⟨_, b2, _⟩ := start1 hW2
    replace A0 := Lib.hid (A0.out.below b2 A0.out.lt)
    replace AR := Lib.hid (AR.out.below b2 AR.out.lt)
    replace HT := Lib.hid (HT.out.below b2)
    replace HBw := Lib.hid (HBw.out.trans (b2.mono (by have := HSZ.out; omega)))
    replace HSZ := Lib.hid (Nat.le_trans HSZ.out b2.size)
    have HR := Lib.hid (reduced_any _ [a] 1 W2 hd (by simp) HT.out.1)
    rw [HOk.out] at HR
    clear hd b2 hW2
    refine HR.out.mono ?_
    clear HR
    rintro e W3 ⟨rfl, b3⟩
    replace A0 := Lib.hid (A0.out.below b3 A0.out.lt)
    replace AR := Lib.hid (AR.out.below b3 AR.out.lt)
    replace HT := Lib.hid (HT.out.below b3)
    replace HBw := Lib.hid (HBw.out.trans (b3.mono (by have := HSZ.out; omega)))
    replace HSZ := Lib.hid (Nat.le_trans HSZ.out b3.size)
    clear b3
    have AF := Lib.hid (AR.out.row (Lib.byteCells zeros))
    have HBF := Lib.hid (below_row HBw.out (show g ≤ g + 1 by omega) (Lib.byteCells zeros).toArray)
    go_wp2_with (first | (show wpList _ _ _ (⟨_, Op.build _ _, _, _, _, _⟩ :: _) _ _; refine buildL rfl rfl rfl (znum _) ?_) | (show wpList _ _ _ (⟨_, Op.store _ (.tmp 2) _, _, _, _, _⟩ :: _) _ _; refine Arr.storeL AR.out rfl 23 (.tmp 2) (.tmp 10) rfl rfl (Lib.byteCells zeros) rfl FieldTW.num_size (by rfl) (by rfl) (bytes_one _) ?_))
    refine bodyPost_ret (v := .tuple #[.agg (Lib.byteCells zeros).toArray, .int .i64 2]) (by exact AF.out.ret2 rfl _ rfl rfl FieldTW.num_u rfl FieldTW.num_size (by rfl)) rfl ⟨rfl, by rw [HG.out]; exact HBF.out⟩

end Go.Proofs.YtfngomlknhappaaDoor.FieldSumW
