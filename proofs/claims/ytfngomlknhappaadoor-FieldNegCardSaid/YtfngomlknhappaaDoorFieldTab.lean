/-
  The package's two listed numbers as they lie in memory; field.negative: what it hands back. Conditions: in each statement.
-/
import Derived.Test.YtfngomlknhappaaDoorFieldSub
namespace Go.Proofs.YtfngomlknhappaaDoor.FieldWW
open Go.RowKit BytesW ArrW ArrG ArrL FieldM NumA NumF FieldN

/-- Block g reads as these cells. -/
def Tab (w : World) (g : Nat) (cs : List Value) : Prop := ∀ j v, cs[j]? = some v → w.cell? ⟨g, j, none⟩ = some v
theorem Tab.below {w w' : World} {g : Nat} {cs : List Value} (h : Tab w g cs) (hb : Below w.heap.size w w') : Tab w' g cs := fun j v hj => (hb.cell (World.block_lt_of_cell? _ _ (h j v hj))).trans (h j v hj)
theorem Tab.in_ {B : Nat} {w w' : World} {g : Nat} {cs : List Value} (h : Tab w g cs) (hb : Below B w w') (hg : g < B) : Tab w' g cs := fun j v hj => (hb.cell hg).trans (h j v hj)
section
variable {P : Program} {w : World} {g : Nat} {cs : List Value}
theorem Tab.load (h : Tab w g cs) (ty : TypeId) {d : TypeDesc} (hu : P.underlying ty = some d) (hd : (match d with | .struct _ | .array _ _ => true | _ => false) = true) {n : Nat} (hi : (P.info? ty).map (·.size) = some n) (hn : cs.length = n) :
    (Instr.loadAt ty (.pointer (some ⟨g, 0, none⟩))).run P w = .ok (.agg cs.toArray) w := by
  have hl : (loadCells ⟨g, 0, none⟩ cs.length).run P w = .ok cs.toArray w :=
    run_loadCells_list (P := P) w ⟨g, 0, none⟩ cs (fun j v hv => by
      have hadd : (⟨g, 0, none⟩ : Addr).add j = ⟨g, j, none⟩ := by unfold Addr.add; split <;> simp_all
      rw [hadd]
      exact h j v hv)
  cases hq : P.info? ty with
  | none => simp [hq] at hi
  | some i =>
    have hs : i.size = cs.length := by rw [hn]; simpa [hq] using hi
    have hagg : (isAgg ty).run P w = .ok true w := by
      unfold isAgg
      rw [Sem.run_bind, run_underlying hu w]
      cases d <;> simp_all
    simp only [Instr.loadAt, Instr.sureAddr, Sem.run_bind, Sem.run_pure, Result.andThen_ok]
    simp [loadVar, Sem.run_bind, hagg, sizeOf, typeInfo, hq, hs, hl]
theorem Tab.loadL {ops : Array Oper} {rest : List Oper} {o : Oper} {a : Act} {Q : Exit → Act → World → Prop} (h : Tab w g cs) (hgd : o.guard = none) (ty : TypeId) (x : Operand) (ho : o.op = .load ty x)
    (hx : a.eval x = .pointer (some ⟨g, 0, none⟩)) {d : TypeDesc} (hu : P.underlying ty = some d) (hd : (match d with | .struct _ | .array _ _ => true | _ => false) = true) {n : Nat} (hi : (P.info? ty).map (·.size) = some n) (hn : cs.length = n)
    (k : wpList P ops Q rest (a.put o.dst (.agg cs.toArray)) w) : wpList P ops Q (o :: rest) a w := by
  refine wpList_plain hgd fun K hK => ?_
  unfold Oper.wp execOp
  simp only [ho, hx, Sem.run_bind, h.load ty hu hd hi hn, Sem.run_pure, Result.andThen_ok]
  exact hK _ _ k
theorem Tab.loadO {K : Act → World → Prop} {Q : Exit → Act → World → Prop} {o : Oper} {a : Act} (h : Tab w g cs) (ty : TypeId) (x : Operand) (ho : o.op = .load ty x)
    (hx : a.eval x = .pointer (some ⟨g, 0, none⟩)) {d : TypeDesc} (hu : P.underlying ty = some d) (hd : (match d with | .struct _ | .array _ _ => true | _ => false) = true) {n : Nat} (hi : (P.info? ty).map (·.size) = some n) (hn : cs.length = n)
    (k : K (a.put o.dst (.agg cs.toArray)) w) : o.wp P a w K Q := by
  unfold Oper.wp execOp
  simp only [ho, hx, Sem.run_bind, h.load ty hu hd hi hn, Sem.run_pure, Result.andThen_ok]
  exact k
theorem Tab.loadT {S : World → Prop} {K : Act → Prop} {ops : Array Oper} {o : Oper} {a : Act} (hgd : Region.wanted o (yielded ops a.tmps) = true) (hS : ∀ W, S W → Tab W g cs) (ty : TypeId) (x : Operand) (ho : o.op = .load ty x)
    (hx : a.eval x = .pointer (some ⟨g, 0, none⟩)) {d : TypeDesc} (hu : P.underlying ty = some d) (hd : (match d with | .struct _ | .array _ _ => true | _ => false) = true) {n : Nat} (hi : (P.info? ty).map (·.size) = some n) (hn : cs.length = n)
    (h : K (a.put o.dst (.agg cs.toArray))) : if Region.wanted o (yielded ops a.tmps) then ∃ v, (∀ w, S w → (execOp a.eval o).run P w = .ok (.value v) w) ∧ K (a.put o.dst v) else K (a.put o.dst undef) := by
  rw [if_pos hgd]
  refine ⟨_, fun W hW => ?_, h⟩
  unfold execOp
  simp only [ho, hx, Sem.run_bind, (hS W hW).load ty hu hd hi hn, Sem.run_pure, Result.andThen_ok]
end
/-- The prime, and the root of -1. -/
def TabP (w : World) : Prop := Tab w 0 (nc (wd P 4))
def TabT (w : World) : Prop := Tab w 1 (nc (wd I4.val 4))
theorem TabP.below {w w' : World} (h : TabP w) (hb : Below w.heap.size w w') : TabP w' := Tab.below h hb
def Tabs (w : World) : Prop := TabP w ∧ TabT w
theorem Tabs.below {w w' : World} (h : Tabs w) (hb : Below w.heap.size w w') : Tabs w' := ⟨Tab.below h.1 hb, Tab.below h.2 hb⟩
theorem Tabs.start {w w' : World} {g : Nat} (h : Tabs w) (hg : w.heap.size = g) (hb : Below g w w') : Tabs w' := h.below (by rw [hg]; exact hb)
theorem P_B4 : P < 18446744073709551616 ^ 4 := by rw [P_dec, B4]; decide
theorem two_P_B4 : P + P < 18446744073709551616 ^ 4 := by rw [P_dec, B4]; decide

set_option maxHeartbeats 4000000 in
set_option maxRecDepth 100000 in
theorem neg_any (X : Nat) (hX : X ≤ P) (w : World) (hT : TabP w) :
    Calls Tryd.prog 30 #[.agg (nc (wd X 4)).toArray] w fun e w' => e = .returned (.agg (nc (wd (P - X) 4)).toArray) ∧ Below w.heap.size w w' := by
  have HWd := Lib.hid (wd_diff P X 4 hX)
  have HX4 := Lib.hid (Nat.lt_of_le_of_lt hX P_B4)
  obtain ⟨D, hD⟩ : ∃ D, P - X = D := ⟨_, rfl⟩
  rw [hD] at HWd ⊢
  have HT := Lib.hid hT
  clear hX hD hT
  go_enter Tryd.func30, Tryd.ntmps30
  go_upto_region 1 with (fail)
  generalize hW : World.alloc _ _ = W
  obtain ⟨H0, H1, hbw, hsz⟩ := start2 hW
  clear hW
  have A0 : Hid (Arr W w.heap.size 46 (nc (wd X 4))) := Lib.hid H0
  have A1 : Hid (Arr W (w.heap.size + 1) 46 (nc (wd 0 4))) := Lib.hid H1
  have HTW : Hid (TabP W) := Lib.hid (Tab.below HT.out hbw)
  obtain ⟨g, hg⟩ : ∃ g, w.heap.size = g := ⟨_, rfl⟩
  have HBw : Hid (Below g w W) := Lib.hid (by rw [← hg]; exact hbw)
  have HSZ : Hid (g + 2 ≤ W.heap.size) := Lib.hid (by rw [← hg]; omega)
  have HG := Lib.hid hg
  rw [hg] at A0 A1
  simp only [hg]
  clear H0 H1 hbw hsz hg HT
  have HS := Lib.hid (sub_any P X P_B4 HX4.out W)
  obtain ⟨bo, hbo⟩ : ∃ b : Nat, (if P < X then 1 else 0) = b := ⟨_, rfl⟩
  rw [hbo, HWd.out] at HS
  clear hbo HWd HX4
  go_wp2_with (first | (show wpList _ _ _ (⟨_, Op.load _ (.tmp 1), _, _, _, _⟩ :: _) _ _; refine Arr.loadL A0.out rfl 46 (.tmp 1) rfl rfl wnum_u rfl wnum_size (wd4 _) ?_) | (show wpList _ _ _ (⟨_, Op.load _ (.global _), _, _, _, _⟩ :: _) _ _; refine Tab.loadL HTW.out rfl 46 (.global 0) rfl rfl wnum_u rfl wnum_size (wd4 _) ?_))
  refine HS.out.mono ?_
  clear HS
  rintro e w1 ⟨rfl, b1⟩
  have A11 := Lib.hid (A1.out.below b1 A1.out.lt)
  have HB1 := Lib.hid (HBw.out.trans (b1.mono (Nat.le_trans (Nat.le_add_right g 2) HSZ.out)))
  have HZ1 := Lib.hid (show g + 2 ≤ w1.heap.size from Nat.le_trans HSZ.out b1.size)
  clear b1 A0 A1 HBw HSZ HTW
  go_upto_region 2 with (show wpList _ _ _ (⟨_, Op.store _ _ _, _, _, _, _⟩ :: _) _ _; refine Arr.storeL (Arr.new w1 _ _) rfl 46 (.tmp 3) (.tmp 9) rfl rfl (nc (wd D 4)) rfl wnum_size (by rfl) (wd4 _) (nc_one _) ?_)
  generalize hw2 : World.setRow _ _ _ = w2
  obtain ⟨a2, b2, z2⟩ := filled hw2
  obtain ⟨p, hp⟩ : ∃ p, w1.heap.size = p := ⟨_, rfl⟩
  have A12 := Lib.hid (A11.out.below b2 A11.out.lt)
  have HB2 := Lib.hid (HB1.out.trans (b2.mono (Nat.le_trans (Nat.le_add_right g 2) HZ1.out)))
  rw [hp] at a2 ⊢
  have A2 := Lib.hid a2
  have AF := Lib.hid (A12.out.row (nc (wd D 4)))
  have HBF := Lib.hid (below_row HB2.out (show g ≤ g + 1 by omega) (nc (wd D 4)).toArray)
  clear a2 b2 z2 hw2 hp A11 HB1 HZ1
  go_wp2_with (first | (show wpList _ _ _ (⟨_, Op.load _ (.tmp 3), _, _, _, _⟩ :: _) _ _; refine Arr.loadL A2.out rfl 46 (.tmp 3) rfl rfl wnum_u rfl wnum_size (wd4 _) ?_) | (show wpList _ _ _ (⟨_, Op.store _ (.tmp 2) _, _, _, _, _⟩ :: _) _ _; refine Arr.storeL A12.out rfl 46 (.tmp 2) (.tmp 11) rfl rfl (nc (wd D 4)) rfl wnum_size (wd4 _) (wd4 _) (nc_one _) ?_))
  refine bodyPost_ret (v := .agg (nc (wd D 4)).toArray) (by exact AF.out.ret rfl _ rfl wnum_u rfl wnum_size (wd4 _)) rfl ⟨rfl, by rw [HG.out]; exact HBF.out⟩
end Go.Proofs.YtfngomlknhappaaDoor.FieldWW
