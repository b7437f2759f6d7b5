/-
  ticketwardref.GLabel: what it hands back. Conditions: in the statement.
-/
import Derived.Test.YtnlhcogmccladaaDoorKdfRef
import Derived.Test.YtnlhcogmccladaaDoorAppStr
import Derived.Test.YtnlhcogmccladaaDoorKb
namespace Go.Proofs.YtnlhcogmccladaaDoor.KdfLabelW
open Go.RowKit BytesW CellsW WordsW ArrW HashM HashX HashMath HashFinW HashSumW HashSameW HashBlockW HashRefW MacM MacRefW KdfM KdfRefW

def LabelPost (m : List UInt8 × Int) (w : World) (e : Ending) (w' : World) : Prop :=
  ∃ A c, e = .returned (.tuple #[.slice A m.1.length c, .int .i64 m.2]) ∧ m.1.length ≤ c ∧ Bs w' w'.heap.size A m.1 ∧ Below w.heap.size w w'

set_option maxHeartbeats 4000000 in
set_option maxRecDepth 100000 in
theorem glabel_any (A : Option Addr) (key : List UInt8) (c : Nat) (lab : List UInt8) (A' : Option Addr) (ctx : List UInt8) (c' : Nat) (long : Int) (w : World) (hl : key.length ≤ 140737488351232) (hlab : lab.length ≤ 140737488351232) (hctx : ctx.length ≤ 140737488351232)
    (hA : Bs w w.heap.size A key) (hB : Bs w w.heap.size A' ctx) (hI : TabI w) (hT : TabK w) :
    Calls Tryd.prog 13 #[.slice A key.length c, .string ⟨lab.toArray⟩, .slice A' ctx.length c', .int .i64 long] w fun e w' => LabelPost (glabel key lab ctx long) w e w' := by
  have HI := Lib.hid hI
  have HT := Lib.hid hT
  have HA := Lib.hid hA
  have HBb := Lib.hid hB
  clear hI hT hA hB
  go_enter Tryd.func13, Tryd.ntmps13
  by_cases p1 : long < 0
  · have q1 : decide (long < 0) = true := decide_eq_true p1
    have HE := Lib.hid (show glabel key lab ctx long = ([], 2) by unfold glabel; rw [if_pos (.inl p1)])
    clear p1
    go_wp2
    go_ret2
    rw [HE.out]
    exact ⟨none, 0, rfl, Nat.le_refl _, Bs.nil _ _ _, Below.refl _ _⟩
  · obtain ⟨L, rfl⟩ : ∃ L : Nat, long = (L : Int) := ⟨long.toNat, by omega⟩
    by_cases p2 : (L : Int) > 8160
    · have q2 : decide ((L : Int) > 8160) = true := decide_eq_true p2
      have HE := Lib.hid (show glabel key lab ctx (L : Int) = ([], 2) by unfold glabel; rw [if_pos (.inr p2)])
      clear p1 p2
      go_wp2
      go_ret2
      rw [HE.out]
      exact ⟨none, 0, rfl, Nat.le_refl _, Bs.nil _ _ _, Below.refl _ _⟩
    · have q2 : decide ((L : Int) > 8160) = false := decide_eq_false p2
      have hL : L ≤ 8160 := by omega
      by_cases p3 : 249 < lab.length
      · have q3 : decide ((lab.length : Int) + 6 > 255) = true := decide_eq_true (by omega)
        have HE := Lib.hid (show glabel key lab ctx (L : Int) = ([], 4) by unfold glabel; rw [if_neg (by omega), if_pos (.inl p3)])
        clear p1 p2 p3
        go_wp2
        go_ret2
        rw [HE.out]
        exact ⟨none, 0, rfl, Nat.le_refl _, Bs.nil _ _ _, Below.refl _ _⟩
      · have q3 : decide ((lab.length : Int) + 6 > 255) = false := decide_eq_false (by omega)
        by_cases p4 : 255 < ctx.length
        · have q4 : decide ((ctx.length : Int) > 255) = true := decide_eq_true (by omega)
          have HE := Lib.hid (show glabel key lab ctx (L : Int) = ([], 4) by unfold glabel; rw [if_neg (by omega), if_pos (.inr p4)])
          clear p1 p2 p3 p4
          go_wp2
          go_ret2
          rw [HE.out]
          exact ⟨none, 0, rfl, Nat.le_refl _, Bs.nil _ _ _, Below.refl _ _⟩
        · have q4 : decide ((ctx.length : Int) > 255) = false := decide_eq_false (by omega)
          have hlb : lab.length ≤ 249 := by omega
          have hcb : ctx.length ≤ 255 := by omega
          have HE := Lib.hid (show glabel key lab ctx (L : Int) = (expand key (info lab ctx L) L, 0) by unfold glabel; rw [if_neg (by omega), if_neg (by omega)]; rfl)
          clear p1 p2 p3 p4
          go_upto_region 6 with (fail)
          obtain ⟨x1, hx1⟩ : ∃ x, UInt8.ofNat (L / 256) = x := ⟨_, rfl⟩
          obtain ⟨x2, hx2⟩ : ∃ x, UInt8.ofNat (L % 256) = x := ⟨_, rfl⟩
          obtain ⟨x3, hx3⟩ : ∃ x, UInt8.ofNat (lab.length + 6) = x := ⟨_, rfl⟩
          obtain ⟨x4, hx4⟩ : ∃ x, UInt8.ofNat ctx.length = x := ⟨_, rfl⟩
          have e1 : (L : Int) / 256 = (x1.toNat : Int) := by rw [← hx1, UInt8.toNat_ofNat']; omega
          have e2 : (L : Int) % 256 = (x2.toNat : Int) := by rw [← hx2, UInt8.toNat_ofNat']; omega
          have e3 : (lab.length : Int) + 6 = (x3.toNat : Int) := by rw [← hx3, UInt8.toNat_ofNat']; omega
          have HX4 := Lib.hid (show (ctx.length : Int) = (x4.toNat : Int) by rw [← hx4, UInt8.toNat_ofNat']; omega)
          rw [show (#[.int .u8 ((L : Int) / 256), .int .u8 ((L : Int) % 256), .int .u8 ((lab.length : Int) + 6)] : Array Value) = (Lib.byteCells [x1, x2, x3]).toArray from by rw [e1, e2, e3]; rfl]
          have HInf := Lib.hid (show info lab ctx L = [x1, x2, x3] ++ (tls ++ lab) ++ [x4] ++ ctx by rw [info, hx1, hx2, hx3, hx4])
          have hr0 := Row.lit w.heap.size w [x1, x2, x3] (Nat.le_refl _) (by simp)
          have hb0 : Below w.heap.size w (w.alloc (.cells (Lib.byteCells [x1, x2, x3]).toArray 5)) := (Below.refl _ _).alloc (Nat.le_refl _) _
          obtain ⟨W, hW⟩ : ∃ W, w.alloc (.cells (Lib.byteCells [x1, x2, x3]).toArray 5) = W := ⟨_, rfl⟩
          rw [hW] at hr0 hb0 ⊢
          have R0 : Hid (Row w.heap.size W (.slice (some ⟨w.heap.size, 0, none⟩) 3 3) [x1, x2, x3]) := Lib.hid hr0
          have X0 := Lib.hid hb0
          clear hx1 hx2 hx3 hx4 e1 e2 e3 hr0 hb0 hW q2 q3 q4
          go_wp2_with (at_builtin; go_must (refine appS rfl (.tmp 37) (.tmp 39) rfl w.heap.size _ [x1, x2, x3] rfl R0.out (tls ++ lab) (congrArg Value.string (cat_str tls lab)) (by simp [tls]; omega) X0.out.size ?_))
          intro v40 w2 r40 hg40
          have r40 : Row w.heap.size w2 v40 ([x1, x2, x3] ++ (tls ++ lab)) := r40
          have X2 := Lib.hid (X0.out.trans (R0.out.below_own hg40 X0.out.size))
          have hl40 : ([x1, x2, x3] ++ (tls ++ lab)).length ≤ 258 := by simp [tls]; omega
          obtain ⟨Y, hY⟩ : ∃ Y, [x1, x2, x3] ++ (tls ++ lab) = Y := ⟨_, rfl⟩
          rw [hY] at r40 hl40 HInf
          have R2 := Lib.hid r40
          have n1 : (w2.alloc (.cells #[.int .u8 (ctx.length : Int)] 5)).cell? ⟨w2.heap.size, 0, none⟩ = some (.int .u8 (x4.toNat : Int)) := by rw [HX4.out]; exact new_cell w2 _ _
          have ra := R2.out.alloc (.cells #[.int .u8 (ctx.length : Int)] 5)
          have sz1 : w.heap.size ≤ (w2.alloc (.cells #[.int .u8 (ctx.length : Int)] 5)).heap.size := by have := X2.out.size; simp; omega
          clear r40 hg40 hY R0
          go_wp2_with (at_builtin; go_must (refine app1 rfl (.tmp 41) (.tmp 45) rfl w.heap.size _ Y rfl ra ⟨w2.heap.size, 0, none⟩ 1 x4 rfl n1 (by omega) sz1 ?_))
          intro v46 w3 r46 hb46
          have X3 := Lib.hid ((X2.out.alloc X2.out.size (.cells #[.int .u8 (ctx.length : Int)] 5)).trans hb46)
          have hl46 : (Y ++ [x4]).length ≤ 259 := by simp; omega
          obtain ⟨Z, hZ⟩ : ∃ Z, Y ++ [x4] = Z := ⟨_, rfl⟩
          rw [hZ] at r46 hl46 HInf
          have R3 := Lib.hid r46
          have HB3 := Lib.hid ((HBb.out.below X3.out).more X3.out.size)
          clear r46 hb46 hZ n1 ra sz1 R2
          go_wp2_with (at_builtin; go_must (refine appN rfl (.tmp 46) (.tmp 47) rfl w.heap.size _ _ Z rfl R3.out A' ctx c' rfl HB3.out (by omega) X3.out.size ?_))
          intro v48 w4 r48 hb48
          have X4 := Lib.hid (X3.out.trans hb48)
          rw [← HInf.out] at r48
          have hl48 : (info lab ctx L).length ≤ 1048576 := by rw [HInf.out, List.length_append]; omega
          obtain ⟨A48, c48, rfl, s48, -⟩ := r48.form2
          have HG := Lib.hid (gexpand_any A key c A48 (info lab ctx L) c48 L w4 hl hl48 (by omega) ((HA.out.below X4.out).more X4.out.size) s48 (HI.out.below X4.out) (HT.out.below X4.out))
          generalize info lab ctx L = inf at *
          clear r48 hb48 s48 hl48 R3 HB3
          go_wp2_with fail
          refine HG.out.mono ?_
          clear HG
          rintro e w5 ⟨A2, c2, rfl, hc2, s5, b5⟩
          have X5 := Lib.hid (X4.out.trans (b5.mono X4.out.size))
          have S5 := Lib.hid s5
          clear s5 b5
          go_wp2
          go_ret2
          rw [HE.out]
          have hle := expand_len key inf L
          exact ⟨A2, c2, by rw [hle]; rfl, by rw [hle]; exact hc2, S5.out, X5.out⟩
end Go.Proofs.YtnlhcogmccladaaDoor.KdfLabelW
