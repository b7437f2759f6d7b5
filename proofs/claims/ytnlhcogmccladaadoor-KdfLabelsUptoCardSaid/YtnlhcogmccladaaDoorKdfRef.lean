/-
  ticketwardref.GExtract, GPart, GExpand: what they hand back. Conditions: in each statement.
-/
import Derived.Test.YtnlhcogmccladaaDoorKdfM
import Derived.Test.YtnlhcogmccladaaDoorMacRef
namespace Go.Proofs.YtnlhcogmccladaaDoor.KdfRefW
open Go.RowKit BytesW CellsW WordsW ArrW HashM HashX HashMath HashFinW HashSumW HashSameW HashBlockW HashRefW MacM MacRefW KdfM

set_option maxHeartbeats 4000000 in
set_option maxRecDepth 100000 in
theorem gextract_any (A : Option Addr) (k : List UInt8) (c : Nat) (A' : Option Addr) (b : List UInt8) (c' : Nat) (w : World) (hA : Bs w w.heap.size A k) (hl : k.length ≤ 140737488351232) (hB : Bs w w.heap.size A' b) (hb : b.length ≤ 140737488351100) (hI : TabI w) (hT : TabK w) :
    Calls Tryd.prog 10 #[.slice A k.length c, .slice A' b.length c'] w fun e w' => e = .returned (.agg (Lib.byteCells (extract k b)).toArray) ∧ Below w.heap.size w w' := by
  have HI := Lib.hid hI
  have HT := Lib.hid hT
  have HA := Lib.hid hA
  have HBb := Lib.hid hB
  clear hI hT hA hB
  go_enter Tryd.func10, Tryd.ntmps10
  go_upto_region 1 with (fail)
  generalize hW : World.alloc _ _ = W
  obtain ⟨H0, hbw, hsz⟩ := start1 hW
  clear hW
  have a0 : Arr W w.heap.size 27 (Lib.byteCells (List.replicate 32 0)) := H0
  have A0 := Lib.hid a0
  have X0 := Lib.hid hbw
  have N33 := Lib.hid (show ∀ D : List UInt8, D = extract k b → (Lib.byteCells D).length = 32 from fun D e => by rw [Lib.byteCells_length, e]; exact hmac_len _ _)
  clear a0 H0 hbw hsz
  by_cases h0 : k.length = 0
  · have ct : ((k.length : Int) == 0) = true := beq_iff_eq.2 (by omega)
    have hmk : (Instr.makeSlice 22 (.int .i64 32) (.int .i64 32)).run Tryd.prog W = .ok (.slice (some ⟨W.heap.size, 0, none⟩) 32 32) (W.alloc (.cells (madeCells #[.int .u8 0] 32) 5)) := makeN 32 (by omega) W
    have hr := Row.madeN W.heap.size 32 W (Nat.le_refl _) (by decide)
    have hbm : Below W.heap.size W (W.alloc (.cells (madeCells #[.int .u8 0] 32) 5)) := (Below.refl _ _).alloc (Nat.le_refl _) _
    generalize W.alloc (.cells (madeCells #[.int .u8 0] 32) 5) = W2 at *
    obtain ⟨A2, c2, e2, s2, -⟩ := hr.form2
    have X2 := Lib.hid (X0.out.trans (hbm.mono X0.out.size))
    have A02 := Lib.hid (A0.out.below hbm A0.out.lt)
    obtain ⟨Z, hZ⟩ : ∃ Z, List.replicate 32 (0 : UInt8) = Z := ⟨_, rfl⟩
    rw [hZ] at s2 e2
    have hZl : Z.length = 32 := by rw [← hZ]; simp
    have hf := fsum_any A2 Z c2 A' b c' W2 s2 (by omega) ((HBb.out.below X2.out).more X2.out.size) (Nat.le_trans hb (by decide)) (HI.out.below X2.out) (HT.out.below X2.out)
    rw [← e2] at hf
    have HF := Lib.hid hf
    have HE := Lib.hid (show hmac Z b = extract k b by rw [extract, if_pos h0, hZ])
    clear hr hbm s2 e2 hZ hZl hf h0
    go_wp2_with fail
    refine HF.out.mono ?_
    clear HF hmk
    rintro e w3 ⟨rfl, b3⟩
    have X3 := Lib.hid (X2.out.trans (b3.mono X2.out.size))
    have A03 := Lib.hid (A02.out.below b3 A02.out.lt)
    have N := Lib.hid (N33.out _ HE.out)
    have AF := Lib.hid (A03.out.row (Lib.byteCells (hmac Z b)))
    have HBF := Lib.hid (below_row X3.out (Nat.le_refl _) (Lib.byteCells (hmac Z b)).toArray)
    clear b3
    go_wp2_with (refine Arr.storeL A03.out rfl 27 (.tmp 4) (.tmp 11) rfl rfl (Lib.byteCells (hmac Z b)) rfl dig_size (by rfl) N.out (bytes_one _) ?_)
    refine bodyPost_ret (v := .agg (Lib.byteCells (hmac Z b)).toArray) (by exact AF.out.ret rfl _ rfl dig rfl dig_size N.out) rfl ⟨by rw [HE.out], HBF.out⟩
  · have ct : ((k.length : Int) == 0) = false := beq_eq_false_iff_ne.2 (by omega)
    have HF := Lib.hid (fsum_any A k c A' b c' W ((HA.out.below X0.out).more X0.out.size) hl ((HBb.out.below X0.out).more X0.out.size) (Nat.le_trans hb (by decide)) (HI.out.below X0.out) (HT.out.below X0.out))
    have HE := Lib.hid (show hmac k b = extract k b by rw [extract, if_neg h0])
    clear h0
    go_wp2_with fail
    refine HF.out.mono ?_
    clear HF
    rintro e w3 ⟨rfl, b3⟩
    have X3 := Lib.hid (X0.out.trans (b3.mono X0.out.size))
    have A03 := Lib.hid (A0.out.below b3 A0.out.lt)
    have N := Lib.hid (N33.out _ HE.out)
    have AF := Lib.hid (A03.out.row (Lib.byteCells (hmac k b)))
    have HBF := Lib.hid (below_row X3.out (Nat.le_refl _) (Lib.byteCells (hmac k b)).toArray)
    clear b3
    go_wp2_with (refine Arr.storeL A03.out rfl 27 (.tmp 4) (.tmp 11) rfl rfl (Lib.byteCells (hmac k b)) rfl dig_size (by rfl) N.out (bytes_one _) ?_)
    refine bodyPost_ret (v := .agg (Lib.byteCells (hmac k b)).toArray) (by exact AF.out.ret rfl _ rfl dig rfl dig_size N.out) rfl ⟨by rw [HE.out], HBF.out⟩

set_option maxHeartbeats 4000000 in
set_option maxRecDepth 100000 in
theorem gpart_any (A : Option Addr) (key : List UInt8) (c : Nat) (A' : Option Addr) (info : List UInt8) (c' : Nat) (hl : key.length ≤ 140737488351232) (hli : info.length ≤ 1048576) :
    ∀ (n m : Nat), m = n + 1 → m ≤ 1000000 → ∀ w : World, Bs w w.heap.size A key → Bs w w.heap.size A' info → TabI w → TabK w →
      Calls Tryd.prog 22 #[.slice A key.length c, .slice A' info.length c', .int .i64 (m : Int)] w fun e w' => ∃ g, e = .returned (.slice (some ⟨g, 0, none⟩) 32 32) ∧ Bs w' w'.heap.size (some ⟨g, 0, none⟩) (gpart key info m) ∧ Below w.heap.size w w' := by
  intro n
  induction n with
  | zero =>
    rintro m hm hmm w hA hB hI hT
    have HI := Lib.hid hI
    have HT := Lib.hid hT
    have HA := Lib.hid hA
    have HBb := Lib.hid hB
    obtain ⟨x, hx⟩ : ∃ x, UInt8.ofNat m = x := ⟨_, rfl⟩
    have q1 : IntKind.u8.wrap (m : Int) = (x.toNat : Int) := by rw [IntKind.wrap_u8, ← hx, UInt8.toNat_ofNat']; omega
    have q2 : (m : Int) % 256 = (x.toNat : Int) := by rw [← hx, UInt8.toNat_ofNat']; omega
    have ct : decide ((m : Int) > 1) = false := decide_eq_false (by omega)
    have HP : Hid (hmac key ([] ++ info ++ [x]) = gpart key info m) := Lib.hid (by rw [hm, gpart, gpart, ← hx, hm])
    have HPL : Hid (([] : List UInt8).length ≤ 32) := Lib.hid (by simp)
    clear hI hT hA hB hm hx
    go_enter Tryd.func22, Tryd.ntmps22
    have XW := Lib.hid (Below.refl w.heap.size w)
    have RW := Lib.hid (Row.nil w.heap.size w)
    have hl7 : ([] : List UInt8).length ≤ 32 := HPL.out
    have H2 := Lib.hid ((HBb.out.below XW.out).more XW.out.size)
    go_wp2_with (at_builtin; go_must (refine appN rfl (.tmp 19) (.tmp 20) rfl w.heap.size _ _ ([] : List UInt8) rfl RW.out A' info c' rfl H2.out (by omega) XW.out.size ?_))
    intro v21 w3 r21 hb21
    have X3 := Lib.hid (XW.out.trans hb21)
    have R21 : Hid (Row w.heap.size w3 v21 (([] : List UInt8) ++ info)) := Lib.hid r21
    obtain ⟨Y, hY⟩ : ∃ Y, ([] : List UInt8) ++ info = Y := ⟨_, rfl⟩
    have hYl : Y.length ≤ 1048700 := by rw [← hY, List.length_append]; omega
    have HY := Lib.hid hY
    rw [hY] at R21
    have n1 := new_cell w3 (.int .u8 (x.toNat : Int)) 5
    have ra := R21.out.alloc (.cells #[.int .u8 (x.toNat : Int)] 5)
    have sz1 : w.heap.size ≤ (w3.alloc (.cells #[.int .u8 (x.toNat : Int)] 5)).heap.size := by have := X3.out.size; simp; omega
    clear r21 hb21 H2 RW hY
    go_wp2_with (at_builtin; go_must (refine app1 rfl (.tmp 21) (.tmp 24) rfl w.heap.size _ Y rfl ra ⟨w3.heap.size, 0, none⟩ 1 x rfl n1 (by omega) sz1 ?_))
    intro v25 w4 r25 hb25
    have X4 := Lib.hid ((X3.out.alloc X3.out.size (.cells #[.int .u8 (x.toNat : Int)] 5)).trans hb25)
    obtain ⟨Z, hZ⟩ : ∃ Z, Y ++ [x] = Z := ⟨_, rfl⟩
    have hZl : Z.length ≤ 1048800 := by rw [← hZ, List.length_append]; simp; omega
    have HZ := Lib.hid hZ
    rw [hZ] at r25
    obtain ⟨A25, c25, rfl, s25, hc25⟩ := r25.form2
    have HF := Lib.hid (fsum_any A key c A25 Z c25 w4 ((HA.out.below X4.out).more X4.out.size) hl s25 (by omega) (HI.out.below X4.out) (HT.out.below X4.out))
    clear n1 ra sz1 r25 hb25 hZ s25 hc25 q1 q2
    go_wp2_with fail
    refine HF.out.mono ?_
    clear HF
    rintro e w5 ⟨rfl, b5⟩
    have X5 := Lib.hid (X4.out.trans (b5.mono X4.out.size))
    obtain ⟨D, hD⟩ : ∃ D, hmac key Z = D := ⟨_, rfl⟩
    have HDl := Lib.hid (show D.length = 32 by rw [← hD]; exact hmac_len _ _)
    have HDe := Lib.hid (show D = gpart key info m by rw [← hD, ← HZ.out, ← HY.out, HP.out])
    rw [hD]
    have N32 := Lib.hid (show (Lib.byteCells D).length = 32 by rw [Lib.byteCells_length]; exact HDl.out)
    clear b5 hD
    go_upto_region 5 with (refine Arr.storeL (Arr.new w5 _ _) rfl 27 (.tmp 8) (.tmp 26) rfl rfl (Lib.byteCells D) rfl dig_size (by rfl) N32.out (bytes_one _) ?_)
    generalize hw6 : World.setRow _ _ _ = w6
    obtain ⟨p8, b6, z6⟩ := filled hw6
    have X6 := Lib.hid (X5.out.trans (b6.mono X5.out.size))
    have S8 := Lib.hid (arr_bs p8 (show w5.heap.size < w6.heap.size by omega))
    clear b6 hw6 p8 z6
    go_wp2
    go_ret
    exact ⟨w5.heap.size, rfl, by rw [← HDe.out]; exact S8.out, X6.out⟩
  | succ n ih =>
    rintro m hm hmm w hA hB hI hT
    obtain ⟨p, hp⟩ : ∃ p, n + 1 = p := ⟨_, rfl⟩
    have HC := Lib.hid (ih p hp.symm (by omega) w hA hB hI hT)
    have HI := Lib.hid hI
    have HT := Lib.hid hT
    have HA := Lib.hid hA
    have HBb := Lib.hid hB
    obtain ⟨x, hx⟩ : ∃ x, UInt8.ofNat m = x := ⟨_, rfl⟩
    have q1 : IntKind.u8.wrap (m : Int) = (x.toNat : Int) := by rw [IntKind.wrap_u8, ← hx, UInt8.toNat_ofNat']; omega
    have q2 : (m : Int) % 256 = (x.toNat : Int) := by rw [← hx, UInt8.toNat_ofNat']; omega
    have ct : decide ((m : Int) > 1) = true := decide_eq_true (by omega)
    have e1 : (m : Int) - 1 = (p : Int) := by omega
    have e2 : IntKind.i64.wrap ((m : Int) - 1) = (p : Int) := by rw [IntWalk.i64_in _ (by omega)]; omega
    obtain ⟨T, hT0⟩ : ∃ T, gpart key info p = T := ⟨_, rfl⟩
    have HTl := Lib.hid (show T.length = 32 by rw [← hT0, ← hp, gpart_len])
    have HP : Hid (hmac key (T ++ info ++ [x]) = gpart key info m) := Lib.hid (by rw [hm, gpart, ← hx, hm, hp, hT0])
    have HPL : Hid (T.length ≤ 32) := Lib.hid (by rw [HTl.out]; exact Nat.le_refl _)
    rw [hT0] at HC
    clear ih hI hT hA hB hm hx hp hT0
    go_enter Tryd.func22, Tryd.ntmps22
    go_wp2_with fail
    refine HC.out.mono ?_
    clear HC e1 e2
    rintro e w1 ⟨g, rfl, s16, b1⟩
    have X1 := Lib.hid b1
    have S16 := Lib.hid s16
    clear b1 s16 ct
    go_wp2_with (at_builtin; go_must (refine appN rfl (.tmp 11) (.tmp 16) rfl w.heap.size _ _ [] rfl (Row.nil _ _) (some ⟨g, 0, none⟩) T 32 (by rw [HTl.out]; rfl) S16.out (by rw [HTl.out]; simp) X1.out.size ?_))
    intro v17 w2 r17 hb17
    have XW := Lib.hid (X1.out.trans hb17)
    have RW : Hid (Row w.heap.size w2 v17 T) := Lib.hid r17
    clear r17 hb17
    have hl7 : T.length ≤ 32 := HPL.out
    have H2 := Lib.hid ((HBb.out.below XW.out).more XW.out.size)
    go_wp2_with (at_builtin; go_must (refine appN rfl (.tmp 19) (.tmp 20) rfl w.heap.size _ _ T rfl RW.out A' info c' rfl H2.out (by omega) XW.out.size ?_))
    intro v21 w3 r21 hb21
    have X3 := Lib.hid (XW.out.trans hb21)
    have R21 := Lib.hid r21
    obtain ⟨Y, hY⟩ : ∃ Y, T ++ info = Y := ⟨_, rfl⟩
    have hYl : Y.length ≤ 1048700 := by rw [← hY, List.length_append]; omega
    have HY := Lib.hid hY
    rw [hY] at R21
    have n1 := new_cell w3 (.int .u8 (x.toNat : Int)) 5
    have ra := R21.out.alloc (.cells #[.int .u8 (x.toNat : Int)] 5)
    have sz1 : w.heap.size ≤ (w3.alloc (.cells #[.int .u8 (x.toNat : Int)] 5)).heap.size := by have := X3.out.size; simp; omega
    clear r21 hb21 H2 RW hY
    go_wp2_with (at_builtin; go_must (refine app1 rfl (.tmp 21) (.tmp 24) rfl w.heap.size _ Y rfl ra ⟨w3.heap.size, 0, none⟩ 1 x rfl n1 (by omega) sz1 ?_))
    intro v25 w4 r25 hb25
    have X4 := Lib.hid ((X3.out.alloc X3.out.size (.cells #[.int .u8 (x.toNat : Int)] 5)).trans hb25)
    obtain ⟨Z, hZ⟩ : ∃ Z, Y ++ [x] = Z := ⟨_, rfl⟩
    have hZl : Z.length ≤ 1048800 := by rw [← hZ, List.length_append]; simp; omega
    have HZ := Lib.hid hZ
    rw [hZ] at r25
    obtain ⟨A25, c25, rfl, s25, hc25⟩ := r25.form2
    have HF := Lib.hid (fsum_any A key c A25 Z c25 w4 ((HA.out.below X4.out).more X4.out.size) hl s25 (by omega) (HI.out.below X4.out) (HT.out.below X4.out))
    clear n1 ra sz1 r25 hb25 hZ s25 hc25 q1 q2
    go_wp2_with fail
    refine HF.out.mono ?_
    clear HF
    rintro e w5 ⟨rfl, b5⟩
    have X5 := Lib.hid (X4.out.trans (b5.mono X4.out.size))
    obtain ⟨D, hD⟩ : ∃ D, hmac key Z = D := ⟨_, rfl⟩
    have HDl := Lib.hid (show D.length = 32 by rw [← hD]; exact hmac_len _ _)
    have HDe := Lib.hid (show D = gpart key info m by rw [← hD, ← HZ.out, ← HY.out, HP.out])
    rw [hD]
    have N32 := Lib.hid (show (Lib.byteCells D).length = 32 by rw [Lib.byteCells_length]; exact HDl.out)
    clear b5 hD
    go_upto_region 5 with (refine Arr.storeL (Arr.new w5 _ _) rfl 27 (.tmp 8) (.tmp 26) rfl rfl (Lib.byteCells D) rfl dig_size (by rfl) N32.out (bytes_one _) ?_)
    generalize hw6 : World.setRow _ _ _ = w6
    obtain ⟨p8, b6, z6⟩ := filled hw6
    have X6 := Lib.hid (X5.out.trans (b6.mono X5.out.size))
    have S8 := Lib.hid (arr_bs p8 (show w5.heap.size < w6.heap.size by omega))
    clear b6 hw6 p8 z6
    go_wp2
    go_ret
    exact ⟨w5.heap.size, rfl, by rw [← HDe.out]; exact S8.out, X6.out⟩

/-- The length of a slice's value. -/
def sliceLen : Value → Nat
  | .slice _ n _ => n
  | _ => 0

set_option maxHeartbeats 4000000 in
set_option maxRecDepth 100000 in
theorem gexpand_any (A : Option Addr) (key : List UInt8) (c : Nat) (A' : Option Addr) (info : List UInt8) (c' : Nat) (long : Nat) (w : World) (hl : key.length ≤ 140737488351232) (hli : info.length ≤ 1048576) (hlong : long ≤ 1000000)
    (hA : Bs w w.heap.size A key) (hB : Bs w w.heap.size A' info) (hI : TabI w) (hT : TabK w) :
    Calls Tryd.prog 11 #[.slice A key.length c, .slice A' info.length c', .int .i64 (long : Int)] w fun e w' => ∃ A2 c2, e = .returned (.slice A2 long c2) ∧ long ≤ c2 ∧ Bs w' w'.heap.size A2 (expand key info long) ∧ Below w.heap.size w w' := by
  have HI := Lib.hid hI
  have HT := Lib.hid hT
  have HA := Lib.hid hA
  have HBb := Lib.hid hB
  clear hI hT hA hB
  go_enter Tryd.func11, Tryd.ntmps11
  go_wp2
  go_loopw [7, 8] (fun v vn wr => ∃ i : Nat, 32 * i < long + 32 ∧ vn = .int .i64 ((i + 1 : Nat) : Int) ∧ Row w.heap.size wr v (pre key info i) ∧ Below w.heap.size w wr) (fun v _ _ => long - sliceLen v)
  case atStart => exact ⟨0, by omega, rfl, Row.nil _ _, Below.refl _ _⟩
  case round =>
    obtain ⟨i, hi, rfl, hrow, hb⟩ := hrel
    obtain ⟨A7, c7, rfl, s7, hc7⟩ := hrow.form2
    have hpl := pre_len key info i
    rw [hpl] at hc7 ⊢
    obtain ⟨L, hL⟩ : ∃ L, 32 * i = L := ⟨_, rfl⟩
    obtain ⟨m, hm⟩ : ∃ m, i + 1 = m := ⟨_, rfl⟩
    rw [hL] at hc7 ⊢
    rw [hm]
    have HL := Lib.hid hL
    have HM := Lib.hid hm
    have HRow : Hid (Row w.heap.size wr (.slice A7 L c7) (pre key info i)) := Lib.hid (by rw [hpl, hL] at hrow; exact hrow)
    have HBl := Lib.hid hb
    have S7 := Lib.hid s7
    have HPl := Lib.hid hpl
    by_cases hlt : L < long
    · have ct : decide ((L : Int) < (long : Int)) = true := decide_eq_true (by omega)
      have HC := Lib.hid (gpart_any A key c A' info c' hl hli i m hm.symm (by omega) wr ((HA.out.below hb).more hb.size) ((HBb.out.below hb).more hb.size) (HI.out.below hb) (HT.out.below hb))
      have HPre := Lib.hid (show pre key info m = pre key info i ++ gpart key info m by rw [← hm, pre])
      have HTl := Lib.hid (show (gpart key info m).length = 32 by rw [← hm]; exact gpart_len _ _ _)
      have hml : m ≤ 1000001 := by omega
      have hLl : L ≤ 1000000 := by omega
      clear hL hm hpl hrow hb s7 hi
      go_wp2_with fail
      refine HC.out.mono ?_
      clear HC
      rintro e w1 ⟨g, rfl, s19, b1⟩
      have S19 := Lib.hid s19
      have R1 := Lib.hid (HRow.out.below b1)
      have X1 := Lib.hid (HBl.out.trans (b1.mono HBl.out.size))
      have hlen : (pre key info i).length + (gpart key info m).length ≤ 140737488355328 := by rw [HPl.out, HTl.out, HL.out]; omega
      generalize gpart key info m = T at *
      generalize pre key info i = P0 at *
      clear s19 b1
      go_wp2_with (at_builtin; go_must (refine appN rfl (.tmp 15) (.tmp 19) rfl w.heap.size _ _ P0 rfl R1.out (some ⟨g, 0, none⟩) T 32 (by rw [HTl.out]; rfl) S19.out hlen X1.out.size ?_))
      intro v20 w2 r20 hb20
      have X2 := Lib.hid (X1.out.trans hb20)
      have R2 : Hid (Row w.heap.size w2 v20 (pre key info m)) := Lib.hid (by rw [HPre.out]; exact r20)
      obtain ⟨A2, c2, rfl, -, -⟩ := R2.out.form2
      clear r20 hb20
      go_wp2
      go_roundw
      case rel => exact ⟨i + 1, by have := HL.out; omega, by have := HM.out; go_num, by rw [HM.out]; exact R2.out, X2.out⟩
      case measure => simp only [sliceLen, pre_len]; have := HL.out; have := HM.out; omega
    · have ct : decide ((L : Int) < (long : Int)) = false := decide_eq_false (by omega)
      have hlc : long ≤ c7 := by omega
      have HE := Lib.hid (show expand key info long = (pre key info i).take long by
        rw [expand, ← pre_more key info ((long + 31) / 32) i (by omega), List.take_take, Nat.min_eq_left (by omega)])
      clear hL hm hpl hrow hb s7 hi
      go_wp2
      go_ret
      exact ⟨A7, c7, rfl, hlc, by rw [HE.out]; exact S7.out.take _, HBl.out⟩
end Go.Proofs.YtnlhcogmccladaaDoor.KdfRefW
