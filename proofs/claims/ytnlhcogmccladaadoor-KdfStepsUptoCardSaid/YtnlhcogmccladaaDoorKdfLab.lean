/-
  kdf.Label: what it hands back. Conditions: in the statement.
-/
import Derived.Test.YtnlhcogmccladaaDoorKdfExp
import Derived.Test.YtnlhcogmccladaaDoorVecPutF
import Derived.Test.YtnlhcogmccladaaDoorStrB
namespace Go.Proofs.YtnlhcogmccladaaDoor.KdfSumW
open Go.RowKit BytesW CellsW WordsW ArrW HashM HashX HashMath HashCompW HashFinW HashRightW HashSumW HashMoreW MacM KdfM RowsW SConcatW StrB VecFnsW

theorem put1_full (l : List UInt8) (h : 255 < l.length) : VecM.put 1 l = (4, []) := VecM.put_full rfl (by show 256 ^ 1 ≤ _; omega)
theorem put1_ok (l : List UInt8) (h : l.length ≤ 255) : VecM.put 1 l = (0, UInt8.ofNat l.length :: l) := by
  rw [VecM.put_ok rfl (by show _ < 256 ^ 1; omega)]
  show (0, VecM.be 1 l.length ++ l) = _
  rw [VecM.be_cons]
  simp [VecM.be]

set_option maxHeartbeats 8000000 in
set_option maxRecDepth 100000 in
theorem klabel_any (A : Option Addr) (key : List UInt8) (c : Nat) (lab : List UInt8) (A' : Option Addr) (ctx : List UInt8) (c' : Nat) (long : Int) (w : World) (hA : Bs w w.heap.size A key) (hc : key.length ≤ c) (hB : Bs w w.heap.size A' ctx) (_hc' : ctx.length ≤ c') (hl : key.length ≤ 140737488351232) (hlab : lab.length ≤ 140737488351232) (hctx : ctx.length ≤ 140737488351232) (_h1 : -9223372036854775808 ≤ long) (_h2 : long < 9223372036854775808) (hT : Tabs w) :
    Calls Tryd.prog 12 #[.slice A key.length c, .string ⟨lab.toArray⟩, .slice A' ctx.length c', .int .i64 long] w fun e w' => Post (glabel key lab ctx long) w e w' := by
  have HT := Lib.hid hT
  have HA := Lib.hid hA
  have HBb := Lib.hid hB
  clear hT hA hB _h1 _h2
  by_cases hr : long < 0 ∨ 8160 < long
  · have HE := Lib.hid (show glabel key lab ctx long = ([], 2) by unfold glabel; rw [if_pos hr])
    have HV := Lib.hid (valid_no long hr w)
    clear hr
    go_enter Tryd.func12, Tryd.ntmps12
    go_wp2_with fail
    refine HV.out.mono ?_
    clear HV
    rintro e w' ⟨rfl, rfl⟩
    go_wp2
    go_ret2
    rw [HE.out]
    exact ⟨none, 0, rfl, Nat.le_refl _, Bs.nil _ _ _, Below.refl _ _⟩
  · obtain ⟨L, rfl⟩ : ∃ L : Nat, long = (L : Int) := ⟨long.toNat, by omega⟩
    have hL : L ≤ 8160 := by omega
    have HE := Lib.hid (show glabel key lab ctx (L : Int) = if 249 < lab.length ∨ 255 < ctx.length then ([], 4) else (expand key (info lab ctx L) L, 0) by unfold glabel; rw [if_neg hr, Int.toNat_natCast])
    have HV := Lib.hid (valid_yes L hL w)
    clear hr
    obtain ⟨Y, hY⟩ : ∃ Y, tls ++ lab = Y := ⟨_, rfl⟩
    have hYl : Y.length = lab.length + 6 := by rw [← hY]; simp [tls]
    have hcat : ((⟨#[116, 108, 115, 49, 51, 32]⟩ : ByteArray) ++ ⟨lab.toArray⟩) = ⟨Y.toArray⟩ := by rw [← hY]; exact cat_str tls lab
    have HCat := Lib.hid hcat
    have HInf := Lib.hid (show info lab ctx L = [UInt8.ofNat (L / 256), UInt8.ofNat (L % 256)] ++ (UInt8.ofNat Y.length :: Y) ++ (UInt8.ofNat ctx.length :: ctx) by rw [info, hY, hYl]; simp)
    obtain ⟨c6, W6, hr, hc6, s6, b6⟩ := str_bytes Y w
    have HR6 := Lib.hid hr
    have S6 := Lib.hid s6
    have X6 := Lib.hid b6
    have HYl := Lib.hid hYl
    clear hY hYl hcat hr s6 b6
    go_enter Tryd.func12, Tryd.ntmps12
    go_wp2_with fail
    refine HV.out.mono ?_
    clear HV
    rintro e w' ⟨rfl, rfl⟩
    go_wp2_with fail
    rw [HCat.out, HR6.out]
    clear HCat HR6
    obtain ⟨AB, hAB⟩ : ∃ AB, (some ⟨w.heap.size, 0, none⟩ : Option Addr) = AB := ⟨_, rfl⟩
    rw [hAB] at S6 ⊢
    have HP1 := Lib.hid (put_any 1 Y AB c6 W6 S6.out (by rw [HYl.out]; omega))
    clear hAB
    go_wp2_with fail
    refine HP1.out.mono ?_
    clear HP1
    rintro e W7 ⟨v1, rfl, r1, b7⟩
    have X7 := Lib.hid (X6.out.trans (b7.mono X6.out.size))
    by_cases p3 : 249 < lab.length
    · rw [put1_full Y (by rw [HYl.out]; omega)] at r1 ⊢
      have HE2 := Lib.hid (show glabel key lab ctx (L : Int) = ([], 4) by rw [HE.out, if_pos (.inl p3)])
      clear p3 r1 b7 HE
      simp only [show ((4 : Nat) : Int) = 4 from rfl]
      go_wp2
      go_ret2
      rw [HE2.out]
      exact ⟨none, 0, rfl, Nat.le_refl _, Bs.nil _ _ _, X7.out⟩
    · have hY255 : Y.length ≤ 255 := by rw [HYl.out]; omega
      rw [put1_ok Y hY255] at r1 ⊢
      obtain ⟨P1, hP1⟩ : ∃ P1, UInt8.ofNat Y.length :: Y = P1 := ⟨_, rfl⟩
      have HP1l := Lib.hid (show P1.length ≤ 256 by rw [← hP1]; simp; omega)
      rw [hP1] at r1 HInf ⊢
      obtain ⟨A10, c10, rfl, s10, hc10⟩ := r1.form2
      have S10 := Lib.hid s10
      have HP2 := Lib.hid (put_any 1 ctx A' c' W7 ((HBb.out.below X7.out).more X7.out.size) (by omega))
      have hlb : lab.length ≤ 249 := by omega
      clear p3 r1 b7 s10 hP1 hY255
      simp only [show ((0 : Nat) : Int) = 0 from rfl]
      go_wp2_with fail
      refine HP2.out.mono ?_
      clear HP2
      rintro e W8 ⟨v2, rfl, r2, b8⟩
      have X8 := Lib.hid (X7.out.trans (b8.mono X7.out.size))
      have S108 := Lib.hid ((S10.out.below b8).more b8.size)
      by_cases p4 : 255 < ctx.length
      · rw [put1_full ctx p4] at r2 ⊢
        have HE2 := Lib.hid (show glabel key lab ctx (L : Int) = ([], 4) by rw [HE.out, if_pos (.inr p4)])
        clear p4 r2 b8 HE
        simp only [show ((4 : Nat) : Int) = 4 from rfl]
        go_wp2
        go_ret2
        rw [HE2.out]
        exact ⟨none, 0, rfl, Nat.le_refl _, Bs.nil _ _ _, X8.out⟩
      · have hctx255 : ctx.length ≤ 255 := by omega
        rw [put1_ok ctx hctx255] at r2 ⊢
        obtain ⟨P2, hP2⟩ : ∃ P2, UInt8.ofNat ctx.length :: ctx = P2 := ⟨_, rfl⟩
        have HP2l := Lib.hid (show P2.length ≤ 256 by rw [← hP2]; simp; omega)
        rw [hP2] at r2 HInf ⊢
        obtain ⟨A12, c12, rfl, s12, hc12⟩ := r2.form2
        have S12 := Lib.hid s12
        have HE2 := Lib.hid (show glabel key lab ctx (L : Int) = (expand key (info lab ctx L) L, 0) by rw [HE.out, if_neg (by omega)])
        obtain ⟨inf, hinf⟩ : ∃ inf, info lab ctx L = inf := ⟨_, rfl⟩
        rw [hinf] at HInf HE2
        obtain ⟨x1, hx1⟩ : ∃ x, UInt8.ofNat (L / 256) = x := ⟨_, rfl⟩
        obtain ⟨x2, hx2⟩ : ∃ x, UInt8.ofNat (L % 256) = x := ⟨_, rfl⟩
        rw [hx1, hx2] at HInf
        have e1 : IntKind.u8.wrap ((L : Int) / 256) = (x1.toNat : Int) := by rw [← hx1, UInt8.toNat_ofNat', IntKind.wrap_u8]; omega
        have e2 : IntKind.u8.wrap (L : Int) = (x2.toNat : Int) := by rw [← hx2, UInt8.toNat_ofNat', IntKind.wrap_u8]; omega
        have hP1l := HP1l.out
        have hP2l := HP2l.out
        clear p4 r2 b8 s12 hP2 hinf hx1 hx2 HE HYl hlb hctx255
        simp only [show ((0 : Nat) : Int) = 0 from rfl]
        go_wp2_with fail
        have s7 := litsB W8 [x1, x2] #[.int .u8 (x1.toNat : Int), .int .u8 (x2.toNat : Int)] rfl (0, 0) (W8.heap.size + 1) (Nat.lt_succ_self _)
        have b9 := (Below.refl W8.heap.size W8).alloc (Nat.le_refl _) (.cells #[.int .u8 (x1.toNat : Int), .int .u8 (x2.toNat : Int)] 5)
        obtain ⟨W9, hW9⟩ : ∃ W9, W8.alloc (.cells #[.int .u8 (x1.toNat : Int), .int .u8 (x2.toNat : Int)] 5) = W9 := ⟨_, rfl⟩
        have hz9 : W9.heap.size = W8.heap.size + 1 := by rw [← hW9]; simp
        rw [hW9] at s7 b9 ⊢
        rw [← hz9] at s7 ⊢
        obtain ⟨AC, hAC⟩ : ∃ AC, (some ⟨W8.heap.size, 0, none⟩ : Option Addr) = AC := ⟨_, rfl⟩
        rw [hAC] at s7 ⊢
        have X9 := X8.out.trans (b9.mono X8.out.size)
        have hMs := Ms.laid W9 [.slice AC 2 2, .slice A10 P1.length c10, .slice A12 P2.length c12] [[x1, x2], P1, P2] #[.slice AC 2 2, .slice A10 P1.length c10, .slice A12 P2.length c12] rfl (0, 0) rfl (fun k u y hu hy => by
          match k, hu, hy with
          | 0, hu, hy => simp at hu hy; subst hu; subst hy; exact ⟨AC, 2, rfl, Nat.le_refl _, s7⟩
          | 1, hu, hy => simp at hu hy; subst hu; subst hy; exact ⟨A10, c10, rfl, hc10, (S108.out.below b9).more b9.size⟩
          | 2, hu, hy => simp at hu hy; subst hu; subst hy; exact ⟨A12, c12, rfl, hc12, (S12.out.below b9).more b9.size⟩) (W9.heap.size + 1) (Nat.lt_succ_self _)
        have b10 := (Below.refl W9.heap.size W9).alloc (Nat.le_refl _) (.cells #[.slice AC 2 2, .slice A10 P1.length c10, .slice A12 P2.length c12] 22)
        obtain ⟨W10, hW10⟩ : ∃ W10, W9.alloc (.cells #[.slice AC 2 2, .slice A10 P1.length c10, .slice A12 P2.length c12] 22) = W10 := ⟨_, rfl⟩
        have hz10 : W10.heap.size = W9.heap.size + 1 := by rw [← hW10]; simp
        rw [hW10] at hMs b10 ⊢
        rw [← hz10] at hMs
        have hco := concat_any (some ⟨W9.heap.size, 0, none⟩) [[x1, x2], P1, P2] 3 W10 hMs (by simp [tot]; omega) (by simp)
        rw [show ([[x1, x2], P1, P2] : List (List UInt8)).flatten = inf by rw [HInf.out]; simp] at hco
        have HCo := Lib.hid hco
        have X10 := Lib.hid (X9.trans (b10.mono X9.size))
        have HIl := Lib.hid (show inf.length ≤ 1048576 by rw [HInf.out]; simp; omega)
        clear s7 b9 hW9 hz9 X9 hAC hMs b10 hW10 hz10 hco HInf S108 S12 S10 hc10 hc12
        refine HCo.out.mono ?_
        clear HCo
        rintro e W11 ⟨v9, rfl, r9, b11⟩
        have X11 := Lib.hid (X10.out.trans (b11.mono X10.out.size))
        obtain ⟨A29, d29, rfl, s29, hd29⟩ := r9.form2
        have hxp := kexpand_any A key c A29 inf d29 (L : Int) W11 ((HA.out.below X11.out).more X11.out.size) hc s29 hd29 hl HIl.out (by omega) (by omega) (HT.out.below X11.out)
        rw [show expandM key inf (L : Int) = (expand key inf L, 0) by unfold expandM; rw [if_neg (by omega), Int.toNat_natCast]] at hxp
        have HXp := Lib.hid hxp
        obtain ⟨R, hR⟩ : ∃ R, expand key inf L = R := ⟨_, rfl⟩
        rw [hR] at HXp HE2
        clear hxp b11 r9 s29 hd29 hR
        go_wp2_with fail
        refine HXp.out.mono ?_
        clear HXp
        rintro e W12 ⟨A5, d5, rfl, hd5, s5, b12⟩
        have X12 := Lib.hid (X11.out.trans (b12.mono X11.out.size))
        have S5 := Lib.hid s5
        clear s5 b12
        simp only at hd5 ⊢
        go_wp2
        go_ret2
        rw [HE2.out]
        exact ⟨A5, d5, rfl, hd5, S5.out, X12.out⟩
end Go.Proofs.YtnlhcogmccladaaDoor.KdfSumW
