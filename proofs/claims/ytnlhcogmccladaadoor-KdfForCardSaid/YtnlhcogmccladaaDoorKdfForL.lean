/-
  The walk of ticketwardkeep.KdfFor: it returns true and writes nothing that was there. Conditions: the tables that kdf asks for; lengths that fit.
-/
import Derived.Test.YtnlhcogmccladaaDoorKdfAlive
import Derived.Test.YtnlhcogmccladaaDoorStrB
import Derived.Test.YtnlhcogmccladaaDoorSConcat
import Derived.Deep.DeepCutAuto
namespace Go.Proofs.YtnlhcogmccladaaDoor.KdfForL
open Go.RowKit BytesW CellsW ArrW HashX MacM KdfM KdfSumW RowsW SConcatW StrB

theorem wf_i64 {n : Int} (h : (Lit.int .i64 n).wf = true) : -9223372036854775808 ≤ n ∧ n < 9223372036854775808 := by
  have hx : -9223372036854775808 ≤ n ∧ n ≤ 9223372036854775807 := by simpa [Lit.wf, IntKind.min, IntKind.max, IntKind.signed, IntKind.bits] using h
  omega

set_option maxHeartbeats 8000000 in
set_option maxRecDepth 100000 in
theorem walk (a0 : Option Addr) (l0 : List UInt8) (c0 : Nat) (lab : List UInt8) (a2 : Option Addr) (ctx : List UInt8) (c2 : Nat) (n : Int) (w : World) (hA : Bs w w.heap.size a0 l0) (hc0 : l0.length ≤ c0) (hl0 : l0.length ≤ 140737488351232) (hlab : lab.length ≤ 140737488351232) (hB : Bs w w.heap.size a2 ctx) (hc2 : ctx.length ≤ c2) (hctx : ctx.length ≤ 140737488351232) (hwf : (Lit.int .i64 n).wf = true) (hT : Tabs w) :
    Calls Tryd.prog 6 #[.slice a0 l0.length c0, .string ⟨lab.toArray⟩, .slice a2 ctx.length c2, .int .i64 n] w fun e w' => e = .returned (.bool true) ∧ Below w.heap.size w w' := by
  obtain ⟨hn1, hn2⟩ := wf_i64 hwf
  have HT := Lib.hid hT
  have HA := Lib.hid hA
  have HB := Lib.hid hB
  clear hT hA hB hwf
  go_enter Tryd.func6, Tryd.ntmps6
  go_wp2_with fail
  refine (KdfAliveW.alive_any w HT.out).mono ?_
  rintro e w1 ⟨rfl, b1⟩
  have X1 := Lib.hid b1
  clear b1
  have h5 := klabel_any a0 l0 c0 lab a2 ctx c2 n w1 ((HA.out.below X1.out).more X1.out.size) hc0 ((HB.out.below X1.out).more X1.out.size) hc2 hl0 hlab hctx hn1 hn2 (HT.out.below X1.out)
  obtain ⟨bs, er, hbe⟩ : ∃ bs er, glabel l0 lab ctx n = (bs, er) := ⟨_, _, rfl⟩
  rw [hbe] at h5
  have H5 := Lib.hid h5
  unfold glabel at hbe
  have HBe := Lib.hid hbe
  clear h5 hbe
  go_wp2_with fail
  refine H5.out.mono ?_
  clear H5
  rintro e w2 ⟨A2, d2, rfl, hd2, s2, b2⟩
  have X2 := Lib.hid (X1.out.trans (b2.mono X1.out.size))
  have S2 := Lib.hid s2
  simp only at hd2 ⊢
  clear b2 s2
  by_cases h1 : n < 0 ∨ 8160 < n
  · have hbe := HBe.out
    rw [if_pos h1] at hbe
    cases hbe
    go_wp2
    go_ret
    exact ⟨rfl, X2.out⟩
  · by_cases h2 : 249 < lab.length ∨ 255 < ctx.length
    · have hbe := HBe.out
      rw [if_neg h1, if_pos h2] at hbe
      cases hbe
      go_wp2
      go_ret
      exact ⟨rfl, X2.out⟩
    · have hbe := HBe.out
      rw [if_neg h1, if_neg h2] at hbe
      obtain ⟨L, rfl⟩ : ∃ L : Nat, n = (L : Int) := ⟨n.toNat, by omega⟩
      rw [Int.toNat_natCast] at hbe
      obtain ⟨hbs, rfl⟩ : expand l0 (info lab ctx L) L = bs ∧ er = 0 := by cases hbe; exact ⟨rfl, rfl⟩
      have HBs := Lib.hid hbs
      have HLl := Lib.hid (show bs.length = L by rw [← hbs]; exact expand_len _ _ L)
      have ct : decide ((L : Int) < 0) = false := decide_eq_false (by omega)
      rw [HLl.out] at hd2 ⊢
      have hlb : lab.length ≤ 249 := by omega
      have hcb : ctx.length ≤ 255 := by omega
      clear hbe hbs HBe h1 h2
      by_cases h300 : (L : Int) > 300
      · have ct2 : decide ((L : Int) > 300) = true := decide_eq_true h300
        go_wp2
        go_ret
        exact ⟨rfl, X2.out⟩
      · have ct2 : decide ((L : Int) > 300) = false := decide_eq_false h300
        have ct3 : decide ((lab.length : Int) > 249) = false := decide_eq_false (by omega)
        have ct4 : decide ((ctx.length : Int) > 255) = false := decide_eq_false (by omega)
        have hL3 : L ≤ 300 := by omega
        go_upto_region 8 with (fail)
        obtain ⟨x1, hx1⟩ : ∃ x, UInt8.ofNat (L / 256) = x := ⟨_, rfl⟩
        obtain ⟨x2, hx2⟩ : ∃ x, UInt8.ofNat (L % 256) = x := ⟨_, rfl⟩
        obtain ⟨x3, hx3⟩ : ∃ x, UInt8.ofNat (lab.length + 6) = x := ⟨_, rfl⟩
        obtain ⟨x4, hx4⟩ : ∃ x, UInt8.ofNat ctx.length = x := ⟨_, rfl⟩
        have HInf := Lib.hid (show info lab ctx L = [x1, x2, x3] ++ (tls ++ lab) ++ [x4] ++ ctx by rw [info, hx1, hx2, hx3, hx4])
        have e1 : IntKind.u8.wrap ((L : Int) / 256) = (x1.toNat : Int) := by rw [← hx1, UInt8.toNat_ofNat', IntKind.wrap_u8]; omega
        have e2 : IntKind.u8.wrap (L : Int) = (x2.toNat : Int) := by rw [← hx2, UInt8.toNat_ofNat', IntKind.wrap_u8]; omega
        have e3 : IntKind.u8.wrap (6 + (lab.length : Int)) = (x3.toNat : Int) := by rw [← hx3, UInt8.toNat_ofNat', IntKind.wrap_u8]; omega
        have e4 : IntKind.u8.wrap (ctx.length : Int) = (x4.toNat : Int) := by rw [← hx4, UInt8.toNat_ofNat', IntKind.wrap_u8]; omega
        have E4 := Lib.hid e4
        clear e4 hx1 hx2 hx3 hx4
        go_wp2_with fail
        have hs3 := KdfAliveW.lits w2 [x1, x2, x3] #[.int .u8 (x1.toNat : Int), .int .u8 (x2.toNat : Int), .int .u8 (x3.toNat : Int)] rfl (0, 0) (w2.heap.size + 1) (Nat.lt_succ_self _)
        have b3 := (Below.refl w2.heap.size w2).alloc (Nat.le_refl _) (.cells #[.int .u8 (x1.toNat : Int), .int .u8 (x2.toNat : Int), .int .u8 (x3.toNat : Int)] 5)
        obtain ⟨W3, hW3⟩ : ∃ W3, w2.alloc (.cells #[.int .u8 (x1.toNat : Int), .int .u8 (x2.toNat : Int), .int .u8 (x3.toNat : Int)] 5) = W3 := ⟨_, rfl⟩
        have hz3 : W3.heap.size = w2.heap.size + 1 := by rw [← hW3]; simp
        rw [hW3] at hs3 b3 ⊢
        rw [← hz3] at hs3
        have X3 := Lib.hid (X2.out.trans (b3.mono X2.out.size))
        obtain ⟨AA, hAA⟩ : ∃ AA, (some ⟨w2.heap.size, 0, none⟩ : Option Addr) = AA := ⟨_, rfl⟩
        rw [hAA] at hs3 ⊢
        have S3 := Lib.hid hs3
        have S23 := Lib.hid ((S2.out.below b3).more b3.size)
        rw [show ((⟨#[116, 108, 115, 49, 51, 32]⟩ : ByteArray) ++ ⟨lab.toArray⟩) = ⟨(tls ++ lab).toArray⟩ from cat_str tls lab]
        obtain ⟨Y, hY⟩ : ∃ Y, tls ++ lab = Y := ⟨_, rfl⟩
        have HYl := Lib.hid (show Y.length ≤ 255 by rw [← hY]; simp [tls]; omega)
        rw [hY] at HInf ⊢
        obtain ⟨c6, W6, hr, hc6, s6, b6⟩ := str_bytes Y W3
        obtain ⟨AB, hAB⟩ : ∃ AB, (some ⟨W3.heap.size, 0, none⟩ : Option Addr) = AB := ⟨_, rfl⟩
        rw [hAB] at hr s6
        have X6 := Lib.hid (X3.out.trans (b6.mono X3.out.size))
        have S36 := Lib.hid ((S3.out.below b6).more b6.size)
        have S26 := Lib.hid ((S23.out.below b6).more b6.size)
        have S6 := Lib.hid s6
        have e4 := E4.out
        clear hs3 b3 hW3 hz3 hAA hY hAB b6 s6 e1 e2 e3 S2 S3 S23
        rw [hr]
        go_wp2_with fail
        have s7 := KdfAliveW.lits W6 [x4] #[.int .u8 (x4.toNat : Int)] rfl (0, 0) (W6.heap.size + 1) (Nat.lt_succ_self _)
        have b7 := (Below.refl W6.heap.size W6).alloc (Nat.le_refl _) (.cells #[.int .u8 (x4.toNat : Int)] 5)
        obtain ⟨W7, hW7⟩ : ∃ W7, W6.alloc (.cells #[.int .u8 (x4.toNat : Int)] 5) = W7 := ⟨_, rfl⟩
        have hz7 : W7.heap.size = W6.heap.size + 1 := by rw [← hW7]; simp
        rw [hW7] at s7 b7 ⊢
        rw [← hz7] at s7 ⊢
        have X7 := X6.out.trans (b7.mono X6.out.size)
        obtain ⟨AC, hAC⟩ : ∃ AC, (some ⟨W6.heap.size, 0, none⟩ : Option Addr) = AC := ⟨_, rfl⟩
        rw [hAC] at s7 ⊢
        have hMs := Ms.laid W7 [.slice AA 3 3, .slice AB Y.length c6, .slice AC 1 1, .slice a2 ctx.length c2] [[x1, x2, x3], Y, [x4], ctx] #[.slice AA 3 3, .slice AB Y.length c6, .slice AC 1 1, .slice a2 ctx.length c2] rfl (0, 0) rfl (fun k u x hu hx => by
          match k, hu, hx with
          | 0, hu, hx => simp at hu hx; subst hu; subst hx; exact ⟨AA, 3, rfl, Nat.le_refl _, (S36.out.below b7).more b7.size⟩
          | 1, hu, hx => simp at hu hx; subst hu; subst hx; exact ⟨AB, c6, rfl, hc6, (S6.out.below b7).more b7.size⟩
          | 2, hu, hx => simp at hu hx; subst hu; subst hx; exact ⟨AC, 1, rfl, Nat.le_refl _, s7⟩
          | 3, hu, hx => simp at hu hx; subst hu; subst hx; exact ⟨a2, c2, rfl, hc2, (HB.out.below X7).more X7.size⟩) (W7.heap.size + 1) (Nat.lt_succ_self _)
        have b8 := (Below.refl W7.heap.size W7).alloc (Nat.le_refl _) (.cells #[.slice AA 3 3, .slice AB Y.length c6, .slice AC 1 1, .slice a2 ctx.length c2] 22)
        obtain ⟨W8, hW8⟩ : ∃ W8, W7.alloc (.cells #[.slice AA 3 3, .slice AB Y.length c6, .slice AC 1 1, .slice a2 ctx.length c2] 22) = W8 := ⟨_, rfl⟩
        have hz8 : W8.heap.size = W7.heap.size + 1 := by rw [← hW8]; simp
        rw [hW8] at hMs b8 ⊢
        rw [← hz8] at hMs
        have hYl := HYl.out
        have hco := concat_any (some ⟨W7.heap.size, 0, none⟩) [[x1, x2, x3], Y, [x4], ctx] 4 W8 hMs (by simp [tot]; omega) (by simp)
        have hfl : ([[x1, x2, x3], Y, [x4], ctx] : List (List UInt8)).flatten = info lab ctx L := by rw [HInf.out]; simp
        rw [hfl] at hco
        have HCo := Lib.hid hco
        have X8 := Lib.hid (X7.trans (b8.mono X7.size))
        have S28 := Lib.hid ((S26.out.below (b7.trans (b8.mono b7.size))).more (b7.trans (b8.mono b7.size)).size)
        have HIl := Lib.hid (show (info lab ctx L).length ≤ 1048576 by rw [HInf.out]; simp; omega)
        clear s7 b7 hW7 hz7 X7 hAC hMs b8 hW8 hz8 hco hfl S36 S26 S6 hc6 hr
        refine HCo.out.mono ?_
        clear HCo
        rintro e W9 ⟨v9, rfl, r9, b9⟩
        have X9 := Lib.hid (X8.out.trans (b9.mono X8.out.size))
        have S29 := Lib.hid ((S28.out.below b9).more b9.size)
        obtain ⟨A9, d9, rfl, s9, hd9⟩ := r9.form2
        have hxp := kexpand_any a0 l0 c0 A9 (info lab ctx L) d9 (L : Int) W9 ((HA.out.below X9.out).more X9.out.size) hc0 s9 hd9 hl0 HIl.out (by omega) (by omega) (HT.out.below X9.out)
        rw [show expandM l0 (info lab ctx L) (L : Int) = (bs, 0) by unfold expandM; rw [if_neg (by omega), Int.toNat_natCast, HBs.out]] at hxp
        have HXp := Lib.hid hxp
        clear hxp b9 r9 s9 hd9 S28 HInf HBs
        generalize info lab ctx L = inf at *
        go_wp2_with fail
        refine HXp.out.mono ?_
        clear HXp
        rintro e w5 ⟨A5, d5, rfl, hd5, s5, b5⟩
        have X5 := Lib.hid (X9.out.trans (b5.mono X9.out.size))
        have cv1 : (convert 22 9 (.slice A2 L d2)).run Tryd.prog w5 = .ok (.string ⟨bs.toArray⟩) w5 := by
          have h := ((S29.out.below b5).more b5.size).conv d2
          rw [HLl.out] at h
          exact h
        have cv2 : (convert 22 9 (.slice A5 L d5)).run Tryd.prog w5 = .ok (.string ⟨bs.toArray⟩) w5 := by
          have h := s5.conv d5
          simp only [HLl.out] at h
          exact h
        simp only [HLl.out]
        clear s5 b5
        go_wp2
        go_ret
        exact ⟨rfl, X5.out⟩
end Go.Proofs.YtnlhcogmccladaaDoor.KdfForL
