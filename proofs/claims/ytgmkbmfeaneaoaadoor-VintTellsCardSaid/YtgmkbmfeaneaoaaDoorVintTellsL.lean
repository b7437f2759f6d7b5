/-
  The walk of ticketwardlaw.VintTells: it returns true and writes nothing that was there. Conditions: the table of math/bits, the form's own reach.
-/
import Derived.Test.YtgmkbmfeaneaoaaDoorVintCas
import Derived.Test.YtgmkbmfeaneaoaaDoorVintRef
import Derived.Test.YtgmkbmfeaneaoaaDoorTail
import Derived.Deep.DeepCutAuto
namespace Go.Proofs.YtgmkbmfeaneaoaaDoor.VintTellsL
open Go.RowKit BytesW VintM VintLongW VintTakeW VintPutW VintRefW VintCasW

/-- Long: the error, and the length. -/
def longM (n : Int) : Nat × Nat := if okN n = true then (0, lng n.toNat) else (2, 0)
theorem longM_no {n : Int} (h : okN n = false) : longM n = (2, 0) := by unfold longM; rw [if_neg (by simp [h])]
theorem longM_yes {m : Nat} (h : m < 4611686018427387904) : longM m = (0, lng m) := by unfold longM; rw [if_pos (okN_of h), Int.toNat_natCast]
theorem long_any (n : Int) (w : World) : Calls Tryd.prog 8 #[.int .i64 n] w fun e w' => e = .returned (.tuple #[.int .i64 ((longM n).2 : Int), .int .i64 ((longM n).1 : Int)]) ∧ w = w' := by
  by_cases h : okN n = true
  · obtain ⟨m, rfl, hm⟩ := okN_yes h
    rw [longM_yes hm]
    exact long_yes m hm w
  · have h : okN n = false := by simpa using h
    rw [longM_no h]
    exact long_no n h w

/-- What Strict says beside Take, in three ways. -/
def Three (T S : Nat × Nat × Nat) (tb : Bool) : Prop :=
  (T.1 ≠ 0 ∧ tb = false ∧ S = T) ∨ (T.1 = 0 ∧ T.2.1 < 4611686018427387904 ∧ lng T.2.1 ≠ T.2.2 ∧ tb = true ∧ S = (1, 0, 0)) ∨ (T.1 = 0 ∧ T.2.1 < 4611686018427387904 ∧ lng T.2.1 = T.2.2 ∧ tb = false ∧ S = T)
theorem three (l : List UInt8) : ∃ tb, Three (take l) (strict l) tb := by
  rcases take_cases l with e | ⟨u, v, e, hvK, hvl, hvn, hu, -, -⟩
  · exact ⟨false, .inl ⟨by rw [e]; decide, rfl, by rw [strict_err e (by decide), e]⟩⟩
  · have hle := fits_lng hvK hvn
    by_cases hg : lng u < v
    · exact ⟨true, .inr (.inl ⟨by rw [e], by rw [e]; exact hu, by rw [e]; show lng u ≠ v; omega, rfl, strict_long e hg⟩)⟩
    · exact ⟨false, .inr (.inr ⟨by rw [e], by rw [e]; exact hu, by rw [e]; show lng u = v; omega, rfl, by rw [strict_ok e (by omega), e]⟩)⟩

set_option maxHeartbeats 4000000 in
set_option maxRecDepth 100000 in
theorem walk (n k : Int) (a : Option Addr) (l : List UInt8) (c : Nat) (w : World) (_ : (Lit.int .i64 n).wf = true) (_ : (Lit.int .i64 k).wf = true) (hA : Bs w w.heap.size a l) (hca : l.length ≤ c) (hl : l.length ≤ 140737488351232) (hT : Tab w) :
    Calls Tryd.prog 3 #[.int .i64 n, .int .i64 k, .slice a l.length c] w fun e w' => e = .returned (.bool true) ∧ Below w.heap.size w w' := by
  have HTm := Lib.hid hT
  have hlg := Lib.hid (fun w => long_any n w)
  have hp := Lib.hid (fun w h => put_any n w h)
  have ha := Lib.hid (fun w h => as_any n k w h)
  have ht := Lib.hid (fun B w h => take_any l a c B w h hca)
  have hct := Lib.hid (fun w h => ctake_any l a c w h hca (by omega))
  have hst := Lib.hid (fun B w h => strict_any l a c B w h hca)
  obtain ⟨tb, h3⟩ := three l
  have H3 := Lib.hid h3
  clear hT h3
  unfold ThPost at ht hst
  unfold TbPost at hct
  unfold ByPost at hp ha
  obtain ⟨T, hTe⟩ : ∃ T, take l = T := ⟨_, rfl⟩
  obtain ⟨S, hSe⟩ : ∃ S, strict l = S := ⟨_, rfl⟩
  obtain ⟨P, hPe⟩ : ∃ P, put n = P := ⟨_, rfl⟩
  obtain ⟨Q, hQe⟩ : ∃ Q, asM n k = Q := ⟨_, rfl⟩
  obtain ⟨G, hGe⟩ : ∃ G, longM n = G := ⟨_, rfl⟩
  rw [hTe] at ht hct H3
  rw [hSe] at hst H3
  rw [hPe] at hp
  rw [hQe] at ha
  rw [hGe] at hlg
  clear hTe hSe
  have HP := Lib.hid hPe
  have HQ := Lib.hid hQe
  have HG := Lib.hid hGe
  clear hPe hQe hGe
  obtain ⟨E, U, V⟩ := T
  obtain ⟨E2, U2, V2⟩ := S
  obtain ⟨er, p⟩ := P
  obtain ⟨ea, q⟩ := Q
  obtain ⟨el, g⟩ := G
  simp only at hlg hp ha ht hct hst
  go_enter Tryd.func3, Tryd.ntmps3
  go_wp2_with fail
  refine (hlg.out w).mono ?_
  clear hlg
  rintro e w' ⟨rfl, rfl⟩
  go_wp2_with fail
  refine (hp.out w HTm.out).mono ?_
  clear hp
  rintro e w1 ⟨v1, rfl, r1, b1⟩
  have T1 := Lib.hid (HTm.out.below b1)
  go_wp2_with fail
  refine (ha.out w1 T1.out).mono ?_
  clear ha T1
  rintro e w2 ⟨v2, rfl, r2', b2'⟩
  have b2 := b1.trans (b2'.mono b1.size)
  have r1 := r1.below b2'
  have r2 := Row.base r2' b1.size
  go_wp2_with fail
  refine (ht.out _ w2 (hA.below b2)).mono ?_
  clear ht
  rintro e w' ⟨rfl, rfl⟩
  go_wp2_with fail
  refine (hct.out w2 ((hA.below b2).more b2.size)).mono ?_
  clear hct
  rintro e w3 ⟨rfl, b3'⟩
  have b3 := b2.trans (b3'.mono b2.size)
  have r1 := r1.below b3'
  have r2 := r2.below b3'
  clear b3' b2 b2' b1 r2'
  go_wp2_with fail
  refine (hst.out _ w3 (hA.below b3)).mono ?_
  clear hst
  rintro e w' ⟨rfl, rfl⟩
  go_upto_region 9 with (fail)
  go_cut [76] (fun s wx => s = .bool tb ∧ Below w.heap.size w wx ∧ Row w.heap.size wx v1 p ∧ Row w.heap.size wx v2 q)
  case first =>
    rcases H3.out with ⟨h1, rfl, _⟩ | ⟨h1, h2, h3, rfl, _⟩ | ⟨h1, h2, h3, rfl, _⟩
    · have t1 : ((E : Int) == 0) = false := by simp at h1; simp; omega
      clear h1
      go_wp2_with fail
      go_meet
      case rel => exact ⟨rfl, b3, r1, r2⟩
    · have hcl := Lib.hid (fun w => clong_any U h2 w)
      simp only at h1 h2 h3
      have t9 : ((lng U : Int) != (V : Int)) = true := bne_iff_ne.2 (by omega)
      subst h1
      clear h3 h2
      generalize lng U = lu at *
      go_wp2_with fail
      refine (hcl.out _).mono ?_
      rintro e w4 ⟨rfl, b4'⟩
      have b4 := b3.trans (b4'.mono b3.size)
      have s1 := r1.below b4'
      have s2 := r2.below b4'
      go_wp2_with fail
      go_meet
      case rel => exact ⟨rfl, b4, s1, s2⟩
    · have hcl := Lib.hid (fun w => clong_any U h2 w)
      simp only at h1 h2 h3
      subst h1
      clear h2
      rw [h3] at hcl
      clear h3
      go_wp2_with fail
      refine (hcl.out _).mono ?_
      rintro e w4 ⟨rfl, b4'⟩
      have b4 := b3.trans (b4'.mono b3.size)
      have s1 := r1.below b4'
      have s2 := r2.below b4'
      go_wp2_with fail
      go_meet
      case rel => exact ⟨rfl, b4, s1, s2⟩
  case rest =>
    obtain ⟨rfl, b4, s1, s2⟩ := hcut
    clear b3 r1 r2
    go_upto_if 76 with (fail)
    go_cut [16, 17, 18] (fun x y z wx => x = .int .i64 (U2 : Int) ∧ y = .int .i64 (V2 : Int) ∧ z = .int .i64 (E2 : Int) ∧ wx = wc)
    case first =>
      rcases H3.out with ⟨-, rfl, h⟩ | ⟨-, -, -, rfl, h⟩ | ⟨-, -, -, rfl, h⟩
      all_goals
        have HS := Lib.hid h
        clear h H3
        go_wp2_with fail
        go_meet
        case rel =>
          have h := HS.out
          simp only [Prod.mk.injEq] at h
          exact ⟨by rw [h.2.1] <;> rfl, by rw [h.2.2] <;> rfl, by rw [h.1] <;> rfl, rfl⟩
    case rest =>
      obtain ⟨rfl, rfl, rfl, rfl⟩ := hcut
      rename_i wc
      clear H3
      obtain ⟨A1, c1, rfl, q1, _⟩ := s1.form2
      obtain ⟨A2, c2, rfl, q2, _⟩ := s2.form2
      clear s1 s2
      by_cases hn : okN n = true
      · obtain ⟨m, rfl, hm⟩ := okN_yes hn
        have r0 : decide ((m : Int) < 0) = false := decide_eq_false (by omega)
        have r1 : decide (4611686018427387904 ≤ (m : Int)) = false := decide_eq_false (by omega)
        have hG := HG.out
        have hP := HP.out
        rw [longM_yes hm] at hG
        rw [put_yes hm] at hP
        simp only [Prod.mk.injEq] at hG hP
        obtain ⟨rfl, rfl⟩ := hG
        obtain ⟨rfl, rfl⟩ := hP
        have hcm := Lib.hid (fun w => clong_any m hm w)
        have hcs := Lib.hid (fun w => cas_any m (lng m) (lng_isK m) hm w)
        have HQm := HQ.out
        clear HG HP HQ hn
        by_cases hk : okK k = true
        · obtain ⟨j, rfl, hj⟩ := okK_yes hk
          clear hk
          by_cases hf : j < lng m
          · rw [as_full hm hj hf] at HQm
            simp only [Prod.mk.injEq] at HQm
            obtain ⟨rfl, rfl⟩ := HQm
            clear hm
            generalize enc m (lng m) = P at *
            generalize lng m = lm at *
            have n19 : decide (j < lm) = true := decide_eq_true hf
            have k1 := fun x : Ab wc => (q1.below x.property).conv c1
            go_wp2_with fail
            have hne := ab wc
            have x0 := (Below.refl wc.heap.size wc).drew
            refine wp_region_sched (S := fun W => ∃ x : Ab wc, W = x.val) [(0, true), (1, true), (2, true), (3, true), (4, true), (5, true), (6, true), (7, true), (8, true), (9, false), (10, true), (11, true), (12, true), (13, true), (14, true), (15, true), (16, true), (17, false), (18, false), (19, false), (20, false)] (by kernel_rfl) (by kernel_rfl) (by decide) (fun _ _ d _ _ h => by cases d <;> exact h) (Cl.of x0) ?_
            repeat ((with_reducible refine wpSched_read rfl (fun K hK => ?_)); go_simp; refine hK _ ?_; clear hK K)
            refine wpSched_step rfl (Cl.of x0) (fun K hK => ?_)
            go_simp
            refine (hcm.out _).mono ?_
            rintro e W1 ⟨rfl, y1⟩
            have x1 := x0.trans y1
            simp only
            refine hK _ _ ⟨Cl.of x1, ?_⟩
            clear hK K
            repeat ((with_reducible refine wpSched_read rfl (fun K hK => ?_)); go_simp; refine hK _ ?_; clear hK K)
            refine wpSched_step rfl (Cl.of x1) (fun K hK => ?_)
            go_simp
            refine (hcs.out _).mono ?_
            rintro e W2 ⟨v9, rfl, r9, y2⟩
            have x2 := x1.trans (y2.mono x1.size)
            obtain ⟨A9, c9, rfl, q9, _⟩ := r9.form2
            have k9 := q9.conv c9
            simp only
            refine hK _ _ ⟨Cl.of x2, ?_⟩
            clear hK K r9 q9
            refine wpSched_step rfl (Cl.of x2) (fun K hK => ?_)
            go_simp
            refine hK _ _ ⟨Cl.of x2, ?_⟩
            clear hK K
            refine wpSched_step rfl (Cl.of x2) (fun K hK => ?_)
            go_simp
            refine hK _ _ ⟨Cl.of x2, ?_⟩
            clear hK K
            refine wpSched_step rfl (Cl.of x2) (fun K hK => ?_)
            go_simp
            refine hK _ _ ⟨Cl.of x2, ?_⟩
            clear hK K
            refine wpSched_nil ?_
            have b5 := b4.trans (x2.mono b4.size)
            have q2 := (q2.below x2).more x2.size
            clear k1 k9 hne q1 x0 x1 y1 y2 x2
            go_upto_region 17 with (fail)
            go_cut [141] (fun s wx => s = .bool false ∧ wx = W2)
            case first =>
              rcases hj with h | h | h | h
              all_goals
                obtain ⟨n1, n2, n4, n8⟩ := nes j _ h
                have HJ := Lib.hid h
                clear h
                simp only [Nat.reduceBneDiff, bne_self_eq_false] at n1 n2 n4 n8
                go_wp2_with fail
                go_meet
                case rel => exact ⟨rfl, rfl⟩
            case rest =>
              obtain ⟨rfl, rfl⟩ := hcut
              go_wp2
              go_ret
              exact ⟨rfl, b5⟩
          · rw [as_ok hm hj (by omega)] at HQm
            simp only [Prod.mk.injEq] at HQm
            obtain ⟨rfl, rfl⟩ := HQm
            have hcj := Lib.hid (fun w => cas_any m j hj hm w)
            clear hm
            generalize enc m (lng m) = P at *
            generalize enc m j = E at *
            generalize lng m = lm at *
            have n19 : decide (j < lm) = false := decide_eq_false hf
            have k1 := fun x : Ab wc => (q1.below x.property).conv c1
            go_wp2_with fail
            have hne := ab wc
            have x0 := (Below.refl wc.heap.size wc).drew
            refine wp_region_sched (S := fun W => ∃ x : Ab wc, W = x.val) [(0, true), (1, true), (2, true), (3, true), (4, true), (5, true), (6, true), (7, true), (8, true), (9, false), (10, true), (11, true), (12, true), (13, true), (14, true), (15, true), (16, true), (17, false), (18, false), (19, false), (20, false)] (by kernel_rfl) (by kernel_rfl) (by decide) (fun _ _ d _ _ h => by cases d <;> exact h) (Cl.of x0) ?_
            repeat ((with_reducible refine wpSched_read rfl (fun K hK => ?_)); go_simp; refine hK _ ?_; clear hK K)
            refine wpSched_step rfl (Cl.of x0) (fun K hK => ?_)
            go_simp
            refine (hcm.out _).mono ?_
            rintro e W1 ⟨rfl, y1⟩
            have x1 := x0.trans y1
            simp only
            refine hK _ _ ⟨Cl.of x1, ?_⟩
            clear hK K
            repeat ((with_reducible refine wpSched_read rfl (fun K hK => ?_)); go_simp; refine hK _ ?_; clear hK K)
            refine wpSched_step rfl (Cl.of x1) (fun K hK => ?_)
            go_simp
            refine (hcs.out _).mono ?_
            rintro e W2 ⟨v9, rfl, r9, y2⟩
            have x2 := x1.trans (y2.mono x1.size)
            obtain ⟨A9, c9, rfl, q9, _⟩ := r9.form2
            have k9 := q9.conv c9
            simp only
            refine hK _ _ ⟨Cl.of x2, ?_⟩
            clear hK K r9 q9
            refine wpSched_step rfl (Cl.of x2) (fun K hK => ?_)
            go_simp
            refine hK _ _ ⟨Cl.of x2, ?_⟩
            clear hK K
            refine wpSched_step rfl (Cl.of x2) (fun K hK => ?_)
            go_simp
            refine hK _ _ ⟨Cl.of x2, ?_⟩
            clear hK K
            refine wpSched_step rfl (Cl.of x2) (fun K hK => ?_)
            go_simp
            refine hK _ _ ⟨Cl.of x2, ?_⟩
            clear hK K
            refine wpSched_nil ?_
            have b5 := b4.trans (x2.mono b4.size)
            have q2 := (q2.below x2).more x2.size
            clear k1 k9 hne q1 x0 x1 y1 y2 x2
            go_upto_region 17 with (fail)
            go_cut [141] (fun s wx => s = .bool false ∧ wx = W2)
            case first =>
              rcases hj with h | h | h | h
              all_goals
                obtain ⟨n1, n2, n4, n8⟩ := nes j _ h
                have HJ := Lib.hid h
                clear h
                simp only [Nat.reduceBneDiff, bne_self_eq_false] at n1 n2 n4 n8
                go_wp2_with fail
                go_meet
                case rel => exact ⟨rfl, rfl⟩
            case rest =>
              obtain ⟨rfl, rfl⟩ := hcut
              have k1 := fun x : Ab wc => (q2.below x.property).conv c2
              go_wp2_with fail
              have hne := ab wc
              have x0 := (Below.refl wc.heap.size wc).drew
              refine wp_region_sched (S := fun W => ∃ x : Ab wc, W = x.val) [(0, true), (1, true), (2, true), (3, true), (4, true), (5, true), (6, true), (7, false), (8, false), (9, false), (10, false), (11, false)] (by kernel_rfl) (by kernel_rfl) (by decide) (fun _ _ d _ _ h => by cases d <;> exact h) (Cl.of x0) ?_
              repeat ((with_reducible refine wpSched_read rfl (fun K hK => ?_)); go_simp; refine hK _ ?_; clear hK K)
              refine wpSched_step rfl (Cl.of x0) (fun K hK => ?_)
              go_simp
              refine (hcj.out _).mono ?_
              rintro e W3 ⟨v8, rfl, r8, y1⟩
              have x1 := x0.trans y1
              obtain ⟨A8, c8, rfl, q8, _⟩ := r8.form2
              have k8 := q8.conv c8
              simp only
              refine hK _ _ ⟨Cl.of x1, ?_⟩
              clear hK K r8 q8
              refine wpSched_step rfl (Cl.of x1) (fun K hK => ?_)
              go_simp
              refine hK _ _ ⟨Cl.of x1, ?_⟩
              clear hK K
              refine wpSched_step rfl (Cl.of x1) (fun K hK => ?_)
              go_simp
              refine hK _ _ ⟨Cl.of x1, ?_⟩
              clear hK K
              refine wpSched_step rfl (Cl.of x1) (fun K hK => ?_)
              go_simp
              refine hK _ _ ⟨Cl.of x1, ?_⟩
              clear hK K
              refine wpSched_step rfl (Cl.of x1) (fun K hK => ?_)
              go_simp
              refine hK _ _ ⟨Cl.of x1, ?_⟩
              clear hK K
              refine wpSched_nil ?_
              have b6 := b5.trans (x1.mono b5.size)
              clear k1 k8 hne x0 x1
              go_wp2
              go_ret
              exact ⟨rfl, b6⟩
        · have hk : okK k = false := by simpa using hk
          rw [as_kind hm hk] at HQm
          simp only [Prod.mk.injEq] at HQm
          obtain ⟨rfl, rfl⟩ := HQm
          obtain ⟨k1, k2, k4, k8⟩ := okK_no hk
          have n1 : (k != 1) = true := bne_iff_ne.2 k1
          have n2 : (k != 2) = true := bne_iff_ne.2 k2
          have n4 : (k != 4) = true := bne_iff_ne.2 k4
          have n8 : (k != 8) = true := bne_iff_ne.2 k8
          clear hk k1 k2 k4 k8 hm
          generalize enc m (lng m) = P at *
          generalize lng m = lm at *
          have k1 := fun x : Ab wc => (q1.below x.property).conv c1
          go_wp2_with fail
          have hne := ab wc
          have x0 := (Below.refl wc.heap.size wc).drew
          refine wp_region_sched (S := fun W => ∃ x : Ab wc, W = x.val) [(0, true), (1, true), (2, true), (3, true), (4, true), (5, true), (6, true), (7, true), (8, true), (9, false), (10, true), (11, true), (12, true), (13, true), (14, true), (15, true), (16, true), (17, false), (18, false), (19, false), (20, false)] (by kernel_rfl) (by kernel_rfl) (by decide) (fun _ _ d _ _ h => by cases d <;> exact h) (Cl.of x0) ?_
          repeat ((with_reducible refine wpSched_read rfl (fun K hK => ?_)); go_simp; refine hK _ ?_; clear hK K)
          refine wpSched_step rfl (Cl.of x0) (fun K hK => ?_)
          go_simp
          refine (hcm.out _).mono ?_
          rintro e W1 ⟨rfl, y1⟩
          have x1 := x0.trans y1
          simp only
          refine hK _ _ ⟨Cl.of x1, ?_⟩
          clear hK K
          repeat ((with_reducible refine wpSched_read rfl (fun K hK => ?_)); go_simp; refine hK _ ?_; clear hK K)
          refine wpSched_step rfl (Cl.of x1) (fun K hK => ?_)
          go_simp
          refine (hcs.out _).mono ?_
          rintro e W2 ⟨v9, rfl, r9, y2⟩
          have x2 := x1.trans (y2.mono x1.size)
          obtain ⟨A9, c9, rfl, q9, _⟩ := r9.form2
          have k9 := q9.conv c9
          simp only
          refine hK _ _ ⟨Cl.of x2, ?_⟩
          clear hK K r9 q9
          refine wpSched_step rfl (Cl.of x2) (fun K hK => ?_)
          go_simp
          refine hK _ _ ⟨Cl.of x2, ?_⟩
          clear hK K
          refine wpSched_step rfl (Cl.of x2) (fun K hK => ?_)
          go_simp
          refine hK _ _ ⟨Cl.of x2, ?_⟩
          clear hK K
          refine wpSched_step rfl (Cl.of x2) (fun K hK => ?_)
          go_simp
          refine hK _ _ ⟨Cl.of x2, ?_⟩
          clear hK K
          refine wpSched_nil ?_
          have b5 := b4.trans (x2.mono b4.size)
          have q2 := (q2.below x2).more x2.size
          clear k1 k9 hne q1 x0 x1 y1 y2 x2
          go_wp2
          go_ret
          exact ⟨rfl, b5⟩
      · have hn : okN n = false := by simpa using hn
        have hG := HG.out
        have hP := HP.out
        have hQ := HQ.out
        rw [longM_no hn] at hG
        rw [put_no hn] at hP
        rw [as_no k hn] at hQ
        simp only [Prod.mk.injEq] at hG hP hQ
        obtain ⟨rfl, rfl⟩ := hG
        obtain ⟨rfl, rfl⟩ := hP
        obtain ⟨rfl, rfl⟩ := hQ
        have h' := okN_no hn
        clear hn HG HP HQ
        have ht13 : (n < 0 ∧ decide (n < 0) = true) ∨ (decide (n < 0) = false ∧ decide (4611686018427387904 ≤ n) = true) := by
          rcases h' with h | h
          · exact .inl ⟨h, decide_eq_true h⟩
          · exact .inr ⟨decide_eq_false (by omega), decide_eq_true h⟩
        clear h'
        rcases ht13 with ⟨t0, t1⟩ | ⟨t0, t1⟩
        all_goals
          go_wp2
          go_ret
          exact ⟨rfl, b4⟩
end Go.Proofs.YtgmkbmfeaneaoaaDoor.VintTellsL
