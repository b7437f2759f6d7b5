/-
  vint.Take and vint.Strict: what they hand back. Conditions: in each statement.
-/
import Derived.Test.YtgmkbmfeaneaoaaDoorVintLong
import Derived.Test.YtgmkbmfeaneaoaaDoorBits
import Derived.RegionTactic
namespace Go.Proofs.YtgmkbmfeaneaoaaDoor.VintTakeW
open Go.RowKit BytesW VintM VintLongW

/-- Three numbers. -/
def ThPost (p : Nat × Nat × Nat) (w : World) (e : Ending) (w' : World) : Prop :=
  e = .returned (.tuple #[.int .i64 (p.2.1 : Int), .int .i64 (p.2.2 : Int), .int .i64 (p.1 : Int)]) ∧ w = w'

theorem headD_eq (l : List UInt8) (h : 0 < l.length) : l.headD 0 = l[0] := by
  cases l with
  | nil => simp at h
  | cons x r => rfl

theorem cell_one {w : World} {ad : Addr} {j : Nat} {v : Option Value} (h : w.cell? (ad.add (j + 1)) = v) : w.cell? { block := ad.block, off := ad.off + 1 + j } = v := by
  rw [← h]
  unfold Addr.add
  rw [if_neg (by omega), Nat.add_assoc, Nat.add_comm 1 j]

theorem num_small {n j : Nat} (h : n < 64 * 256 ^ j) (hj : j ≤ 6) : n < 18014398509481984 := by
  have : 256 ^ j ≤ 256 ^ 6 := Nat.pow_le_pow_right (by decide) hj
  omega

theorem or8 (V : Nat) (x : UInt8) (h : V < 18014398509481984) : bits .or .i64 ((V : Int) * 256) (x.toNat : Int) = ((V * 256 + x.toNat : Nat) : Int) := by
  have hx := x.toNat_lt
  have hw : ∀ n : Int, 0 ≤ n → n < 2 ^ 62 → IntKind.i64.wrap n = n := fun n h0 h1 => by rw [IntKind.wrap_i64]; omega
  have h := bits_join .i64 62 (by decide) hw 8 ((V : Int) * 256) (x.toNat : Int) (by omega) (by omega) (by omega) (by omega) (by omega) (by omega)
  rw [h]; omega

theorem pow_wrap (j : Nat) (h : j ≤ 3) : wrap64 ((2 : Int) ^ j) = ((2 ^ j : Nat) : Int) := by
  have : j = 0 ∨ j = 1 ∨ j = 2 ∨ j = 3 := by omega
  rcases this with rfl | rfl | rfl | rfl <;> simp [wrap64]

set_option maxHeartbeats 4000000 in
set_option maxRecDepth 100000 in
theorem take_any (l : List UInt8) (A : Option Addr) (c B : Nat) (w : World) (hA : Bs w B A l) (hc : l.length ≤ c) :
    Calls Tryd.prog 11 #[.slice A l.length c] w (ThPost (take l) w) := by
  by_cases h0 : l.length = 0
  · obtain rfl : l = [] := List.eq_nil_of_length_eq_zero h0
    have HP := Lib.hid take_nil
    clear hA
    go_enter Tryd.func11, Tryd.ntmps11
    go_wp2
    go_ret3
    rw [HP.out]
    exact ⟨rfl, rfl⟩
  · have hpos : 0 < l.length := by omega
    have t0 : ((l.length : Int) == 0) = false := beq_eq_false_iff_ne.2 (by omega)
    obtain ⟨ad, rfl, hadb, hcell⟩ := hA.at_ hpos
    rw [add_zero] at hcell
    have HK := Lib.hid (show kk l = 2 ^ (l[0].toNat / 64) by unfold kk; rw [headD_eq l hpos])
    generalize hx0 : l[0] = x at *
    have HX := Lib.hid hx0
    clear hx0 h0
    have hx := x.toNat_lt
    have hq : x.toNat / 64 ≤ 3 := by omega
    have hK := isK_pos (kk_isK l)
    have hw := pow_wrap (x.toNat / 64) hq
    have H0 := Lib.hid (num_zero l)
    rw [← HK.out] at hw
    have HS := Lib.hid (@take_short l)
    have HO := Lib.hid (@take_ok l (fun e => by rw [e] at hpos; simp at hpos))
    generalize kk l = K at *
    clear HK hq
    obtain ⟨hK1, hK8⟩ := hK
    by_cases hs : l.length < K
    · have HP := Lib.hid (HS.out hs)
      clear HS HO H0 hK1 hK8
      go_enter Tryd.func11, Tryd.ntmps11
      go_wp2
      go_ret3
      rw [HP.out]
      exact ⟨rfl, rfl⟩
    · have hs' : K ≤ l.length := by omega
      have HP := Lib.hid (HO.out hs')
      have hKc : K ≤ c := by omega
      clear HS HO hs
      have HN := Lib.hid (fun j h => num_succ l j h)
      have HL := Lib.hid (fun j h => num_lt l j h)
      have HC := Lib.hid (fun (j : Nat) (h : j + 1 < l.length) => by
        obtain ⟨ad', e, _, h''⟩ := hA hpos
        cases e
        exact cell_one (h'' (j + 1) h))
      by_cases hc1 : c = 1
      · subst hc1
        obtain rfl : K = 1 := by omega
        clear hA HC HN HL
        go_enter Tryd.func11, Tryd.ntmps11
        go_wp2
        go_loop [6, 30] (fun v i => ∃ (m : Nat), i = .int .i64 0 ∧ m = num l 0 ∧ v = .int .i64 (m : Int)) (fun _ _ => 0)
        case atStart => exact ⟨_, rfl, rfl, by rw [H0.out, headD_eq l hpos, HX.out]; rfl⟩
        case round =>
          obtain ⟨m, rfl, hm, rfl⟩ := hrel
          have HM := Lib.hid hm
          clear hm
          go_wp2
          go_ret3
          rw [HP.out, ← HM.out]
          exact ⟨rfl, rfl⟩
      · go_enter Tryd.func11, Tryd.ntmps11
        go_wp2
        go_loop [6, 30] (fun v i => ∃ (j m : Nat), j ≤ K - 1 ∧ i = .int .i64 j ∧ m = num l j ∧ v = .int .i64 (m : Int)) (fun _ i => K - 1 - (intOf i).toNat)
        case atStart => exact ⟨0, _, Nat.zero_le _, rfl, rfl, by rw [H0.out, headD_eq l hpos, HX.out]; rfl⟩
        case round =>
          obtain ⟨j, m, hj, rfl, hm, rfl⟩ := hrel
          by_cases hlt : j < K - 1
          · have hcl := HC.out j (by omega)
            have HM := Lib.hid (HN.out j (by omega))
            have hml := num_small (HL.out j (by omega)) (show j ≤ 6 by omega)
            rw [← hm] at HM hml
            generalize l[j + 1]'_ = y at *
            have hor := or8 m y hml
            have hy := y.toNat_lt
            clear hm
            go_wp2
            go_round
            case rel => exact ⟨j + 1, m * 256 + y.toNat, by omega, by go_num, HM.out.symm, by go_num⟩
            case measure => simp [intOf]; omega
          · obtain rfl : j = K - 1 := by omega
            have HM := Lib.hid hm
            clear hm
            go_wp2
            go_ret3
            rw [HP.out, ← HM.out]
            exact ⟨rfl, rfl⟩

theorem strict_err {l : List UInt8} {e : Nat} (h : take l = (e, 0, 0)) (he : e ≠ 0) : strict l = (8, 0, 0) := by
  unfold strict
  rw [h, if_pos he]
theorem strict_long {l : List UInt8} {n k : Nat} (h : take l = (0, n, k)) (hk : lng n < k) : strict l = (1, 0, 0) := by
  unfold strict
  rw [h, if_neg (by simp), if_pos hk]
theorem strict_ok {l : List UInt8} {n k : Nat} (h : take l = (0, n, k)) (hk : k ≤ lng n) : strict l = (0, n, k) := by
  unfold strict
  rw [h, if_neg (by simp), if_neg (by simp; omega)]

set_option maxHeartbeats 4000000 in
set_option maxRecDepth 100000 in
theorem strict_any (l : List UInt8) (A : Option Addr) (c B : Nat) (w : World) (hA : Bs w B A l) (hc : l.length ≤ c) :
    Calls Tryd.prog 13 #[.slice A l.length c] w (ThPost (strict l) w) := by
  have ht := take_any l A c B w hA hc
  unfold ThPost at ht
  rcases take_cases l with e | ⟨n, k, e, _, _, _, hn, _⟩
  · have HP := Lib.hid (strict_err e (by decide))
    rw [e] at ht
    have HT := Lib.hid ht
    clear ht e hA
    go_enter Tryd.func13, Tryd.ntmps13
    go_wp2_with fail
    refine HT.out.mono ?_
    rintro e w' ⟨rfl, rfl⟩
    go_wp2
    go_ret3
    rw [HP.out]
    exact ⟨rfl, rfl⟩
  · rw [e] at ht
    have HT := Lib.hid ht
    have HL := Lib.hid (long_yes n hn w)
    have H1 := Lib.hid (fun h => strict_long e h)
    have H2 := Lib.hid (fun h => strict_ok e h)
    clear ht e hA
    generalize lng n = g at *
    by_cases hg : g < k
    · have HP := Lib.hid (H1.out hg)
      clear H1 H2
      go_enter Tryd.func13, Tryd.ntmps13
      go_wp2_with fail
      refine HT.out.mono ?_
      rintro e w' ⟨rfl, rfl⟩
      go_wp2_with fail
      refine HL.out.mono ?_
      rintro e w' ⟨rfl, rfl⟩
      go_wp2
      go_ret3
      rw [HP.out]
      exact ⟨rfl, rfl⟩
    · have hg' : k ≤ g := by omega
      have HP := Lib.hid (H2.out hg')
      clear H1 H2 hg
      go_enter Tryd.func13, Tryd.ntmps13
      go_wp2_with fail
      refine HT.out.mono ?_
      rintro e w' ⟨rfl, rfl⟩
      go_wp2_with fail
      refine HL.out.mono ?_
      rintro e w' ⟨rfl, rfl⟩
      go_wp2
      go_ret3
      rw [HP.out]
      exact ⟨rfl, rfl⟩
end Go.Proofs.YtgmkbmfeaneaoaaDoor.VintTakeW
