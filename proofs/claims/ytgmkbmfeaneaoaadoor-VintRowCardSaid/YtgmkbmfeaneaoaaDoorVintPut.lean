/-
  vint.Put and vint.As: what they hand back. Conditions: the table of math/bits.
-/
import Derived.Test.YtgmkbmfeaneaoaaDoorVintEnc
namespace Go.Proofs.YtgmkbmfeaneaoaaDoor.VintPutW
open Go.RowKit BytesW VintM VintLongW VintEncW

/-- Put: the error, and the encoding. -/
def put (n : Int) : Nat × List UInt8 := if okN n = true then (0, enc n.toNat (lng n.toNat)) else (2, [])
theorem put_no {n : Int} (h : okN n = false) : put n = (2, []) := by unfold put; rw [if_neg (by simp [h])]
theorem put_yes {m : Nat} (h : m < 4611686018427387904) : put m = (0, enc m (lng m)) := by unfold put; rw [if_pos (okN_of h), Int.toNat_natCast]
theorem put_cases (n : Int) : (put n = (2, []) ∧ okN n = false) ∨ ∃ m : Nat, n = m ∧ m < 4611686018427387904 ∧ put n = (0, enc m (lng m)) := by
  by_cases h : okN n = true
  · obtain ⟨m, rfl, hm⟩ := okN_yes h
    exact .inr ⟨m, rfl, hm, put_yes hm⟩
  · have h : okN n = false := by simpa using h
    exact .inl ⟨put_no h, h⟩
theorem put_len (n : Int) : (put n).2.length ≤ 8 := by
  rcases put_cases n with ⟨e, _⟩ | ⟨m, _, _, e⟩ <;> rw [e]
  · simp
  · show (enc m (lng m)).length ≤ 8
    rw [enc_length (lng_isK m)]
    exact (isK_pos (lng_isK m)).2

/-- A length, of an integer. -/
def okK (k : Int) : Bool := decide (k = 1 ∨ k = 2 ∨ k = 4 ∨ k = 8)
theorem okK_yes {k : Int} (h : okK k = true) : ∃ j : Nat, k = j ∧ isK j := by
  have : k = 1 ∨ k = 2 ∨ k = 4 ∨ k = 8 := by simpa [okK] using h
  exact ⟨k.toNat, by omega, by unfold isK; omega⟩
theorem okK_no {k : Int} (h : okK k = false) : k ≠ 1 ∧ k ≠ 2 ∧ k ≠ 4 ∧ k ≠ 8 := by
  have : ¬ (k = 1 ∨ k = 2 ∨ k = 4 ∨ k = 8) := by simpa [okK] using h
  omega

/-- As: the error, and the encoding. -/
def asM (n k : Int) : Nat × List UInt8 := if okN n = false then (2, []) else if okK k = false then (5, []) else if k < lng n.toNat then (4, []) else (0, enc n.toNat k.toNat)
theorem as_no {n : Int} (k : Int) (h : okN n = false) : asM n k = (2, []) := by unfold asM; rw [if_pos h]
theorem as_kind {m : Nat} {k : Int} (h : m < 4611686018427387904) (hk : okK k = false) : asM m k = (5, []) := by unfold asM; rw [if_neg (by simp [okN_of h]), if_pos hk]
theorem okK_of {j : Nat} (h : isK j) : okK j = true := by unfold isK at h; simp [okK]; omega
theorem as_full {m j : Nat} (h : m < 4611686018427387904) (hk : isK j) (hf : j < lng m) : asM m j = (4, []) := by
  unfold asM; rw [if_neg (by simp [okN_of h]), if_neg (by simp [okK_of hk]), if_pos (by rw [Int.toNat_natCast]; omega)]
theorem as_ok {m j : Nat} (h : m < 4611686018427387904) (hk : isK j) (hf : lng m ≤ j) : asM m j = (0, enc m j) := by
  unfold asM; rw [if_neg (by simp [okN_of h]), if_neg (by simp [okK_of hk]), if_neg (by rw [Int.toNat_natCast]; omega), Int.toNat_natCast, Int.toNat_natCast]
theorem as_cases (n k : Int) : (∃ e, asM n k = (e, []) ∧ e ≠ 0) ∨ ∃ m j : Nat, n = m ∧ k = j ∧ m < 4611686018427387904 ∧ isK j ∧ lng m ≤ j ∧ asM n k = (0, enc m j) := by
  by_cases h : okN n = true
  · obtain ⟨m, rfl, hm⟩ := okN_yes h
    by_cases hk : okK k = true
    · obtain ⟨j, rfl, hj⟩ := okK_yes hk
      by_cases hf : j < lng m
      · exact .inl ⟨4, as_full hm hj hf, by decide⟩
      · exact .inr ⟨m, j, rfl, rfl, hm, hj, by omega, as_ok hm hj (by omega)⟩
    · exact .inl ⟨5, as_kind hm (by simpa using hk), by decide⟩
  · exact .inl ⟨2, as_no k (by simpa using h), by decide⟩

theorem nes (j a : Nat) (h : j = a) : ((j : Int) != 1) = (a != 1) ∧ ((j : Int) != 2) = (a != 2) ∧ ((j : Int) != 4) = (a != 4) ∧ ((j : Int) != 8) = (a != 8) := by
  subst h
  refine ⟨?_, ?_, ?_, ?_⟩ <;> (rw [Bool.eq_iff_iff]; simp; omega)

/-- A row of bytes and an error. -/
def ByPost (p : Nat × List UInt8) (w : World) (e : Ending) (w' : World) : Prop :=
  ∃ v', e = .returned (.tuple #[v', .int .i64 (p.1 : Int)]) ∧ Row w.heap.size w' v' p.2 ∧ Below w.heap.size w w'

set_option maxHeartbeats 1000000 in
set_option maxRecDepth 100000 in
theorem put_any (n : Int) (w : World) (hT : Tab w) : Calls Tryd.prog 9 #[.int .i64 n] w (ByPost (put n) w) := by
  rcases put_cases n with ⟨e, h⟩ | ⟨m, rfl, hm, e⟩
  · have HP := Lib.hid e
    have HL := Lib.hid (long_no n h w)
    clear e h hT
    go_enter Tryd.func9, Tryd.ntmps9
    go_wp2_with fail
    refine HL.out.mono ?_
    rintro e w' ⟨rfl, rfl⟩
    go_wp2
    go_ret2
    rw [HP.out]
    exact ⟨_, rfl, Row.nil _ _, Below.refl _ _⟩
  · have HP := Lib.hid e
    have HL := Lib.hid (long_yes m hm w)
    have HE := Lib.hid (encode_any m (lng m) (lng_isK m) hm (lng_fits m hm) w hT)
    clear e hT
    generalize enc m (lng m) = E at *
    generalize lng m = g at *
    go_enter Tryd.func9, Tryd.ntmps9
    go_wp2_with fail
    refine HL.out.mono ?_
    rintro e w' ⟨rfl, rfl⟩
    go_wp2_with fail
    refine HE.out.mono ?_
    rintro e w' ⟨v, rfl, r, b⟩
    go_wp2
    go_ret2
    rw [HP.out]
    exact ⟨_, rfl, r, b⟩

set_option maxHeartbeats 1000000 in
set_option maxRecDepth 100000 in
theorem as_any (n k : Int) (w : World) (hT : Tab w) : Calls Tryd.prog 10 #[.int .i64 n, .int .i64 k] w (ByPost (asM n k) w) := by
  by_cases h : okN n = true
  · obtain ⟨m, rfl, hm⟩ := okN_yes h
    have HL := Lib.hid (long_yes m hm w)
    clear h
    by_cases hk : okK k = true
    · obtain ⟨j, rfl, hj⟩ := okK_yes hk
      have HF := Lib.hid (fun h => as_full hm hj h)
      have HO := Lib.hid (fun h => as_ok hm hj h)
      have HE := Lib.hid (fun h => encode_any m j hj hm h w hT)
      have HW := Lib.hid (fun h => lng_le_fits (k := j) hm h)
      have hp := isK_pos hj
      clear hT hk
      generalize lng m = g at *
      by_cases hf : j < g
      · have HP := Lib.hid (HF.out hf)
        clear HF HO HE HW
        rcases hj with h | h | h | h
        all_goals
          obtain ⟨n1, n2, n4, n8⟩ := nes j _ h
          have HJ := Lib.hid h
          clear h
          simp only [Nat.reduceBneDiff, bne_self_eq_false] at n1 n2 n4 n8
          go_enter Tryd.func10, Tryd.ntmps10
          go_wp2_with fail
          refine HL.out.mono ?_
          rintro e w' ⟨rfl, rfl⟩
          go_wp2
          go_ret2
          rw [HP.out]
          exact ⟨_, rfl, Row.nil _ _, Below.refl _ _⟩
      · have hf' : g ≤ j := by omega
        have HP := Lib.hid (HO.out hf')
        have HE' := Lib.hid (HE.out (HW.out hf'))
        clear HF HO HE HW hf
        generalize enc m j = E at *
        have hd : decide (j < g) = false := decide_eq_false (by omega)
        rcases hj with h | h | h | h
        all_goals
          obtain ⟨n1, n2, n4, n8⟩ := nes j _ h
          have HJ := Lib.hid h
          clear h
          simp only [Nat.reduceBneDiff, bne_self_eq_false] at n1 n2 n4 n8
          go_enter Tryd.func10, Tryd.ntmps10
          go_wp2_with fail
          refine HL.out.mono ?_
          rintro e w' ⟨rfl, rfl⟩
          go_wp2_with fail
          refine HE'.out.mono ?_
          rintro e w' ⟨v, rfl, r, b⟩
          go_wp2
          go_ret2
          rw [HP.out]
          exact ⟨_, rfl, r, b⟩
    · have hk : okK k = false := by simpa using hk
      have HP := Lib.hid (as_kind hm hk)
      obtain ⟨k1, k2, k4, k8⟩ := okK_no hk
      have n1 : (k != 1) = true := bne_iff_ne.2 k1
      have n2 : (k != 2) = true := bne_iff_ne.2 k2
      have n4 : (k != 4) = true := bne_iff_ne.2 k4
      have n8 : (k != 8) = true := bne_iff_ne.2 k8
      clear hk hT k1 k2 k4 k8
      go_enter Tryd.func10, Tryd.ntmps10
      go_wp2_with fail
      refine HL.out.mono ?_
      rintro e w' ⟨rfl, rfl⟩
      go_wp2
      go_ret2
      rw [HP.out]
      exact ⟨_, rfl, Row.nil _ _, Below.refl _ _⟩
  · have h : okN n = false := by simpa using h
    have HP := Lib.hid (as_no k h)
    have HL := Lib.hid (long_no n h w)
    clear h hT
    go_enter Tryd.func10, Tryd.ntmps10
    go_wp2_with fail
    refine HL.out.mono ?_
    rintro e w' ⟨rfl, rfl⟩
    go_wp2
    go_ret2
    rw [HP.out]
    exact ⟨_, rfl, Row.nil _ _, Below.refl _ _⟩
end Go.Proofs.YtgmkbmfeaneaoaaDoor.VintPutW
