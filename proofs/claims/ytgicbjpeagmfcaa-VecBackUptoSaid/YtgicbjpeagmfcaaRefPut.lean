/-
  ticketwardref.BPower and BPut: what they hand back. Conditions: bounds in each statement.
-/
import Derived.Test.YtgicbjpeagmfcaaVecFns
namespace Go.Proofs.Ytgicbjpeagmfcaa.RefPutW
open Go.RowKit BytesW VecAppW VecFnsW RowsW

theorem ret1 {k : IntKind} {a b : Int} (h : a = b) : Ending.returned (.int k a) = Ending.returned (.int k b) := by rw [h]
theorem pow3 (m : Nat) (h : m ≤ 3) : 256 ^ m ≤ 16777216 := Nat.le_trans (Nat.pow_le_pow_right (by decide) h) (by decide)
theorem pow_small (k : Nat) (h : k ≤ 2) : 256 ^ k ≤ 65536 := Nat.le_trans (Nat.pow_le_pow_right (by decide) h) (by decide)

set_option maxHeartbeats 1000000 in
set_option maxRecDepth 100000 in
theorem power_any (m : Nat) (hm : m ≤ 3) (w : World) :
    Calls Try.prog 25 #[.int .i64 (m : Int)] w fun e w' => e = .returned (.int .i64 ((256 ^ m : Nat) : Int)) ∧ w = w' := by
  go_enter Try.func25, Try.ntmps25
  go_wp2
  go_loop [3, 5] (fun v i => ∃ (k p : Nat), k ≤ m ∧ i = .int .i64 k ∧ v = .int .i64 (p : Int) ∧ p = 256 ^ k) (fun _ i => m - (intOf i).toNat)
  case atStart => exact ⟨0, 1, Nat.zero_le _, rfl, rfl, rfl⟩
  case round =>
    obtain ⟨k, p, hk, rfl, rfl, hp⟩ := hrel
    by_cases hlt : k < m
    · have hp2 : p ≤ 65536 := by rw [hp]; exact pow_small k (by omega)
      have HP := Lib.hid hp
      clear hp
      go_wp2
      go_round
      case rel => exact ⟨k + 1, p * 256, by omega, by go_num, by go_num, by rw [HP.out, Nat.pow_succ]⟩
      case measure => simp [intOf]; omega
    · obtain rfl : m = k := by omega
      have HP := Lib.hid hp
      clear hp
      go_wp2
      go_ret
      exact ⟨ret1 (by rw [HP.out]; simp), rfl⟩

set_option maxHeartbeats 4000000 in
set_option maxRecDepth 100000 in
theorem put_ref (n : Int) (l : List UInt8) (A : Option Addr) (c : Nat) (w : World) (hA : Bs w w.heap.size A l) (hlen : l.length + 3 ≤ 140737488355328) :
    Calls Try.prog 11 #[.int .i64 n, .slice A l.length c] w (ByPost (VecM.put n l) w) := by
  by_cases hok : VecM.okW n = false
  · have hp := Lib.hid (VecM.put_range l hok)
    have h' := VecM.okW_no hok
    clear hok
    by_cases h1 : n < 1
    · clear h'
      go_enter Try.func11, Try.ntmps11
      go_wp2
      go_ret2
      rw [hp.out]
      exact ⟨_, rfl, Row.nil _ _, Below.refl _ _⟩
    · have h2 : 3 < n := by omega
      have h1' : decide (n < 1) = false := decide_eq_false h1
      clear h' h1
      go_enter Try.func11, Try.ntmps11
      go_wp2
      go_ret2
      rw [hp.out]
      exact ⟨_, rfl, Row.nil _ _, Below.refl _ _⟩
  · have hok : VecM.okW n = true := by simpa using hok
    have h' : 1 ≤ n ∧ n ≤ 3 := by simpa [VecM.okW] using hok
    obtain ⟨h1, h3⟩ := h'
    obtain ⟨m, rfl⟩ : ∃ m : Nat, n = m := ⟨n.toNat, by omega⟩
    have hm3 : m ≤ 3 := by omega
    have hpw := Lib.hid (power_any m hm3)
    have d1 : decide ((m : Int) < 1) = false := decide_eq_false (by omega)
    have d3 : decide ((3 : Int) < m) = false := decide_eq_false (by omega)
    by_cases hf : 256 ^ m ≤ l.length
    · have Hp := Lib.hid (VecM.put_full (l := l) hok (by rw [Int.toNat_natCast]; exact hf))
      generalize 256 ^ m = p at *
      clear hok
      go_enter Try.func11, Try.ntmps11
      go_wp2_with fail
      refine (hpw.out w).mono ?_
      rintro e w' ⟨rfl, rfl⟩
      go_wp2
      go_ret2
      rw [Hp.out]
      exact ⟨_, rfl, Row.nil _ _, Below.refl _ _⟩
    · have hf : l.length < 256 ^ m := by omega
      have Hp := Lib.hid (VecM.put_ok (l := l) hok (by rw [Int.toNat_natCast]; exact hf))
      have hp3 := pow3 m hm3
      rw [Int.toNat_natCast] at Hp
      generalize 256 ^ m = p at *
      have hL : l.length < 16777216 := by omega
      clear hok
      have hb0 := (Below.refl w.heap.size w).alloc (Nat.le_refl _) (.cells #[] 5)
      have hr0 := Row.empty w.heap.size w (Nat.le_refl _)
      have H := Lib.hid (hA.below hb0)
      clear hA
      go_enter Try.func11, Try.ntmps11
      go_wp2_with fail
      refine (hpw.out w).mono ?_
      rintro e w' ⟨rfl, rfl⟩
      clear hpw
      go_wp2_with (at_builtin; go_must (refine appN rfl (.tmp 19) (.tmp 20) rfl w.heap.size w.heap.size _ [] rfl hr0 A l c rfl H.out (by simp; omega) (by simp) ?_))
      intro v1 w1 hr1 hb1
      have hbb := hb0.trans hb1
      clear hr0 hb0 hb1 H
      go_wp2
      go_loopw [6, 7, 25] (fun v r i wr => ∃ (k q : Nat), k ≤ m ∧ i = .int .i64 k ∧ r = .int .i64 (q : Int) ∧ q = l.length / 256 ^ k ∧ Row w.heap.size wr v (VecM.be k l.length ++ l) ∧ Below w.heap.size w wr) (fun _ _ i _ => m - (intOf i).toNat)
      case atStart => exact ⟨0, l.length, Nat.zero_le _, rfl, rfl, by simp, hr1, hbb⟩
      case round =>
        clear hr1 hbb
        obtain ⟨k, q, hk, rfl, rfl, hq, hrow, hb⟩ := hrel
        by_cases hlt : k < m
        · obtain ⟨A1, c1, rfl, hB1, hc1⟩ := hrow.form2
          have hq0 : q ≤ l.length := by rw [hq]; exact Nat.div_le_self _ _
          have hbl := VecM.be_length k l.length
          have hlit := Row.lit w.heap.size wr ((q : Int) % 256) (UInt8.ofNat q) (by rw [UInt8.toNat_ofNat']; omega) hb.size
          have hbc := Lib.hid (show VecM.be (k + 1) l.length ++ l = [UInt8.ofNat q] ++ (VecM.be k l.length ++ l) by rw [VecM.be_cons, hq]; rfl)
          have hal := (Below.refl wr.heap.size wr).alloc (Nat.le_refl _) (.cells #[.int .u8 ((q : Int) % 256)] 5)
          have H1 := Lib.hid ((hB1.below hal))
          have HQ := Lib.hid (show q / 256 = l.length / 256 ^ (k + 1) by rw [hq, Nat.div_div_eq_div_mul, Nat.pow_succ])
          have hlen2 : 1 + (VecM.be k l.length ++ l).length ≤ 140737488355328 := by rw [List.length_append, hbl]; omega
          have hbs := Nat.le_trans hb.size hal.size
          have hbb := hb.trans (hal.mono hb.size)
          clear hrow hB1 hq hbl hal
          generalize VecM.be k l.length ++ l = out at *
          go_wp2_with (at_builtin; go_must (refine appN rfl (.tmp 30) (.tmp 31) rfl w.heap.size wr.heap.size _ [UInt8.ofNat q] rfl hlit A1 out c1 rfl H1.out hlen2 hbs ?_))
          intro v2 w2 hr2 hb2
          go_wp2
          go_roundw
          case rel => exact ⟨k + 1, q / 256, by omega, by go_num, by go_num, HQ.out, by rw [hbc.out]; exact hr2, hbb.trans hb2⟩
          case measure => simp [intOf]; omega
        · obtain rfl : m = k := by omega
          clear hq
          go_wp2
          go_ret2
          rw [Hp.out]
          exact ⟨_, rfl, hrow, hb⟩
end Go.Proofs.Ytgicbjpeagmfcaa.RefPutW
