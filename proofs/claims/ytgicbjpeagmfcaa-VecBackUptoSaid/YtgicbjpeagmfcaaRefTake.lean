/-
  ticketwardref.BTake: what it hands back. Conditions: bounds in the statement.
-/
import Derived.Test.YtgicbjpeagmfcaaRefPut
namespace Go.Proofs.Ytgicbjpeagmfcaa.RefTakeW
open Go.RowKit BytesW VecAppW VecFnsW VecSplitW RowsW RefPutW

theorem val_step (l : List UInt8) (m k : Nat) (h : k < l.length) (hk : k < m) : VecM.val (l.take (k + 1)) * 256 ^ (m - (k + 1)) = VecM.val (l.take k) * 256 ^ (m - k) + l[k].toNat * 256 ^ (m - 1 - k) := by
  rw [snoc_val l k h, show m - k = (m - 1 - k) + 1 from by omega, show m - (k + 1) = m - 1 - k from by omega, Nat.pow_succ, Nat.add_mul, Nat.mul_assoc, Nat.mul_comm 256]

theorem val_bound (l : List UInt8) (m k : Nat) (h : k ≤ m) (hm : m ≤ 3) : VecM.val (l.take k) * 256 ^ (m - k) ≤ 16777216 := by
  have h1 := VecM.val_lt (l.take k)
  have h2 : (l.take k).length ≤ k := by rw [List.length_take]; omega
  have h3 : 256 ^ (l.take k).length ≤ 256 ^ k := Nat.pow_le_pow_right (by decide) h2
  have h4 : VecM.val (l.take k) * 256 ^ (m - k) ≤ 256 ^ k * 256 ^ (m - k) := Nat.mul_le_mul_right _ (by omega)
  rw [← Nat.pow_add, show k + (m - k) = m from by omega] at h4
  exact Nat.le_trans h4 (pow3 m hm)

theorem mul_in (x p : Nat) (h : x * p ≤ 16777216) : IntKind.i64.wrap ((x : Int) * p) = ((x * p : Nat) : Int) := by
  rw [← Int.natCast_mul, IntWalk.i64_in _ (by omega)]

theorem split_none2 {n : Int} {l : List UInt8} {B e : Nat} {w w' : World} (h : VecM.take n l = (e, [], [])) (hbe : Below w.heap.size w w') (b : Ending) (hb : b = .returned (.tuple #[.slice none 0 0, .slice none 0 0, .int .i64 (e : Int)])) : SplitPost n l B w b w' := by
  unfold SplitPost
  rw [h]
  exact ⟨none, 0, none, 0, hb, Bs.nil _ _ _, Nat.le_refl _, Bs.nil _ _ _, Nat.le_refl _, hbe⟩

theorem split_yes2 {n : Int} {l d : List UInt8} {B V N c1 c2 : Nat} {A1 A2 : Option Addr} {w w' : World} (h : VecM.take n l = (0, d.take V, d.drop V)) (h1 : Bs w' B A1 (d.take V)) (h2 : Bs w' B A2 (d.drop V)) (hV : V ≤ d.length)
    (hc1 : V ≤ c1) (hc2 : N ≤ c2) (hN : N = d.length - V) (hbe : Below w.heap.size w w') : SplitPost n l B w (.returned (.tuple #[.slice A1 V c1, .slice A2 N c2, .int .i64 0])) w' := by
  subst hN
  exact split_yes h h1 h2 hV hc1 hc2 _ rfl hbe

set_option maxHeartbeats 4000000 in
set_option maxRecDepth 100000 in
theorem take_ref (n : Int) (l : List UInt8) (A : Option Addr) (c B : Nat) (w : World) (hA : Bs w B A l) (hlen : l.length ≤ 140737488355328) (hc : l.length ≤ c) :
    Calls Try.prog 13 #[.int .i64 n, .slice A l.length c] w (SplitPost n l B w) := by
  by_cases hok : VecM.okW n = false
  · have hp := Lib.hid (VecM.take_range l hok)
    have h' := VecM.okW_no hok
    clear hok
    by_cases h1 : n < 1
    · clear h'
      go_enter Try.func13, Try.ntmps13
      go_wp2
      go_ret3
      exact split_none hp.out _ rfl
    · have h2 : 3 < n := by omega
      have h1' : decide (n < 1) = false := decide_eq_false h1
      clear h' h1
      go_enter Try.func13, Try.ntmps13
      go_wp2
      go_ret3
      exact split_none hp.out _ rfl
  · have hok : VecM.okW n = true := by simpa using hok
    have h' : 1 ≤ n ∧ n ≤ 3 := by simpa [VecM.okW] using hok
    obtain ⟨h1, h3⟩ := h'
    obtain ⟨m, rfl⟩ : ∃ m : Nat, n = m := ⟨n.toNat, by omega⟩
    have hm3 : m ≤ 3 := by omega
    have d1 : decide ((m : Int) < 1) = false := decide_eq_false (by omega)
    have d3 : decide ((3 : Int) < m) = false := decide_eq_false (by omega)
    by_cases hs : l.length < m
    · have hp := Lib.hid (VecM.take_short (l := l) hok (by rw [Int.toNat_natCast]; exact hs))
      clear hok
      go_enter Try.func13, Try.ntmps13
      go_wp2
      go_ret3
      exact split_none hp.out _ rfl
    · have hs' : m ≤ l.length := by omega
      clear hs
      have HT1 := Lib.hid (fun h => VecM.take_short2 (w := m) (l := l) hok (by rw [Int.toNat_natCast]; exact hs') (by rw [Int.toNat_natCast]; exact h))
      have HT2 := Lib.hid (fun h => VecM.take_ok (w := m) (l := l) hok (by rw [Int.toNat_natCast]; exact hs') (by rw [Int.toNat_natCast]; exact h))
      clear hok
      go_enter Try.func13, Try.ntmps13
      go_wp2
      go_loopw [7, 20] (fun v i wr => ∃ (k q : Nat), k ≤ m ∧ i = .int .i64 k ∧ v = .int .i64 (q : Int) ∧ q = VecM.val (l.take k) * 256 ^ (m - k) ∧ Bs wr B A l ∧ Below w.heap.size w wr) (fun _ i _ => m - (intOf i).toNat)
      case atStart => exact ⟨0, 0, Nat.zero_le _, rfl, rfl, by simp [VecM.val], hA, Below.refl _ _⟩
      case round =>
        clear hA
        obtain ⟨k, q, hk, rfl, rfl, hq, hA, hb⟩ := hrel
        by_cases hlt : k < m
        · obtain ⟨ad, rfl, hadb, hcell⟩ := hA.at_ (k := k) (by omega)
          have hq1 : q ≤ 16777216 := by rw [hq]; exact val_bound l m k hk hm3
          have HV := Lib.hid ((val_step l m k (by omega) hlt).trans (congrArg (· + l[k].toNat * 256 ^ (m - 1 - k)) hq.symm))
          have hpw := Lib.hid (fun w => power_any (m - 1 - k) (by omega) w)
          have hps := pow_small (m - 1 - k) (by omega)
          have hx := l[k].toNat_lt
          have hxp : l[k].toNat * 256 ^ (m - 1 - k) ≤ 256 * 65536 := Nat.mul_le_mul (by omega) hps
          generalize 256 ^ (m - 1 - k) = p at *
          generalize l[k].toNat = x at *
          have e1 : IntKind.i64.wrap ((m : Int) - 1) = (m : Int) - 1 := IntWalk.i64_in _ (by omega)
          have e2 : IntKind.i64.wrap ((m : Int) - 1 - k) = ((m - 1 - k : Nat) : Int) := by rw [IntWalk.i64_in _ (by omega)]; omega
          have e3 : IntKind.i64.wrap (x : Int) = (x : Int) := IntWalk.i64_in _ (by omega)
          have e4 : IntKind.i64.wrap ((x : Int) * p) = ((x * p : Nat) : Int) := mul_in x p (by omega)
          have e5 : Value.int .i64 (wrap64 ((q : Int) + (x : Int) * p)) = .int .i64 ((q + x * p : Nat) : Int) := by rw [← Int.natCast_mul, IntWalk.wrap64_in _ (by omega), Int.natCast_add]
          have HE := Lib.hid e5
          clear e5
          clear hq hxp hps
          go_wp2
          go_quiet ((go_at_call 25; exact Calls.quiet_of_same ((hpw.out _).mono fun e w' h => ⟨h.1, h.2.symm⟩)))
          go_wp2
          clear e1 e2 e3 e4
          go_roundw
          case rel => exact ⟨k + 1, q + x * p, by omega, by go_num, HE.out, HV.out.symm, hA, drewN hb _⟩
          case measure => simp [intOf]; omega
        · obtain rfl : m = k := by omega
          rw [Nat.sub_self, Nat.pow_zero, Nat.mul_one] at hq
          have hv := val_small3 l m (by omega)
          rw [← hq] at hv
          rw [Int.toNat_natCast, ← hq] at HT2
          rw [← hq] at HT1
          clear hq
          by_cases hf : l.length < m + q
          · have Hp := Lib.hid (HT1.out hf)
            clear HT1 HT2 hA
            go_wp2
            go_ret3
            exact split_none2 Hp.out hb _ rfl
          · have hf' : m + q ≤ l.length := by omega
            have Hp := Lib.hid (HT2.out hf')
            obtain ⟨A1, hA1⟩ : ∃ A1, (if c = m then A else A.map (·.add m)) = A1 := ⟨_, rfl⟩
            have hB1 := hA.cut m c hc
            have hB2 := hA.cut (m + q) c hc
            rw [hA1] at hB1
            have HB1 := Lib.hid hB1
            have HB2 := Lib.hid hB2
            clear HT1 HT2 hA hB1 hB2 hf
            have e1 : IntKind.i64.wrap ((m : Int) + q) = ((m + q : Nat) : Int) := by rw [IntWalk.i64_in _ (by omega), Int.natCast_add]
            have g1 : (m : Int) ≤ ((m + q : Nat) : Int) := by omega
            have g2 : ((m + q : Nat) : Int) ≤ c := by omega
            have g3 : ((m + q : Nat) : Int) ≤ l.length := by omega
            have g4 : m + q - m = q := by omega
            have hdl : (l.drop m).length = l.length - m := List.length_drop
            have HD := Lib.hid hdl
            clear hdl
            go_wp2
            go_quiet (fail)
            go_wp2
            all_goals
              go_ret3
              refine split_yes2 (d := l.drop m) (V := q) Hp.out (by exact HB1.out.take q) ?_ (by rw [HD.out]; omega) (by omega) (by omega) (by rw [HD.out]; omega) (drewN hb _)
              rw [List.drop_drop]
              have h := HB2.out
              first
                | (rw [if_pos (by assumption)] at h; exact h)
                | (rw [if_neg (by assumption)] at h; exact h)
end Go.Proofs.Ytgicbjpeagmfcaa.RefTakeW
