/-
  ticketwardref.CAs: what it hands back. Conditions: in the statement.
-/
import Derived.Test.YtgmkbmfeaneaoaaDoorVintPut
import Derived.Test.YtgmkbmfeaneaoaaDoorMapIns
import Derived.Test.YtgmkbmfeaneaoaaDoorRowsW
namespace Go.Proofs.YtgmkbmfeaneaoaaDoor.VintCasW
open Go.RowKit Go.Maps BytesW RowsW VintM VintLongW VintEncW

theorem lawInt : Keyed Tryd.prog 3 := int_keyed Tryd.underlying3
theorem zeroU (w : World) : (zeroValue 41).run Tryd.prog w = .ok (.int .u64 0) w := by kernel_rfl
theorem key (n : Int) (h : (Lit.int .i64 n).wf = true) : keyOf Tryd.prog 3 (.int .i64 n) = some (.int .i64 n) := keyOf_int_mk Tryd.underlying3 h

/-- The map's datum. -/
def D0 : DataW Unit := .map []
def D1 : DataW Unit := D0.put (.int .i64 1) (.lit (.int .u64 0))
def D2 : DataW Unit := D1.put (.int .i64 2) (.lit (.int .u64 16384))
def D3 : DataW Unit := D2.put (.int .i64 4) (.lit (.int .u64 2147483648))
def D4 : DataW Unit := D3.put (.int .i64 8) (.lit (.int .u64 13835058055282163712))
theorem D4_at (k : Nat) (hk : isK k) (c : Int) (h : D4.atKey (.int .i64 (k : Int)) (.lit (.int .u64 0)) = .lit (.int .u64 c)) : c = ((ix k * (64 * 256 ^ (k - 1)) : Nat) : Int) := by
  rcases hk with rfl | rfl | rfl | rfl
  · have : D4.atKey (.int .i64 ((1 : Nat) : Int)) (.lit (.int .u64 0)) = .lit (.int .u64 0) := by rfl
    rw [this] at h; cases h; rfl
  · have : D4.atKey (.int .i64 ((2 : Nat) : Int)) (.lit (.int .u64 0)) = .lit (.int .u64 16384) := by rfl
    rw [this] at h; cases h; rfl
  · have : D4.atKey (.int .i64 ((4 : Nat) : Int)) (.lit (.int .u64 0)) = .lit (.int .u64 2147483648) := by rfl
    rw [this] at h; cases h; rfl
  · have : D4.atKey (.int .i64 ((8 : Nat) : Int)) (.lit (.int .u64 0)) = .lit (.int .u64 13835058055282163712) := by rfl
    rw [this] at h; cases h; rfl

set_option maxHeartbeats 4000000 in
set_option maxRecDepth 100000 in
theorem cas_any (n k : Nat) (hk : isK k) (hn : n < 4611686018427387904) (w : World) :
    Calls Tryd.prog 15 #[.int .i64 (n : Int), .int .i64 (k : Int)] w fun e w' => ∃ v', e = .returned v' ∧ Row w.heap.size w' v' (enc n k) ∧ Below w.heap.size w w' := by
  have hmm := @run_makeMap Tryd.prog
  have hp := isK_pos hk
  have HD := Lib.hid (D4_at k hk)
  have HE0 := enc_be (n := n) hk
  have hu : IntKind.u64.wrap (n : Int) = (n : Int) := IntWalk.u64_in _ (by omega)
  have h0 : (w.alloc (.map #[] 0)).ownsMap Tryd.prog 3 (plainElem (H := Unit) Tryd.prog 41) w.heap.size 0 D0 := World.ownsMap_made w Tryd.prog 3 (plainElem (H := Unit) Tryd.prog 41)
  have b0 := (Below.refl w.heap.size w).alloc (Nat.le_refl _) (.map #[] 0)
  have HE := Lib.hid HE0
  clear HE0
  have HC := Lib.hid (show ix k * (64 * 256 ^ (k - 1)) ≤ 13835058055282163712 by
    have h1 := ix_le k
    have h2 : 256 ^ (k - 1) ≤ 256 ^ 7 := Nat.pow_le_pow_right (by decide) (by omega)
    have h3 := Nat.mul_le_mul h1 (Nat.mul_le_mul_left 64 h2)
    omega)
  clear hk
  obtain ⟨hp1, hp2⟩ := hp
  go_enter Tryd.func15, Tryd.ntmps15
  go_wp2_with (refine MapInsW.insert_own _ rfl (.tmp 9) (.const (.int .i64 1)) (.const (.int .u64 0)) 42 rfl 3 41 lawInt Tryd.underlying42 _ w.heap.size 0 D0 rfl h0 (by decide) _ _ _ rfl rfl (key 1 (by decide)) _ [] (plainElem_int Tryd.underlying41 (by decide)) ?_)
  intro w1 h1 g1
  have b1 := b0.grown g1 b0.size (fun k hk => by cases hk; exact Nat.le_refl _)
  clear g1
  clear h0 b0
  go_wp2_with (refine MapInsW.insert_own _ rfl (.tmp 9) (.const (.int .i64 2)) (.const (.int .u64 16384)) 42 rfl 3 41 lawInt Tryd.underlying42 _ w.heap.size 1 D1 rfl h1 (by decide) _ _ _ rfl rfl (key 2 (by decide)) _ [] (plainElem_int Tryd.underlying41 (by decide)) ?_)
  intro w2 h2 g2
  have b2 := b1.grown g2 b1.size (fun k hk => by cases hk; exact Nat.le_refl _)
  clear g2
  clear h1 b1
  go_wp2_with (refine MapInsW.insert_own _ rfl (.tmp 9) (.const (.int .i64 4)) (.const (.int .u64 2147483648)) 42 rfl 3 41 lawInt Tryd.underlying42 _ w.heap.size 2 D2 rfl h2 (by decide) _ _ _ rfl rfl (key 4 (by decide)) _ [] (plainElem_int Tryd.underlying41 (by decide)) ?_)
  intro w3 h3 g3
  have b3 := b2.grown g3 b2.size (fun k hk => by cases hk; exact Nat.le_refl _)
  clear g3
  clear h2 b2
  go_wp2_with (refine MapInsW.insert_own _ rfl (.tmp 9) (.const (.int .i64 8)) (.const (.int .u64 13835058055282163712)) 42 rfl 3 41 lawInt Tryd.underlying42 _ w.heap.size 3 D3 rfl h3 (by decide) _ _ _ rfl rfl (key 8 (by decide)) _ [] (plainElem_int Tryd.underlying41 (by decide)) ?_)
  intro w4 h4 g4
  have b4 := b3.grown g4 b3.size (fun k hk => by cases hk; exact Nat.le_refl _)
  clear g4
  clear h3 b3
  go_wp2_with (refine wpList_lookup_own_int _ rfl (.tmp 10) (.tmp 11) 42 rfl 3 41 .u64 lawInt Tryd.underlying42 Tryd.underlying41 (zeroU _) w.heap.size 4 D4 rfl h4 _ _ rfl (key k (by simp [Lit.wf, IntKind.min, IntKind.max, IntKind.signed, IntKind.bits]; omega)) ?_)
  intro c hat _
  have hcu := HD.out c hat
  have hC := HC.out
  clear hat h4 hmm
  generalize ix k * (64 * 256 ^ (k - 1)) = C at *
  subst hcu
  have hV : IntKind.u64.wrap ((n : Int) + C) = ((n + C : Nat) : Int) := by rw [IntWalk.u64_in _ (by omega), Int.natCast_add]
  go_wp2
  have hVb : n + C < 18446744073709551616 := by omega
  generalize hVe : n + C = V at *
  have HV := Lib.hid hVe
  clear hVe
  go_loopw [5, 6, 15] (fun v r i wr => ∃ (j q : Nat), j ≤ k ∧ i = .int .i64 j ∧ v = .int .u64 (q : Int) ∧ q = V / 256 ^ j ∧ Row w.heap.size wr r (VecM.be j V) ∧ Below w.heap.size w wr) (fun _ _ i _ => k - (intOf i).toNat)
  case atStart => exact ⟨0, V, Nat.zero_le _, rfl, by rw [← HV.out, Int.natCast_add], by simp, Row.nil _ _, b4⟩
  case round =>
    clear b4 hV
    obtain ⟨j, q, hj, rfl, rfl, hq, hrow, hb⟩ := hrel
    by_cases hlt : j < k
    · obtain ⟨A1, c1, rfl, hB1, hc1⟩ := hrow.form2
      have hq0 : q ≤ V := by rw [hq]; exact Nat.div_le_self _ _
      have hbl := VecM.be_length j V
      have hlit := Row.lit w.heap.size wr ((q : Int) % 256) (UInt8.ofNat q) (by rw [UInt8.toNat_ofNat']; omega) hb.size
      have hbc := Lib.hid (show VecM.be (j + 1) V = [UInt8.ofNat q] ++ VecM.be j V by rw [VecM.be_cons, hq]; rfl)
      have hal := (Below.refl wr.heap.size wr).alloc (Nat.le_refl _) (.cells #[.int .u8 ((q : Int) % 256)] 5)
      have H1 := Lib.hid ((hB1.below hal))
      have HQ := Lib.hid (show q / 256 = V / 256 ^ (j + 1) by rw [hq, Nat.div_div_eq_div_mul, Nat.pow_succ])
      have hlen2 : 1 + (VecM.be j V).length ≤ 140737488355328 := by rw [hbl]; omega
      have hbs := Nat.le_trans hb.size hal.size
      have hbb := hb.trans (hal.mono hb.size)
      clear hrow hB1 hq hbl hal
      generalize VecM.be j V = out at *
      go_wp2_with (at_builtin; go_must (refine appN rfl (.tmp 19) (.tmp 20) rfl w.heap.size wr.heap.size _ [UInt8.ofNat q] rfl hlit A1 out c1 rfl H1.out hlen2 hbs ?_))
      intro v2 w2' hr2 hb2'
      go_wp2
      go_roundw
      case rel => exact ⟨j + 1, q / 256, by omega, by go_num, by go_num, HQ.out, by rw [hbc.out]; exact hr2, hbb.trans hb2'⟩
      case measure => simp [intOf]; omega
    · obtain rfl : k = j := by omega
      clear hq
      go_wp2
      go_ret
      rw [HE.out] at hrow
      exact ⟨_, rfl, hrow, hb⟩
end Go.Proofs.YtgmkbmfeaneaoaaDoor.VintCasW
