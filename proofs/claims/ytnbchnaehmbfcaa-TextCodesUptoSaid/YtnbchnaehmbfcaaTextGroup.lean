/-
  text.letterValue and readGroup: what they hand back. Conditions: a group has one to four letters.
-/
import Derived.Test.YtnbchnaehmbfcaaBytesW
import Derived.Test.YtnbchnaehmbfcaaBits
import Derived.Test.YtnbchnaehmbfcaaTextN
import Derived.WalkKit
import Derived.BigCall
import Derived.Lib.Hide
import Derived.Outline
import Derived.Deep.DeepMust
namespace Go.Proofs.Ytnbchnaehmbfcaa.TextGroupW
open Go.RowKit BytesW

theorem num_cases {c : UInt8} {n : Nat} (h : TextN.num c = some n) :
    ∃ x : Nat, c.toNat = x ∧ ((65 ≤ (x : Int) ∧ (x : Int) ≤ 90 ∧ (n : Int) = x - 65) ∨ (97 ≤ (x : Int) ∧ (x : Int) ≤ 122 ∧ (n : Int) = x - 71) ∨ (48 ≤ (x : Int) ∧ (x : Int) ≤ 57 ∧ (n : Int) = x + 4) ∨ (x = 45 ∧ n = 62) ∨ (x = 95 ∧ n = 63)) := by
  refine ⟨_, rfl, ?_⟩
  unfold TextN.num at h
  repeat' split at h
  all_goals first | (simp at h; omega) | cases h

theorem num_none {c : UInt8} (h : TextN.num c = none) :
    ∃ x : Nat, c.toNat = x ∧ ((x : Int) < 45 ∨ (45 < (x : Int) ∧ (x : Int) < 48) ∨ (57 < (x : Int) ∧ (x : Int) < 65) ∨ (90 < (x : Int) ∧ (x : Int) < 95) ∨ (95 < (x : Int) ∧ (x : Int) < 97) ∨ 122 < (x : Int)) := by
  refine ⟨_, rfl, ?_⟩
  unfold TextN.num at h
  repeat' split at h
  all_goals first | (cases h; done) | omega

set_option maxHeartbeats 1000000 in
theorem letter_some (c : UInt8) (n : Nat) (hn : TextN.num c = some n) (w : World) :
    Calls Try.prog 30 #[.int .u8 (c.toNat : Int)] w fun e w' => e = .returned (.tuple #[.int .u32 (n : Int), .bool true]) ∧ w = w' := by
  have hx := c.toNat_lt
  obtain ⟨x, e, h⟩ := num_cases hn
  rw [e] at hx ⊢
  clear e hn
  have H := Lib.hid h
  rcases h with ⟨h1, h2, h3⟩ | ⟨h1, h2, h3⟩ | ⟨h1, h2, h3⟩ | ⟨rfl, rfl⟩ | ⟨rfl, rfl⟩
  · clear h3
    go_enter Try.func30, Try.ntmps30
    go_wp2
    go_ret2
    exact ⟨tup2 (by have := H.out; omega), rfl⟩
  · clear h3
    go_enter Try.func30, Try.ntmps30
    go_wp2
    go_ret2
    exact ⟨tup2 (by have := H.out; omega), rfl⟩
  · clear h3
    go_enter Try.func30, Try.ntmps30
    go_wp2
    go_ret2
    exact ⟨tup2 (by have := H.out; omega), rfl⟩
  · go_enter Try.func30, Try.ntmps30
    go_wp2
    go_ret2
    exact ⟨rfl, rfl⟩
  · go_enter Try.func30, Try.ntmps30
    go_wp2
    go_ret2
    exact ⟨rfl, rfl⟩

set_option maxHeartbeats 1000000 in
theorem letter_none (c : UInt8) (hn : TextN.num c = none) (w : World) :
    Calls Try.prog 30 #[.int .u8 (c.toNat : Int)] w fun e w' => e = .returned (.tuple #[.int .u32 0, .bool false]) ∧ w = w' := by
  have hx := c.toNat_lt
  obtain ⟨x, e, h⟩ := num_none hn
  rw [e] at hx ⊢
  clear e hn
  have h45 : ((x : Int) == 45) = false := beq_eq_false_iff_ne.2 (by omega)
  have h95 : ((x : Int) == 95) = false := beq_eq_false_iff_ne.2 (by omega)
  rcases h with h1 | ⟨h1, h2⟩ | ⟨h1, h2⟩ | ⟨h1, h2⟩ | ⟨h1, h2⟩ | h1
  all_goals
    go_enter Try.func30, Try.ntmps30
    go_wp2
    go_ret2
    exact ⟨rfl, rfl⟩

theorem joined (ns : List Nat) (n k m : Nat) (hk : ns.length = k) (hw : TextN.wv (ns ++ [n]) = TextN.wv ns + n * 2 ^ (18 - 6 * ns.length))
    (hl : TextN.wv ns % 2 ^ (24 - 6 * ns.length) = 0 ∧ TextN.wv ns < 16777216) (hn : n < 64) (hm : m = 2 ^ (18 - 6 * k)) (hk4 : k < 4) :
    bits .or .u32 (TextN.wv ns : Int) ((n * m : Nat) : Int) = (TextN.wv (ns ++ [n]) : Int) := by
  subst hk
  rw [Bits.join_u32 (24 - 6 * ns.length) _ _ (by omega) hl.1 (by omega) ?_, hw, hm]
  have e : 24 - 6 * ns.length = 6 + (18 - 6 * ns.length) := by omega
  rw [e, Nat.pow_add, hm]
  exact Nat.mul_lt_mul_of_pos_right hn (Nat.two_pow_pos _)

theorem castmod (a e m : Nat) : (a : Int) * 2 ^ e % (m : Int) = ((a * 2 ^ e % m : Nat) : Int) := by
  rw [Int.natCast_emod, Int.natCast_mul, Int.natCast_pow]; rfl
theorem mod0 (a e : Nat) (h : a * 2 ^ e % 4294967296 = 0) : ((a : Int) * 2 ^ e % 4294967296 != 0) = false := by
  have := castmod a e 4294967296
  rw [h] at this
  rw [show (4294967296 : Int) = ((4294967296 : Nat) : Int) from rfl, this]; rfl
theorem mod1 (a e : Nat) (h : ¬ a * 2 ^ e % 4294967296 = 0) : ((a : Int) * 2 ^ e % 4294967296 != 0) = true := by
  rw [show (4294967296 : Int) = ((4294967296 : Nat) : Int) from rfl, castmod, bne_iff_ne]
  intro h0
  exact h (Int.ofNat_eq_zero.1 h0)

set_option maxHeartbeats 2000000 in
set_option maxRecDepth 100000 in
theorem group_any (g : List UInt8) (w : World) (h1 : 1 ≤ g.length) (h4 : g.length ≤ 4) :
    Calls Try.prog 25 #[.string ⟨g.toArray⟩] w fun e w' => e = .returned (.tuple #[.int .u32 ((TextN.rg g).2 : Int), .int .i64 ((TextN.rg g).1 : Int)]) ∧ w = w' := by
  go_enter Try.func25, Try.ntmps25
  go_wp2
  go_loop [4, 10] (fun v i => ∃ (k : Nat) (ns : List Nat), k ≤ g.length ∧ i = .int .i64 k ∧ TextN.nums (g.take k) = some ns ∧ v = .int .u32 (TextN.wv ns : Int)) (fun _ i => g.length - (intOf i).toNat)
  case atStart => exact ⟨0, [], Nat.zero_le _, rfl, rfl, rfl⟩
  case round =>
    obtain ⟨k, ns, hk, rfl, hns, rfl⟩ := hrel
    have hlen := TextN.nums_length hns
    rw [List.length_take, Nat.min_eq_left hk] at hlen
    have hlt64 := TextN.nums_lt hns
    have hwl := TextN.wv_lt ns hlt64
    by_cases hlt : k < g.length
    · cases hn : TextN.num g[k] with
      | none =>
        have Hfin := Lib.hid (TextN.rg_form (TextN.nums_bad g k hlt hn))
        have HN := Lib.hid hn
        clear hns hlen hn hlt64
        go_wp2_with fail
        refine (letter_none _ HN.out w).mono ?_
        rintro e w' ⟨rfl, rfl⟩
        go_wp2
        go_ret2
        rw [Hfin.out]
        exact ⟨rfl, rfl⟩
      | some n =>
        have hn64 := TextN.num_lt hn
        have Hs := Lib.hid (TextN.nums_snoc (g.take k) g[k] ns n hns hn)
        have Hw := Lib.hid (TextN.wv_snoc ns n (by omega))
        have Hl := Lib.hid (TextN.wv_low ns (by omega) hlt64)
        have HN := Lib.hid hn
        have HL := Lib.hid hlen
        clear hns hlen hn hlt64
        go_wp2_with fail
        refine (letter_some _ n HN.out w).mono ?_
        rintro e w' ⟨rfl, rfl⟩
        have hk4 : k = 0 ∨ k = 1 ∨ k = 2 ∨ k = 3 := by omega
        rcases hk4 with rfl | rfl | rfl | rfl
        · have HJ := Lib.hid (joined ns n 0 262144 HL.out Hw.out Hl.out hn64 (by decide) (by decide))
          go_wp2
          go_round
          case rel => exact ⟨1, _, by omega, rfl, by rw [TextN.take_snoc g 0 hlt]; exact Hs.out, by rw [← HJ.out]; rfl⟩
          case measure => simp [intOf]; omega
        · have HJ := Lib.hid (joined ns n 1 4096 HL.out Hw.out Hl.out hn64 (by decide) (by decide))
          go_wp2
          go_round
          case rel => exact ⟨2, _, by omega, rfl, by rw [TextN.take_snoc g 1 hlt]; exact Hs.out, by rw [← HJ.out]; rfl⟩
          case measure => simp [intOf]; omega
        · have HJ := Lib.hid (joined ns n 2 64 HL.out Hw.out Hl.out hn64 (by decide) (by decide))
          go_wp2
          go_round
          case rel => exact ⟨3, _, by omega, rfl, by rw [TextN.take_snoc g 2 hlt]; exact Hs.out, by rw [← HJ.out]; rfl⟩
          case measure => simp [intOf]; omega
        · have HJ := Lib.hid (joined ns n 3 1 HL.out Hw.out Hl.out hn64 (by decide) (by decide))
          rw [Nat.mul_one] at HJ
          go_wp2
          go_round
          case rel => exact ⟨4, _, by omega, rfl, by rw [TextN.take_snoc g 3 hlt]; exact Hs.out, by rw [← HJ.out]⟩
          case measure => simp [intOf]; omega
    · obtain rfl : k = g.length := by omega
      rw [List.take_length] at hns
      have Hns := Lib.hid hns
      clear hns hlen hlt64
      by_cases hl1 : g.length = 1
      · have Hfin := Lib.hid (TextN.rg_short Hns.out hl1)
        have ht : ((g.length : Int) == 1) = true := beq_iff_eq.2 (by omega)
        clear hl1
        go_wp2
        go_ret2
        rw [Hfin.out]
        exact ⟨rfl, rfl⟩
      · have ht : ((g.length : Int) == 1) = false := beq_eq_false_iff_ne.2 (by omega)
        by_cases hz : TextN.wv ns * 2 ^ (8 * g.length) % 4294967296 = 0
        · have Hfin := Lib.hid (TextN.rg_ok Hns.out hl1 hz)
          have hz' : ((TextN.wv ns : Int) * 2 ^ (8 * g.length) % 4294967296 != 0) = false := mod0 _ _ hz
          clear hl1 hz
          go_wp2
          go_ret2
          rw [Hfin.out]
          exact ⟨rfl, rfl⟩
        · have Hfin := Lib.hid (TextN.rg_sum Hns.out hl1 hz)
          have hz' : ((TextN.wv ns : Int) * 2 ^ (8 * g.length) % 4294967296 != 0) = true := mod1 _ _ hz
          clear hl1 hz
          go_wp2
          go_ret2
          rw [Hfin.out]
          exact ⟨rfl, rfl⟩

end Go.Proofs.Ytnbchnaehmbfcaa.TextGroupW
