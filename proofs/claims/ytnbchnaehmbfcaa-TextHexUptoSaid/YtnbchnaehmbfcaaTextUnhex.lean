/-
  text.Unhex: what it hands back, for every string. Conditions: none.
-/
import Derived.Test.YtnbchnaehmbfcaaBytesW
import Derived.Test.YtnbchnaehmbfcaaTextM
import Derived.WalkKit
import Derived.BigCall
import Derived.Lib.Hide
import Derived.Outline
import Derived.Deep.DeepMust
namespace Go.Proofs.Ytnbchnaehmbfcaa.TextUnhexW
open Go.RowKit BytesW

theorem dig_cases {c : UInt8} {n : Nat} (h : TextM.dig c = some n) :
    ∃ x : Nat, c.toNat = x ∧ ((48 ≤ (x : Int) ∧ (x : Int) ≤ 57 ∧ (n : Int) = x - 48) ∨ (97 ≤ (x : Int) ∧ (x : Int) ≤ 102 ∧ (n : Int) = x - 87)) := by
  refine ⟨_, rfl, ?_⟩
  unfold TextM.dig at h
  split at h
  · simp at h; omega
  · split at h
    · simp at h; omega
    · cases h

theorem dig_none {c : UInt8} (h : TextM.dig c = none) :
    ∃ x : Nat, c.toNat = x ∧ ((x : Int) < 48 ∨ (57 < (x : Int) ∧ (x : Int) < 97) ∨ 102 < (x : Int)) := by
  refine ⟨_, rfl, ?_⟩
  unfold TextM.dig at h
  split at h
  · cases h
  · split at h
    · cases h
    · omega

set_option maxHeartbeats 400000 in
theorem digit_some (c : UInt8) (n : Nat) (hn : TextM.dig c = some n) (w : World) :
    Calls Try.prog 20 #[.int .u8 (c.toNat : Int)] w fun e w' => e = .returned (.tuple #[.int .u8 (n : Int), .bool true]) ∧ w = w' := by
  have hx := c.toNat_lt
  obtain ⟨x, e, h⟩ := dig_cases hn
  rw [e] at hx ⊢
  clear e hn
  have H := Lib.hid h
  rcases h with ⟨h1, h2, h3⟩ | ⟨h1, h2, h3⟩ <;> clear h3
  all_goals
    go_enter Try.func20, Try.ntmps20
    go_wp2
    go_ret2
    exact ⟨tup2 (by have := H.out; omega), rfl⟩

set_option maxHeartbeats 400000 in
theorem digit_none (c : UInt8) (hn : TextM.dig c = none) (w : World) :
    Calls Try.prog 20 #[.int .u8 (c.toNat : Int)] w fun e w' => e = .returned (.tuple #[.int .u8 0, .bool false]) ∧ w = w' := by
  have hx := c.toNat_lt
  obtain ⟨x, e, h⟩ := dig_none hn
  rw [e] at hx ⊢
  clear e hn
  rcases h with h1 | ⟨h1, h2⟩ | h1
  all_goals
    go_enter Try.func20, Try.ntmps20
    go_wp2
    go_ret2
    exact ⟨rfl, rfl⟩

theorem join_fin : ∀ x y : Fin 16, bits BinOp.or .u8 ((x.val : Int) * 16) (y.val : Int) = ((TextM.pair x.val y.val).toNat : Int) := by decide +kernel
theorem join (x y : Nat) (hx : x < 16) (hy : y < 16) : bits BinOp.or .u8 ((x : Int) * 16) (y : Int) = ((TextM.pair x y).toNat : Int) := join_fin ⟨x, hx⟩ ⟨y, hy⟩

set_option maxHeartbeats 4000000 in
set_option maxRecDepth 100000 in
theorem unhex_any (s : ByteArray) (w : World) (hs : s.size ≤ maxLen) :
    Calls Try.prog 10 #[.string s] w fun e w' => ∃ v, e = .returned (.tuple #[v, .int .i64 ((TextM.unhex s.data.toList).1 : Int)]) ∧
      Row w.heap.size w' v (TextM.unhex s.data.toList).2 ∧ Below w.heap.size w w' := by
  unfold maxLen at hs
  have hsz : s.data.toList.length = s.size := by rw [Array.length_toList]; rfl
  by_cases hbig : 32768 < s.size
  · have hu : TextM.unhex s.data.toList = (2, []) := by unfold TextM.unhex; rw [if_pos (by omega)]
    rw [hu]
    clear hu hsz
    go_enter Try.func10, Try.ntmps10
    go_wp2
    go_ret2
    exact ⟨_, rfl, Row.nil _ _, Below.refl _ _⟩
  · have hu : TextM.unhex s.data.toList = TextM.unhexF [] s.data.toList := by unfold TextM.unhex; rw [if_neg (by omega)]
    rw [hu]
    clear hu
    have hmk := make0 (s.size / 2) (by omega)
    rw [show ((s.size / 2 : Nat) : Int) = (s.size : Int) / 2 from by omega] at hmk
    have hm0 := Row.made w.heap.size (s.size / 2) w (Nat.le_refl _) (by unfold maxLen; omega)
    have hb0 := (Below.refl w.heap.size w).alloc (Nat.le_refl _) (.cells (madeCells #[.int .u8 0] (s.size / 2)) 5)
    have HS := Lib.hid hsz; clear hsz
    go_enter Try.func10, Try.ntmps10
    go_wp2
    go_loopw [4, 5] (fun v i wr => ∃ (k : Nat) (acc : List UInt8), 2 * k ≤ s.size ∧ i = .int .i64 ((2 * k : Nat) : Int) ∧ acc.length = k ∧ TextM.unhexF acc (s.data.toList.drop (2 * k)) = TextM.unhexF [] s.data.toList ∧
        Row w.heap.size wr v acc ∧ Below w.heap.size w wr) (fun _ i _ => s.size - (intOf i).toNat)
    case atStart => exact ⟨0, [], by omega, by simp, rfl, rfl, hm0, hb0⟩
    case round =>
      obtain ⟨k, acc, hk, rfl, hal, hF, hrow, hb⟩ := hrel
      have HF := Lib.hid hF; clear hF
      have HA := Lib.hid hal; clear hal hm0 hb0 hmk
      generalize hj : 2 * k = j at *
      have HJ := Lib.hid hj; clear hj
      by_cases hlt : j < s.size
      · cases hd : TextM.dig s[j] with
        | none =>
          have Hfin := Lib.hid (HF.out.symm.trans (TextM.unhexF_bad1 acc s.data.toList j (by rw [HS.out]; exact hlt) hd))
          go_wp2_with fail
          refine (digit_none _ hd wr).mono ?_
          rintro e w' ⟨rfl, rfl⟩
          clear hd
          go_wp2
          go_ret2
          rw [Hfin.out]
          exact ⟨_, rfl, Row.nil _ _, hb⟩
        | some x =>
          have hx := TextM.dig_lt hd
          by_cases hl1 : j + 1 = s.size
          · have Hfin := Lib.hid (HF.out.symm.trans (TextM.unhexF_one acc s.data.toList j (by rw [HS.out]; exact hl1) hd))
            have ht : ((j : Int) + 1 == (s.size : Int)) = true := beq_iff_eq.2 (by omega)
            clear hl1
            go_wp2_with fail
            refine (digit_some _ x hd wr).mono ?_
            rintro e w' ⟨rfl, rfl⟩
            clear hd
            go_wp2
            go_ret2
            rw [Hfin.out]
            exact ⟨_, rfl, Row.nil _ _, hb⟩
          · have ht : ((j : Int) + 1 == (s.size : Int)) = false := beq_eq_false_iff_ne.2 (by omega)
            have hlt1 : j + 1 < s.size := by omega
            cases hd1 : TextM.dig s[j + 1] with
            | none =>
              have Hfin := Lib.hid (HF.out.symm.trans (TextM.unhexF_bad2 acc s.data.toList j (by rw [HS.out]; exact hlt1) hd hd1))
              go_wp2_with fail
              refine (digit_some _ x hd wr).mono ?_
              rintro e w' ⟨rfl, rfl⟩
              clear hd
              go_wp2_with fail
              refine (digit_none _ hd1 wr).mono ?_
              rintro e w' ⟨rfl, rfl⟩
              clear hd1
              go_wp2
              go_ret2
              rw [Hfin.out]
              exact ⟨_, rfl, Row.nil _ _, hb⟩
            | some y =>
              have hy := TextM.dig_lt hd1
              have Hfin := Lib.hid (HF.out.symm.trans (TextM.unhexF_two acc s.data.toList j (by rw [HS.out]; exact hlt1) hd hd1))
              go_wp2_with fail
              refine (digit_some _ x hd wr).mono ?_
              rintro e w' ⟨rfl, rfl⟩
              clear hd
              go_wp2_with fail
              refine (digit_some _ y hd1 wr).mono ?_
              rintro e w' ⟨rfl, rfl⟩
              clear hd1
              have hnew := new1 wr _ _ (join x y hx hy)
              have hl2 : acc.length + 1 ≤ 140737488355328 := by have := HA.out; have := HJ.out; omega
              have hB := hb.size
              go_wp2_with (at_builtin; go_must (refine app1 rfl (.tmp 46) (.tmp 51) rfl w.heap.size _ acc rfl (hrow.alloc _) ⟨wr.heap.size, 0, none⟩ 1 (TextM.pair x y) rfl hnew hl2 (by simp; omega) ?_))
              intro v' w' hrow' hb'
              clear hnew
              go_wp2
              go_roundw
              case rel => exact ⟨k + 1, _, by have := HJ.out; omega, by have := HJ.out; go_num, by simp [HA.out], by rw [show 2 * (k + 1) = j + 2 from by have := HJ.out; omega]; exact Hfin.out.symm, hrow', (hb.alloc hB _).trans hb'⟩
              case measure => simp [intOf]; omega
      · go_wp2
        have hF := HF.out
        rw [List.drop_of_length_le (by rw [HS.out]; omega)] at hF
        simp only [TextM.unhexF] at hF
        go_ret2
        rw [← hF]
        exact ⟨_, rfl, hrow, hb⟩

end Go.Proofs.Ytnbchnaehmbfcaa.TextUnhexW
