/-
  ticketwardref.AHex: what it hands back. Conditions: the slice has at most 2^40 bytes.
-/
import Derived.Test.YtooaaacingaapaaKb
import Derived.Test.YtooaaacingaapaaKa
import Derived.WalkKit
import Derived.BigCall
import Derived.Lib.Hide
import Derived.Outline
import Derived.Laws.Runes
import Derived.Laws.Concat
import Derived.Laws.Cover4
namespace Go.Proofs.Ytooaaacingaapaa.RefHexW
open Go.RowKit BytesW

theorem enc_ascii (n : Nat) (h : n < 128) : Utf8.encode (n : Int) = ⟨#[UInt8.ofNat n]⟩ := by
  unfold Utf8.encode
  have hv : Utf8.valid (n : Int) = true := by simp [Utf8.valid]; omega
  simp only [hv, if_true, Int.toNat_natCast]
  rw [if_pos (by omega)]

theorem cat_enc (x : List UInt8) (n : Int) (m : Nat) (h : n = (m : Int)) (hm : m < 128) : (⟨x.toArray⟩ ++ Utf8.encode n : ByteArray) = ⟨(x ++ [UInt8.ofNat m]).toArray⟩ := by
  rw [h, enc_ascii m hm]
  apply ByteArray.ext
  simp

theorem add_lo (p : List UInt8) (hp : p.length ≤ 4398046511104) (a : Nat) (h : a < 10) (w : World) :
    ∃ E, Utf8.encode (48 + (a : Int)) = E ∧ (Op.stringOp .add ⟨p.toArray⟩ E).run Try.prog w = .ok (.string ⟨(p ++ [TextM.hexD a]).toArray⟩) w := by
  refine ⟨_, rfl, ?_⟩
  have e := cat_enc p (48 + (a : Int)) (48 + a) (by omega) (by omega)
  have hs := encode_size_le (48 + (a : Int))
  have hz : (⟨p.toArray⟩ : ByteArray).size = p.length := by simp [ByteArray.size]
  have hd : TextM.hexD a = UInt8.ofNat (48 + a) := by unfold TextM.hexD; rw [if_pos h]
  rw [hd, ← e]
  exact run_string_add_sum (P := Try.prog) (w := w) ⟨p.toArray⟩ (Utf8.encode (48 + (a : Int))) (by omega)

theorem add_hi (p : List UInt8) (hp : p.length ≤ 4398046511104) (a : Nat) (h : ¬ a < 10) (h' : a < 16) (w : World) :
    ∃ E, Utf8.encode (97 + (a : Int) - 10) = E ∧ (Op.stringOp .add ⟨p.toArray⟩ E).run Try.prog w = .ok (.string ⟨(p ++ [TextM.hexD a]).toArray⟩) w := by
  refine ⟨_, rfl, ?_⟩
  have e := cat_enc p (97 + (a : Int) - 10) (87 + a) (by omega) (by omega)
  have hs := encode_size_le (97 + (a : Int) - 10)
  have hz : (⟨p.toArray⟩ : ByteArray).size = p.length := by simp [ByteArray.size]
  have hd : TextM.hexD a = UInt8.ofNat (87 + a) := by unfold TextM.hexD; rw [if_neg h]
  rw [hd, ← e]
  exact run_string_add_sum (P := Try.prog) (w := w) ⟨p.toArray⟩ (Utf8.encode (97 + (a : Int) - 10)) (by omega)

set_option maxHeartbeats 4000000 in
set_option maxRecDepth 100000 in
theorem hex_ref (A : Option Addr) (l : List UInt8) (c : Nat) (w : World) (hA : Bs w w.heap.size A l) (hl : l.length ≤ 1099511627776) :
    Calls Try.prog 19 #[.slice A l.length c] w fun e w' => e = .returned (.string ⟨(TextM.hex l).toArray⟩) ∧ Below w.heap.size w w' := by
  go_enter Try.func19, Try.ntmps19
  go_wp2
  go_loopw [3, 10] (fun s i wr => ∃ k : Nat, k ≤ l.length ∧ i = .int .i64 k ∧ s = .string ⟨(TextM.hex (l.take k)).toArray⟩ ∧ Below w.heap.size w wr) (fun _ i _ => l.length - (intOf i).toNat)
  case atStart => exact ⟨0, Nat.zero_le _, rfl, rfl, Below.refl _ _⟩
  case round =>
    obtain ⟨k, hk, rfl, rfl, hb⟩ := hrel
    by_cases hlt : k < l.length
    · obtain ⟨ad, rfl, hbl, hc⟩ := (hA.below hb).at_ hlt
      have hx := l[k].toNat_lt
      generalize hc0 : l[k] = c0 at hc hx
      have hlen : (TextM.hex (l.take k)).length ≤ 2199023255552 := by rw [TextM.hex_length]; simp; omega
      have HC := Lib.hid (TextM.hex_take l k hlt)
      rw [hc0] at HC
      clear hA hc0
      generalize TextM.hex (l.take k) = p at *
      generalize hq : TextM.hex (l.take (k + 1)) = q at *
      have HQ := Lib.hid hq; clear hq
      go_wp2
      have g0 := World.cell?_alloc_new wr #[Value.int IntKind.u8 (↑c0.toNat / 16), Value.int IntKind.u8 (↑c0.toNat % 16)] 5 0
      have g1 := World.cell?_alloc_new wr #[Value.int IntKind.u8 (↑c0.toNat / 16), Value.int IntKind.u8 (↑c0.toNat % 16)] 5 1
      have hb2 := hb.alloc hb.size (.cells #[Value.int IntKind.u8 (↑c0.toNat / 16), Value.int IntKind.u8 (↑c0.toNat % 16)] 5)
      generalize wr.alloc (.cells #[Value.int IntKind.u8 (↑c0.toNat / 16), Value.int IntKind.u8 (↑c0.toNat % 16)] 5) = w2 at *
      simp at g0 g1
      have ha : c0.toNat / 16 < 16 := by omega
      have hb' : c0.toNat % 16 < 16 := by omega
      rw [show (c0.toNat : Int) / 16 = ((c0.toNat / 16 : Nat) : Int) from by omega, show (c0.toNat : Int) % 16 = ((c0.toNat % 16 : Nat) : Int) from by omega]
      rw [show (c0.toNat : Int) / 16 = ((c0.toNat / 16 : Nat) : Int) from by omega] at g0
      rw [show (c0.toNat : Int) % 16 = ((c0.toNat % 16 : Nat) : Int) from by omega] at g1
      generalize c0.toNat / 16 = a at *
      generalize c0.toNat % 16 = b at *
      go_loop [3, 20] (fun s j => (j = .int .i64 0 ∧ s = .string ⟨p.toArray⟩) ∨ (j = .int .i64 1 ∧ s = .string ⟨(p ++ [TextM.hexD a]).toArray⟩) ∨ (j = .int .i64 2 ∧ s = .string ⟨q.toArray⟩)) (fun _ j => 2 - (intOf j).toNat)
      case atStart => exact Or.inl ⟨rfl, rfl⟩
      case round =>
        rcases hrel with ⟨rfl, rfl⟩ | ⟨rfl, rfl⟩ | ⟨rfl, rfl⟩
        · have hz : (p).length ≤ 4398046511104 := by omega
          by_cases h10 : a < 10
          · obtain ⟨E, hE, hadd⟩ := add_lo (p) hz a h10 w2
            have q0 : (0 : Int) ≤ (a : Int) := by omega
            have q1 : (a : Int) < 10 := by omega
            clear h10 ha hb' hx
            generalize hP : (p) = P' at *
            generalize hR : P' ++ [TextM.hexD a] = R at *
            clear hz
            have HR := Lib.hid hR
            clear hR
            have HP := Lib.hid hP
            clear hP
            generalize (a : Int) = x at *
            go_wp2
            go_round
            case rel => exact Or.inr (Or.inl ⟨by go_num, rfl⟩)
            case measure => simp [intOf]
          · obtain ⟨E, hE, hadd⟩ := add_hi (p) hz a h10 (by omega) w2
            have q0 : (10 : Int) ≤ (a : Int) := by omega
            have q1 : (a : Int) < 16 := by omega
            clear h10 ha hb' hx
            generalize hP : (p) = P' at *
            generalize hR : P' ++ [TextM.hexD a] = R at *
            clear hz
            have HR := Lib.hid hR
            clear hR
            have HP := Lib.hid hP
            clear hP
            generalize (a : Int) = x at *
            go_wp2
            go_round
            case rel => exact Or.inr (Or.inl ⟨by go_num, rfl⟩)
            case measure => simp [intOf]
        · have hz : (p ++ [TextM.hexD a]).length ≤ 4398046511104 := by simp; omega
          by_cases h10 : b < 10
          · obtain ⟨E, hE, hadd⟩ := add_lo (p ++ [TextM.hexD a]) hz b h10 w2
            have q0 : (0 : Int) ≤ (b : Int) := by omega
            have q1 : (b : Int) < 10 := by omega
            clear h10 ha hb' hx
            generalize hP : (p ++ [TextM.hexD a]) = P' at *
            generalize hR : P' ++ [TextM.hexD b] = R at *
            clear hz
            have HR := Lib.hid hR
            clear hR
            have HP := Lib.hid hP
            clear hP
            generalize (b : Int) = x at *
            go_wp2
            go_round
            case rel => exact Or.inr (Or.inr ⟨by go_num, by rw [HC.out, ← HR.out, ← HP.out]⟩)
            case measure => simp [intOf]
          · obtain ⟨E, hE, hadd⟩ := add_hi (p ++ [TextM.hexD a]) hz b h10 (by omega) w2
            have q0 : (10 : Int) ≤ (b : Int) := by omega
            have q1 : (b : Int) < 16 := by omega
            clear h10 ha hb' hx
            generalize hP : (p ++ [TextM.hexD a]) = P' at *
            generalize hR : P' ++ [TextM.hexD b] = R at *
            clear hz
            have HR := Lib.hid hR
            clear hR
            have HP := Lib.hid hP
            clear hP
            generalize (b : Int) = x at *
            go_wp2
            go_round
            case rel => exact Or.inr (Or.inr ⟨by go_num, by rw [HC.out, ← HR.out, ← HP.out]⟩)
            case measure => simp [intOf]
        · go_wp2
          go_roundw
          case rel => exact ⟨k + 1, by omega, by go_num, by rw [HQ.out], hb2⟩
          case measure => simp [intOf]; omega
    · obtain rfl : k = l.length := by omega
      rw [List.take_length]
      go_wp2
      go_ret
      exact ⟨rfl, hb⟩
end Go.Proofs.Ytooaaacingaapaa.RefHexW
