/-
  What the key stream's functions answer; mixed twice, from a block on, by bits, of noughts: plain mathematics. Conditions: in each statement.
-/
import Derived.Test.YthofghfbnlieeaaStreamM
namespace Go.Proofs.Ythofghfbnlieeaa.StreamM
open HashM

/-- What Block answers. -/
def blockM (key nonce : List UInt8) (n : Int) : List UInt8 × Int := if key.length ≠ 32 ∨ nonce.length ≠ 12 then ([], 1) else if n < 0 ∨ 4294967296 ≤ n then ([], 2) else (block key nonce n, 0)
/-- What Mix answers. -/
def mixM (key nonce : List UInt8) (n : Int) (b : List UInt8) : List UInt8 × Int := if key.length ≠ 32 ∨ nonce.length ≠ 12 then ([], 1) else if n < 0 ∨ 4294967296 ≤ n ∨ 16384 < b.length ∨ 64 * (4294967296 - n) < (b.length : Int) then ([], 2) else (mix key nonce n b, 0)
theorem mix_at (key nonce : List UInt8) (n : Int) (b : List UInt8) (i : Nat) : (mix key nonce n b)[i]? = b[i]?.map (· ^^^ streamAt key nonce n i) := by
  unfold mix
  rw [List.getElem?_mapIdx]
/-- Mixed twice. -/
theorem mix_mix (key nonce : List UInt8) (n : Int) (b : List UInt8) : mix key nonce n (mix key nonce n b) = b := by
  apply List.ext_getElem?
  intro i
  rw [mix_at, mix_at]
  cases b[i]? with
  | none => rfl
  | some x => simp [UInt8.xor_assoc]
theorem mix_take (key nonce : List UInt8) (n : Int) (b : List UInt8) (k : Nat) : mix key nonce n (b.take k) = (mix key nonce n b).take k := by
  apply List.ext_getElem?
  intro i
  rw [mix_at, List.getElem?_take, List.getElem?_take]
  split
  · rw [mix_at]
  · rfl
theorem stream_on (key nonce : List UInt8) (n : Int) (k i : Nat) : streamAt key nonce (n + (k : Nat)) i = streamAt key nonce n (64 * k + i) := by
  unfold streamAt
  rw [show (64 * k + i) / 64 = k + i / 64 by omega, show (64 * k + i) % 64 = i % 64 by omega, Int.natCast_add, Int.add_assoc]
/-- From block k on. -/
theorem mix_drop (key nonce : List UInt8) (n : Int) (b : List UInt8) (k : Nat) : mix key nonce (n + (k : Nat)) (b.drop (64 * k)) = (mix key nonce n b).drop (64 * k) := by
  apply List.ext_getElem?
  intro i
  rw [mix_at, List.getElem?_drop, List.getElem?_drop, mix_at, stream_on]
theorem mix_parts (key nonce : List UInt8) (n : Int) (b : List UInt8) (k : Nat) : mix key nonce n (b.take (64 * k)) ++ mix key nonce (n + (k : Nat)) (b.drop (64 * k)) = mix key nonce n b := by
  rw [mix_take, mix_drop, List.take_append_drop]
/-- Of noughts. -/
theorem mix_zeros (key nonce : List UInt8) (n : Int) (m k : Nat) (hk : k < m) : ((mix key nonce n (List.replicate (64 * m) 0)).drop (64 * k)).take 64 = block key nonce (n + (k : Nat)) := by
  apply List.ext_getElem?
  intro i
  rw [List.getElem?_take, List.getElem?_drop, mix_at]
  by_cases hi : i < 64
  · rw [if_pos hi, List.getElem?_replicate, if_pos (by omega), Option.map_some, ← stream_on]
    unfold streamAt
    rw [show i / 64 = 0 by omega, show i % 64 = i by omega, show n + (k : Int) + ((0 : Nat) : Int) = n + (k : Int) by omega]
    obtain ⟨B, hB⟩ : ∃ B, block key nonce (n + (k : Int)) = B := ⟨_, rfl⟩
    have hl : B.length = 64 := by rw [← hB]; exact block_len _ _ _
    rw [hB, List.getD_eq_getElem?_getD, List.getElem?_eq_getElem (by omega)]
    simp only [Option.getD_some, UInt8.zero_xor]
  · rw [if_neg hi, List.getElem?_eq_none (by rw [block_len]; omega)]
theorem mix_bits (key nonce : List UInt8) (n : Int) (a b : List UInt8) (i : Nat) (ha : i < a.length) (hb : i < b.length) (ha' : i < (mix key nonce n a).length) (hb' : i < (mix key nonce n b).length) : (mix key nonce n a)[i] ^^^ (mix key nonce n b)[i] = a[i] ^^^ b[i] := by
  have e1 := mix_at key nonce n a i
  have e2 := mix_at key nonce n b i
  rw [List.getElem?_eq_getElem ha', List.getElem?_eq_getElem ha] at e1
  rw [List.getElem?_eq_getElem hb', List.getElem?_eq_getElem hb] at e2
  have h : ∀ x y s : UInt8, (x ^^^ s) ^^^ (y ^^^ s) = x ^^^ y := fun x y s => by rw [UInt8.xor_comm y s, ← UInt8.xor_assoc, UInt8.xor_assoc x, UInt8.xor_self, UInt8.xor_zero]
  rw [Option.some.inj e1, Option.some.inj e2]
  exact h _ _ _
end Go.Proofs.Ythofghfbnlieeaa.StreamM
