/-
  Sealing as plain mathematics: what is summed, what Seal and Open answer, and what holds of them. Conditions: in each statement.
-/
import Derived.Test.YtohpgfefdlccmaaKg
import Derived.Test.YtohpgfefdlccmaaKf
namespace Go.Proofs.Ytohpgfefdlccmaa.SealM
open StreamM OneM

/-- Noughts up to whole blocks of 16. -/
def padN (n : Nat) : Nat := (16 - n % 16) % 16
def pad (l : List UInt8) : List UInt8 := l ++ List.replicate (padN l.length) 0
def le8 (n : Nat) : List UInt8 := (List.range 8).map fun k => UInt8.ofNat (n / 256 ^ k)
theorem le8_len (n : Nat) : (le8 n).length = 8 := by simp [le8]
theorem pad_len (l : List UInt8) : (pad l).length = l.length + padN l.length := by simp [pad]
theorem pad_whole (l : List UInt8) : (pad l).length % 16 = 0 := by rw [pad_len]; unfold padN; omega
/-- What the tag is of. -/
def tagIn (extra c : List UInt8) : List UInt8 := pad extra ++ pad c ++ (le8 extra.length ++ le8 c.length)
theorem tagIn_len (extra c : List UInt8) : (tagIn extra c).length = extra.length + padN extra.length + (c.length + padN c.length) + 16 := by
  unfold tagIn
  simp only [List.length_append, pad_len, le8_len]
theorem tagIn_le (extra c : List UInt8) (h1 : extra.length ≤ 16384) (h2 : c.length ≤ 16384) : (tagIn extra c).length ≤ 40000 := by
  rw [tagIn_len]
  unfold padN
  omega
def jtag (key nonce extra c : List UInt8) : List UInt8 := tagS ((block key nonce 0).take 32) (tagIn extra c)
theorem jtag_len (key nonce extra c : List UInt8) : (jtag key nonce extra c).length = 16 := tagS_len _ _
/-- What is wrong. -/
def wrongM (key nonce extra : List UInt8) (n : Int) : Int := if key.length ≠ 32 ∨ nonce.length ≠ 12 then 1 else if 16384 < extra.length ∨ 16384 < n then 2 else 0
theorem wrong_zero {key nonce extra : List UInt8} {n : Int} (h : wrongM key nonce extra n = 0) : key.length = 32 ∧ nonce.length = 12 ∧ extra.length ≤ 16384 ∧ n ≤ 16384 := by
  unfold wrongM at h
  split at h
  · cases h
  · split at h
    · cases h
    · omega
theorem wrong_le {key nonce extra : List UInt8} {n m : Int} (h : wrongM key nonce extra n = 0) (hm : m ≤ n) : wrongM key nonce extra m = 0 := by
  obtain ⟨h1, h2, h3, h4⟩ := wrong_zero h
  unfold wrongM
  rw [if_neg (by omega), if_neg (by omega)]
theorem wrong_of {key nonce extra : List UInt8} {n : Int} (h1 : key.length = 32) (h2 : nonce.length = 12) (h3 : extra.length ≤ 16384) (h4 : n ≤ 16384) : wrongM key nonce extra n = 0 := by
  unfold wrongM
  rw [if_neg (by omega), if_neg (by omega)]
/-- What Seal answers. -/
def sealed (key nonce extra b : List UInt8) : List UInt8 := mix key nonce 1 b ++ jtag key nonce extra (mix key nonce 1 b)
def sealM (key nonce extra b : List UInt8) : List UInt8 × Int := if wrongM key nonce extra b.length = 0 then (sealed key nonce extra b, 0) else ([], wrongM key nonce extra b.length)
theorem sealed_len (key nonce extra b : List UInt8) : (sealed key nonce extra b).length = b.length + 16 := by
  unfold sealed
  rw [List.length_append, mix_len, jtag_len]
/-- What Open answers. -/
def openM (key nonce extra c : List UInt8) : List UInt8 × Int :=
  if wrongM key nonce extra ((c.length : Int) - 16) = 0 then
    if c.length < 16 then ([], 8)
    else if jtag key nonce extra (c.take (c.length - 16)) = c.drop (c.length - 16) then (mix key nonce 1 (c.take (c.length - 16)), 0)
    else ([], 7)
  else ([], wrongM key nonce extra ((c.length : Int) - 16))
theorem seal_len_le (key nonce extra b : List UInt8) : (sealM key nonce extra b).1.length ≤ 16400 := by
  unfold sealM
  split
  · rename_i h
    have := (wrong_zero h).2.2.2
    rw [sealed_len]
    omega
  · simp
/-- What was sealed opens. -/
theorem open_sealed (key nonce extra b : List UInt8) (h : wrongM key nonce extra b.length = 0) : openM key nonce extra (sealed key nonce extra b) = (b, 0) := by
  have hl := sealed_len key nonce extra b
  have ht : (sealed key nonce extra b).take b.length = mix key nonce 1 b := by
    unfold sealed
    rw [List.take_append_of_le_length (by rw [mix_len]; exact Nat.le_refl _), List.take_of_length_le (by rw [mix_len]; exact Nat.le_refl _)]
  have hd : (sealed key nonce extra b).drop b.length = jtag key nonce extra (mix key nonce 1 b) := by
    unfold sealed
    rw [List.drop_append_of_le_length (by rw [mix_len]; exact Nat.le_refl _), List.drop_of_length_le (by rw [mix_len]; exact Nat.le_refl _)]
    rfl
  unfold openM
  rw [hl, show ((b.length + 16 : Nat) : Int) - 16 = (b.length : Int) by omega, if_pos h, if_neg (by omega), Nat.add_sub_cancel, ht, hd, if_pos rfl, mix_mix]
/-- What opens was sealed. -/
theorem seal_opened (key nonce extra c y : List UInt8) (h : openM key nonce extra c = (y, 0)) : sealM key nonce extra y = (c, 0) := by
  unfold openM at h
  split at h
  · rename_i hw
    split at h
    · exact absurd (congrArg Prod.snd h) (show ¬ (8 : Int) = 0 by decide)
    · rename_i hl
      split at h
      · rename_i ht
        have hy : mix key nonce 1 (c.take (c.length - 16)) = y := congrArg Prod.fst h
        have hyl : y.length = c.length - 16 := by rw [← hy, mix_len, List.length_take]; omega
        have hw2 : wrongM key nonce extra (y.length : Int) = 0 := by rw [hyl, show ((c.length - 16 : Nat) : Int) = (c.length : Int) - 16 by omega]; exact hw
        have hm : mix key nonce 1 y = c.take (c.length - 16) := by rw [← hy, mix_mix]
        unfold sealM
        rw [if_pos hw2]
        unfold sealed
        rw [hm, ht, List.take_append_drop]
      · exact absurd (congrArg Prod.snd h) (show ¬ (7 : Int) = 0 by decide)
  · rename_i hw
    exact absurd (congrArg Prod.snd h) hw
theorem open_fst (key nonce extra c : List UInt8) (h : (openM key nonce extra c).2 ≠ 0) : (openM key nonce extra c).1 = [] := by
  unfold openM at h ⊢
  split
  · rename_i hw
    rw [if_pos hw] at h
    split
    · rfl
    · rename_i hl
      rw [if_neg hl] at h
      split
      · rename_i ht
        rw [if_pos ht] at h
        exact absurd rfl h
      · rfl
  · rfl
theorem seal_fst (key nonce extra b : List UInt8) (h : (sealM key nonce extra b).2 ≠ 0) : (sealM key nonce extra b).1 = [] := by
  unfold sealM at h ⊢
  split
  · rename_i hw
    rw [if_pos hw] at h
    exact absurd rfl h
  · rfl
/-- A tag that is bent is seen. -/
theorem open_bent (key nonce extra b : List UInt8) (h : wrongM key nonce extra b.length = 0) (k : Nat) (z : UInt8) (hk : k < 16) (hz : (jtag key nonce extra (mix key nonce 1 b)).getD k 0 ≠ z) :
    openM key nonce extra ((sealed key nonce extra b).set (b.length + k) z) = ([], 7) := by
  have hl := sealed_len key nonce extra b
  have hs : (sealed key nonce extra b).set (b.length + k) z = mix key nonce 1 b ++ (jtag key nonce extra (mix key nonce 1 b)).set k z := by
    unfold sealed
    rw [List.set_append, if_neg (by rw [mix_len]; omega), mix_len, Nat.add_sub_cancel_left]
  have hj := jtag_len key nonce extra (mix key nonce 1 b)
  have ht : (mix key nonce 1 b ++ (jtag key nonce extra (mix key nonce 1 b)).set k z).take b.length = mix key nonce 1 b := by
    rw [List.take_append_of_le_length (by rw [mix_len]; exact Nat.le_refl _), List.take_of_length_le (by rw [mix_len]; exact Nat.le_refl _)]
  have hd : (mix key nonce 1 b ++ (jtag key nonce extra (mix key nonce 1 b)).set k z).drop b.length = (jtag key nonce extra (mix key nonce 1 b)).set k z := by
    rw [List.drop_append_of_le_length (by rw [mix_len]; exact Nat.le_refl _), List.drop_of_length_le (by rw [mix_len]; exact Nat.le_refl _)]
    rfl
  have hll : (mix key nonce 1 b ++ (jtag key nonce extra (mix key nonce 1 b)).set k z).length = b.length + 16 := by rw [List.length_append, List.length_set, mix_len, hj]
  unfold openM
  rw [hs, hll, show ((b.length + 16 : Nat) : Int) - 16 = (b.length : Int) by omega, if_pos h, if_neg (by omega), Nat.add_sub_cancel, ht, hd, if_neg]
  intro e
  apply hz
  have h2 : (jtag key nonce extra (mix key nonce 1 b)).getD k 0 = ((jtag key nonce extra (mix key nonce 1 b)).set k z).getD k 0 := congrArg (fun l => l.getD k 0) e
  rw [h2, List.getD_eq_getElem?_getD, List.getElem?_set_self (by omega)]
  rfl
/-- Of one key and nonce. -/
theorem seal_bits (key nonce x1 x2 a b : List UInt8) (i : Nat) (ha : i < a.length) (hb : i < b.length) (h1 : i < (sealed key nonce x1 a).length) (h2 : i < (sealed key nonce x2 b).length) :
    (sealed key nonce x1 a)[i] ^^^ (sealed key nonce x2 b)[i] = a[i] ^^^ b[i] := by
  have ha' : i < (mix key nonce 1 a).length := by rw [mix_len]; exact ha
  have hb' : i < (mix key nonce 1 b).length := by rw [mix_len]; exact hb
  have e1 : (sealed key nonce x1 a)[i] = (mix key nonce 1 a)[i] := List.getElem_append_left ha'
  have e2 : (sealed key nonce x2 b)[i] = (mix key nonce 1 b)[i] := List.getElem_append_left hb'
  rw [e1, e2]
  exact mix_bits key nonce 1 a b i ha hb ha' hb'
end Go.Proofs.Ytohpgfefdlccmaa.SealM
