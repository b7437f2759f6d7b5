/-
  Poly1305: the last reduction, bits of digits, the sum byte by byte, the tag: plain mathematics. Conditions: in each statement.
-/
import Derived.Test.YtooaaacingaapaaOneS
namespace Go.Proofs.Ytooaaacingaapaa.OneM

theorem num_small (d : List Nat) : ∀ k, k ≤ d.length → (∀ m, m < k → d.getD m 0 < 8192) → num (d.take k) < 8192 ^ k := by
  induction d with
  | nil => intro k h _; obtain rfl : k = 0 := by simpa using h
           simp [num]
  | cons y r ih =>
    intro k h hm
    cases k with
    | zero => simp [num]
    | succ k =>
      have h0 := hm 0 (by omega)
      rw [List.getD_cons_zero] at h0
      have h1 := ih k (by simpa using h) (fun m hmk => by have := hm (m + 1) (by omega); rwa [List.getD_cons_succ] at this)
      rw [List.take_succ_cons, num, Nat.pow_succ]
      omega
theorem done_lt {a : List Nat} (h : DoneC a) : num a < 2 ^ 130 := by
  have h1 := num_small a 10 (by have := h.1; omega) h.2.1
  rw [num_ten a h.1 h.2.2] at h1
  have e : (8192 : Nat) ^ 10 = 2 ^ 130 := by decide
  omega
/-- Less 2^130 - 5, if it is no less. -/
def lastS (a c : List Nat) : List Nat := if 0 < c.getD 10 0 then c.take 10 ++ [0] else a
theorem lastS_num (a c : List Nat) (ha : DoneC a) (hl : c.length = 11) (hc : ∀ m, m < 10 → c.getD m 0 < 8192) (hn : num c = num a + 5) : num (lastS a c) = num a % pp ∧ DoneC (lastS a c) := by
  have h1 := done_lt ha
  have h2 := num_small c 10 (by omega) hc
  have h3 := num_take c 10 (by omega)
  rw [num_all c 11 (by omega)] at h3
  have e : (8192 : Nat) ^ 10 = 2 ^ 130 := by decide
  rw [e] at h2 h3
  have hp : pp + 5 = 2 ^ 130 := by decide
  unfold lastS
  by_cases h : 0 < c.getD 10 0
  · rw [if_pos h]
    have hz : num (c.take 10 ++ [0]) = num (c.take 10) := by
      have hl2 : (c.take 10 ++ [0]).length = 11 := by simp; omega
      have h4 := num_ten (c.take 10 ++ [0]) hl2 (by rw [List.getD_eq_getElem?_getD, List.getElem?_append_right (by simp; omega)]; simp; rw [Nat.min_eq_left (by omega)]; rfl)
      rw [List.take_append_of_le_length (by simp; omega), List.take_take, Nat.min_self] at h4
      exact h4.symm
    obtain ⟨t, ht⟩ : ∃ t, c.getD 10 0 = t := ⟨_, rfl⟩
    rw [ht] at h3 h
    have ht1 : t = 1 := by
      rcases Nat.lt_or_ge t 2 with h5 | h5
      · omega
      · have : 2 * 2 ^ 130 ≤ t * 2 ^ 130 := Nat.mul_le_mul_right _ h5
        omega
    subst ht1
    refine ⟨?_, by simp; omega, fun m hm => ?_, ?_⟩
    · rw [hz, Nat.mod_eq_sub_mod (by omega), Nat.mod_eq_of_lt (by omega)]
      omega
    · rw [List.getD_eq_getElem?_getD, List.getElem?_append_left (by simp; omega), List.getElem?_take, if_pos hm, ← List.getD_eq_getElem?_getD]
      exact hc m hm
    · rw [List.getD_eq_getElem?_getD, List.getElem?_append_right (by simp; omega)]
      simp
      rw [Nat.min_eq_left (by omega)]
      rfl
  · rw [if_neg h]
    have ht : c.getD 10 0 = 0 := by omega
    rw [ht, Nat.zero_mul] at h3
    exact ⟨(Nat.mod_eq_of_lt (by omega)).symm, ha⟩
/-- Bit t of a number in digits. -/
theorem num_bit (d : List Nat) : ∀ (t : Nat), (∀ m, m ≤ t / 13 → d.getD m 0 < 8192) → num d / 2 ^ t % 2 = d.getD (t / 13) 0 / 2 ^ (t % 13) % 2 := by
  induction d with
  | nil => intro t _; simp [num]
  | cons y r ih =>
    intro t hm
    have hy := hm 0 (Nat.zero_le _)
    rw [List.getD_cons_zero] at hy
    rcases Nat.lt_or_ge t 13 with h | h
    · rw [show t / 13 = 0 by omega, show t % 13 = t by omega, List.getD_cons_zero, num]
      have e : 8192 * num r = 2 ^ t * (2 * (2 ^ (12 - t) * num r)) := by
        rw [← Nat.mul_assoc, ← Nat.mul_assoc, Nat.mul_comm (2 ^ t) 2, Nat.mul_assoc 2, ← Nat.pow_add, show t + (12 - t) = 12 by omega]
      rw [e, Nat.add_mul_div_left _ _ (Nat.pow_pos (by decide)), Nat.add_mul_mod_self_left]
    · obtain ⟨s, rfl⟩ : ∃ s, t = 13 + s := ⟨t - 13, by omega⟩
      rw [show (13 + s) / 13 = s / 13 + 1 by omega, show (13 + s) % 13 = s % 13 by omega, List.getD_cons_succ, num, Nat.pow_add, ← Nat.div_div_eq_div_mul, show (2 : Nat) ^ 13 = 8192 by decide, Nat.add_mul_div_left _ _ (by decide), Nat.div_eq_of_lt hy, Nat.zero_add]
      exact ih s (fun m hms => by have := hm (m + 1) (by omega); rwa [List.getD_cons_succ] at this)
/-- A sum, byte by byte: the carry into byte k. -/
def carryS (X Y k : Nat) : Nat := (X % 256 ^ k + Y % 256 ^ k) / 256 ^ k
theorem carry_step (X Y k : Nat) : (carryS X Y k + Y / 256 ^ k % 256 + X / 256 ^ k % 256) % 256 = (X + Y) / 256 ^ k % 256 ∧ (carryS X Y k + Y / 256 ^ k % 256 + X / 256 ^ k % 256) / 256 = carryS X Y (k + 1) := by
  unfold carryS
  obtain ⟨P, hP⟩ : ∃ P, 256 ^ k = P := ⟨_, rfl⟩
  have hp : 0 < P := by rw [← hP]; exact Nat.pow_pos (by decide)
  have hx : X % (P * 256) = X % P + P * (X / P % 256) := Nat.mod_mul
  have hy : Y % (P * 256) = Y % P + P * (Y / P % 256) := Nat.mod_mul
  rw [Nat.pow_succ, hP, hx, hy]
  have hdx := Nat.div_add_mod X P
  have hdy := Nat.div_add_mod Y P
  obtain ⟨x0, h1⟩ : ∃ z, X % P = z := ⟨_, rfl⟩
  obtain ⟨y0, h2⟩ : ∃ z, Y % P = z := ⟨_, rfl⟩
  obtain ⟨x1, h3⟩ : ∃ z, X / P = z := ⟨_, rfl⟩
  obtain ⟨y1, h4⟩ : ∃ z, Y / P = z := ⟨_, rfl⟩
  rw [h1, h3] at hdx
  rw [h2, h4] at hdy
  rw [h1, h2, h3, h4]
  constructor
  · have e : (X + Y) / P = (x0 + y0) / P + (x1 + y1) := by
      rw [← hdx, ← hdy, show P * x1 + x0 + (P * y1 + y0) = x0 + y0 + P * (x1 + y1) by rw [Nat.mul_add]; omega, Nat.add_mul_div_left _ _ hp]
    rw [e]
    omega
  · rw [show x0 + P * (x1 % 256) + (y0 + P * (y1 % 256)) = x0 + y0 + P * (x1 % 256 + y1 % 256) by rw [Nat.mul_add]; omega, ← Nat.div_div_eq_div_mul, Nat.add_mul_div_left _ _ hp]
    congr 1
    omega

/-- The first half of a key, some bits of it cleared. -/
def clamp (key : List UInt8) : List UInt8 := (List.range 16).map fun k => if k % 4 = 3 then UInt8.ofNat ((key.getD k 0).toNat % 16) else if k % 4 = 0 ∧ k ≠ 0 then UInt8.ofNat ((key.getD k 0).toNat / 4 * 4) else key.getD k 0
/-- The accumulator behind n blocks. -/
def accS (r : Nat) (b : List UInt8) : Nat → Nat
  | 0 => 0
  | n + 1 => ((accS r b n + lev ((b.drop (16 * n)).take 16 ++ [1])) * r) % pp
def le16 (v : Nat) : List UInt8 := (List.range 16).map fun k => UInt8.ofNat (v / 256 ^ k)
def tagS (key b : List UInt8) : List UInt8 := le16 (accS (lev (clamp key)) b ((b.length + 15) / 16) + lev ((key.drop 16).take 16))
theorem tagS_len (key b : List UInt8) : (tagS key b).length = 16 := by simp [tagS, le16]
/-- RFC 8439, 2.5.2. -/
theorem tag_rfc : tagS [0x85, 0xd6, 0xbe, 0x78, 0x57, 0x55, 0x6d, 0x33, 0x7f, 0x44, 0x52, 0xfe, 0x42, 0xd5, 0x06, 0xa8, 0x01, 0x03, 0x80, 0x8a, 0xfb, 0x0d, 0xb2, 0xfd, 0x4a, 0xbf, 0xf6, 0xaf, 0x41, 0x49, 0xf5, 0x1b] [67, 114, 121, 112, 116, 111, 103, 114, 97, 112, 104, 105, 99, 32, 70, 111, 114, 117, 109, 32, 82, 101, 115, 101, 97, 114, 99, 104, 32, 71, 114, 111, 117, 112] = [0xa8, 0x06, 0x1d, 0xc1, 0x30, 0x51, 0x36, 0xc6, 0xc2, 0x2b, 0x8b, 0xaf, 0x0c, 0x01, 0x27, 0xa9] := by decide +kernel
end Go.Proofs.Ytooaaacingaapaa.OneM
