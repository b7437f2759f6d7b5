/-
  Several texts in one: OneM, OneC, OneS, OneT, OneK, OneN, OneV, OneU, OneY. What each holds stands at its head. Conditions: in each statement.
-/
import Derived.Test.YtohpgfefdlccmaaKa
import Derived.ProofKit

/-
  Poly1305 as plain mathematics; no program is named here. Conditions: in each statement.
-/
namespace Go.Proofs.Ytohpgfefdlccmaa.OneM

/-- Bytes as a number, the least first. -/
def lev : List UInt8 → Nat
  | [] => 0
  | x :: r => x.toNat + 256 * lev r
theorem lev_lt (l : List UInt8) : lev l < 256 ^ l.length := by
  induction l with
  | nil => simp [lev]
  | cons x r ih =>
    have := x.toNat_lt
    rw [lev, List.length_cons, Nat.pow_succ]
    omega
/-- Bit i of byte k. -/
theorem lev_bit (l : List UInt8) : ∀ (k i : Nat), (h : k < l.length) → i < 8 → lev l / 2 ^ (8 * k + i) % 2 = l[k].toNat / 2 ^ i % 2 := by
  induction l with
  | nil => intro k i h; exact absurd h (by simp)
  | cons x r ih =>
    intro k i h hi
    have hx := x.toNat_lt
    cases k with
    | zero =>
      rw [Nat.mul_zero, Nat.zero_add, lev, List.getElem_cons_zero]
      have e : 256 * lev r = 2 ^ i * (2 * (2 ^ (7 - i) * lev r)) := by
        rw [← Nat.mul_assoc, ← Nat.mul_assoc, Nat.mul_comm (2 ^ i) 2, Nat.mul_assoc 2, ← Nat.pow_add, show i + (7 - i) = 7 by omega]
      rw [e, Nat.add_mul_div_left _ _ (Nat.pow_pos (by decide)), Nat.add_mul_mod_self_left]
    | succ k =>
      rw [List.getElem_cons_succ, lev, show 8 * (k + 1) + i = 8 + (8 * k + i) by omega, Nat.pow_add, ← Nat.div_div_eq_div_mul, show (2 : Nat) ^ 8 = 256 by decide, Nat.add_mul_div_left _ _ (by decide), Nat.div_eq_of_lt hx, Nat.zero_add]
      exact ih k i (by simpa using h) hi

/-- Digits of 13 bits, of the first t bits of v. -/
def digs (v t : Nat) : List Nat := (List.range 11).map fun m => v % 2 ^ t / 2 ^ (13 * m) % 8192
theorem digs_len (v t : Nat) : (digs v t).length = 11 := by simp [digs]
theorem digs_at (v t m : Nat) (h : m < 11) : (digs v t).getD m 0 = v % 2 ^ t / 2 ^ (13 * m) % 8192 := by
  rw [List.getD_eq_getElem?_getD]
  unfold digs
  rw [List.getElem?_map, List.getElem?_range h]
  rfl
theorem digs_zero (v : Nat) : digs v 0 = List.replicate 11 0 := by
  apply List.ext_getElem?
  intro m
  by_cases h : m < 11
  · unfold digs
    rw [List.getElem?_map, List.getElem?_range h, List.getElem?_replicate, if_pos h, Option.map_some, Nat.pow_zero, Nat.mod_one, Nat.zero_div]
  · rw [List.getElem?_eq_none (by rw [digs_len]; omega), List.getElem?_eq_none (by simp; omega)]
theorem mod_succ (v t : Nat) : v % 2 ^ (t + 1) = v % 2 ^ t + v / 2 ^ t % 2 * 2 ^ t := by
  rw [Nat.pow_succ, Nat.mod_mul, Nat.mul_comm (2 ^ t)]
/-- One bit more: of the digit that has it. -/
theorem digit_own (v t : Nat) : v % 2 ^ (t + 1) / 2 ^ (13 * (t / 13)) % 8192 = v % 2 ^ t / 2 ^ (13 * (t / 13)) % 8192 + v / 2 ^ t % 2 * 2 ^ (t % 13) ∧ v % 2 ^ t / 2 ^ (13 * (t / 13)) % 8192 < 2 ^ (t % 13) := by
  have ht : 2 ^ t = 2 ^ (13 * (t / 13)) * 2 ^ (t % 13) := by rw [← Nat.pow_add, show 13 * (t / 13) + t % 13 = t by omega]
  have hu : v % 2 ^ t / 2 ^ (13 * (t / 13)) < 2 ^ (t % 13) := by
    rw [Nat.div_lt_iff_lt_mul (Nat.pow_pos (by decide)), Nat.mul_comm, ← ht]
    exact Nat.mod_lt _ (Nat.pow_pos (by decide))
  have h13 : 2 ^ (t % 13) * 2 ≤ 8192 := by
    rw [← Nat.pow_succ, show (8192 : Nat) = 2 ^ 13 by decide]
    exact Nat.pow_le_pow_right (by decide) (by omega)
  have hb : v / 2 ^ t % 2 < 2 := Nat.mod_lt _ (by decide)
  have hbm : v / 2 ^ t % 2 * 2 ^ (t % 13) ≤ 1 * 2 ^ (t % 13) := Nat.mul_le_mul_right _ (by omega)
  obtain ⟨b, hbe⟩ : ∃ b, v / 2 ^ t % 2 = b := ⟨_, rfl⟩
  rw [hbe] at hbm hb
  rw [mod_succ, hbe]
  have e : v % 2 ^ t + b * 2 ^ t = v % 2 ^ t + 2 ^ (13 * (t / 13)) * (b * 2 ^ (t % 13)) := by
    rw [← Nat.mul_assoc, Nat.mul_comm _ b, Nat.mul_assoc, ← ht]
  rw [e, Nat.add_mul_div_left _ _ (Nat.pow_pos (by decide))]
  rw [Nat.mod_eq_of_lt (show v % 2 ^ t / 2 ^ (13 * (t / 13)) < 8192 by omega), Nat.mod_eq_of_lt (show v % 2 ^ t / 2 ^ (13 * (t / 13)) + b * 2 ^ (t % 13) < 8192 by omega)]
  exact ⟨rfl, hu⟩
/-- .. and of the others. -/
theorem digit_other (v t m : Nat) (h : m ≠ t / 13) : v % 2 ^ (t + 1) / 2 ^ (13 * m) % 8192 = v % 2 ^ t / 2 ^ (13 * m) % 8192 := by
  rw [mod_succ]
  have hb : v / 2 ^ t % 2 < 2 := Nat.mod_lt _ (by decide)
  obtain ⟨b, hbe⟩ : ∃ b, v / 2 ^ t % 2 = b := ⟨_, rfl⟩
  rw [hbe] at hb ⊢
  rcases Nat.lt_or_ge m (t / 13) with hm | hm
  · have ht : 2 ^ t = 2 ^ (13 * m) * (8192 * 2 ^ (t - 13 * m - 13)) := by
      rw [show (8192 : Nat) = 2 ^ 13 by decide, ← Nat.pow_add, ← Nat.pow_add, show 13 * m + (13 + (t - 13 * m - 13)) = t by omega]
    have e : v % 2 ^ t + b * 2 ^ t = v % 2 ^ t + 2 ^ (13 * m) * (8192 * (b * 2 ^ (t - 13 * m - 13))) := by
      congr 1
      rw [ht, Nat.mul_left_comm b, Nat.mul_left_comm b]
    rw [e, Nat.add_mul_div_left _ _ (Nat.pow_pos (by decide)), Nat.add_mul_mod_self_left]
  · have hu : v % 2 ^ t < 2 ^ t := Nat.mod_lt _ (Nat.pow_pos (by decide))
    have hle : 2 ^ (t + 1) ≤ 2 ^ (13 * m) := Nat.pow_le_pow_right (by decide) (by omega)
    have hbm : b * 2 ^ t ≤ 1 * 2 ^ t := Nat.mul_le_mul_right _ (by omega)
    rw [Nat.pow_succ] at hle
    rw [Nat.div_eq_of_lt (show v % 2 ^ t + b * 2 ^ t < 2 ^ (13 * m) by omega), Nat.div_eq_of_lt (show v % 2 ^ t < 2 ^ (13 * m) by omega)]
theorem digs_bit (v t : Nat) (ht : t < 143) (hb : v / 2 ^ t % 2 = 1) : (digs v t).set (t / 13) ((digs v t).getD (t / 13) 0 + 2 ^ (t % 13)) = digs v (t + 1) := by
  have hq : t / 13 < 11 := by omega
  apply List.ext_getElem?
  intro m
  by_cases hm : m < 11
  · have e1 : (digs v (t + 1))[m]? = some (v % 2 ^ (t + 1) / 2 ^ (13 * m) % 8192) := by unfold digs; rw [List.getElem?_map, List.getElem?_range hm]; rfl
    have e0 : (digs v t)[m]? = some (v % 2 ^ t / 2 ^ (13 * m) % 8192) := by unfold digs; rw [List.getElem?_map, List.getElem?_range hm]; rfl
    by_cases h : m = t / 13
    · subst h
      rw [List.getElem?_set_self (by rw [digs_len]; exact hq), e1, (digit_own v t).1, digs_at v t _ hq, hb, Nat.one_mul]
    · rw [List.getElem?_set_ne (fun e => h e.symm), e0, e1, digit_other v t m h]
  · rw [List.getElem?_eq_none (by rw [List.length_set, digs_len]; omega), List.getElem?_eq_none (by rw [digs_len]; omega)]
theorem digs_nobit (v t : Nat) (hb : v / 2 ^ t % 2 = 0) : digs v (t + 1) = digs v t := by
  apply List.ext_getElem?
  intro m
  by_cases hm : m < 11
  · have e1 : (digs v (t + 1))[m]? = some (v % 2 ^ (t + 1) / 2 ^ (13 * m) % 8192) := by unfold digs; rw [List.getElem?_map, List.getElem?_range hm]; rfl
    have e0 : (digs v t)[m]? = some (v % 2 ^ t / 2 ^ (13 * m) % 8192) := by unfold digs; rw [List.getElem?_map, List.getElem?_range hm]; rfl
    rw [e0, e1]
    by_cases h : m = t / 13
    · subst h
      rw [(digit_own v t).1, hb, Nat.zero_mul, Nat.add_zero]
    · rw [digit_other v t m h]
  · rw [List.getElem?_eq_none (by rw [digs_len]; omega), List.getElem?_eq_none (by rw [digs_len]; omega)]
end Go.Proofs.Ytohpgfefdlccmaa.OneM

/-
  Carrying digits of 13 bits, what goes over 2^130 coming in again five times: plain mathematics. Conditions: in each statement.
-/
namespace Go.Proofs.Ytohpgfefdlccmaa.OneM

/-- Digits as a number. -/
def num : List Nat → Nat
  | [] => 0
  | x :: r => x + 8192 * num r
def pp : Nat := 2 ^ 130 - 5
theorem num_set (d : List Nat) : ∀ (k x : Nat), k < d.length → num (d.set k x) + d.getD k 0 * 8192 ^ k = num d + x * 8192 ^ k := by
  induction d with
  | nil => intro k x h; exact absurd h (by simp)
  | cons y r ih =>
    intro k x h
    cases k with
    | zero => simp [num]; omega
    | succ k =>
      have := ih k x (by simpa using h)
      rw [List.set_cons_succ, num, num, List.getD_cons_succ, Nat.pow_succ]
      have e : ∀ z : Nat, z * (8192 ^ k * 8192) = 8192 * (z * 8192 ^ k) := fun z => by rw [← Nat.mul_assoc, Nat.mul_comm]
      rw [e, e]
      omega
theorem sum_set (d : List Nat) : ∀ (k x : Nat), k < d.length → (d.set k x).sum + d.getD k 0 = d.sum + x := by
  induction d with
  | nil => intro k x h; exact absurd h (by simp)
  | cons y r ih =>
    intro k x h
    cases k with
    | zero => simp; omega
    | succ k =>
      have := ih k x (by simpa using h)
      rw [List.set_cons_succ, List.sum_cons, List.sum_cons, List.getD_cons_succ]
      omega
theorem getD_set_ne (d : List Nat) (k m x : Nat) (h : m ≠ k) : (d.set k x).getD m 0 = d.getD m 0 := by
  rw [List.getD_eq_getElem?_getD, List.getElem?_set_ne (fun e => h e.symm), ← List.getD_eq_getElem?_getD]
theorem getD_set_same (d : List Nat) (k x : Nat) (h : k < d.length) : (d.set k x).getD k 0 = x := by
  rw [List.getD_eq_getElem?_getD, List.getElem?_set_self h]
  rfl
/-- One step: of digit k. -/
def stepC (d : List Nat) (k : Nat) : List Nat := if k = 10 then (d.set 10 0).set 0 (d.getD 0 0 + 5 * d.getD 10 0) else (d.set k (d.getD k 0 - d.getD k 0 / 8192 * 8192)).set (k + 1) (d.getD (k + 1) 0 + d.getD k 0 / 8192)
/-- What goes over. -/
def overC (d : List Nat) (k : Nat) : Nat := if k = 10 then d.getD 10 0 else d.getD k 0 / 8192
theorem stepC_len (d : List Nat) (k : Nat) : (stepC d k).length = d.length := by unfold stepC; split <;> simp
theorem stepC_num (d : List Nat) (k : Nat) (hl : d.length = 11) (hk : k < 11) : num (stepC d k) + overC d k * (if k = 10 then pp else 0) = num d := by
  unfold stepC overC
  by_cases h : k = 10
  · rw [if_pos h, if_pos h, if_pos h]
    have h1 := num_set d 10 0 (by omega)
    have h2 := num_set (d.set 10 0) 0 (d.getD 0 0 + 5 * d.getD 10 0) (by simp; omega)
    rw [getD_set_ne d 10 0 0 (by decide)] at h2
    simp only [Nat.pow_zero, Nat.mul_one, Nat.zero_mul, Nat.add_zero] at h1 h2
    have e : (8192 : Nat) ^ 10 = 2 ^ 130 := by decide
    rw [e] at h1
    have hp : pp + 5 = 2 ^ 130 := by decide
    have h3 : d.getD 10 0 * pp + d.getD 10 0 * 5 = d.getD 10 0 * 2 ^ 130 := by rw [← Nat.mul_add, hp]
    omega
  · rw [if_neg h, if_neg h, if_neg h, Nat.mul_zero, Nat.add_zero]
    obtain ⟨o, ho⟩ : ∃ o, d.getD k 0 / 8192 = o := ⟨_, rfl⟩
    rw [ho]
    have h1 := num_set d k (d.getD k 0 - o * 8192) (by omega)
    have h2 := num_set (d.set k (d.getD k 0 - o * 8192)) (k + 1) (d.getD (k + 1) 0 + o) (by simp; omega)
    rw [getD_set_ne d k (k + 1) _ (by omega)] at h2
    have hle : o * 8192 ≤ d.getD k 0 := by omega
    obtain ⟨q, hq⟩ : ∃ q, d.getD k 0 = q + o * 8192 := ⟨d.getD k 0 - o * 8192, by omega⟩
    have e : (8192 : Nat) ^ (k + 1) = 8192 ^ k * 8192 := Nat.pow_succ _ _
    rw [show d.getD k 0 - o * 8192 = q by omega] at h1 h2 ⊢
    rw [hq, Nat.add_mul] at h1
    rw [Nat.add_mul, e] at h2
    have e2 : o * (8192 ^ k * 8192) = o * 8192 * 8192 ^ k := by rw [Nat.mul_assoc, Nat.mul_comm 8192]
    rw [e2] at h2
    omega
theorem stepC_sum (d : List Nat) (k : Nat) (hl : d.length = 11) (hk : k < 11) : (stepC d k).sum + (if k = 10 then 0 else overC d k * 8191) = d.sum + (if k = 10 then 4 * overC d k else 0) := by
  unfold stepC overC
  by_cases h : k = 10
  · simp only [if_pos h]
    have h1 := sum_set d 10 0 (by omega)
    have h2 := sum_set (d.set 10 0) 0 (d.getD 0 0 + 5 * d.getD 10 0) (by simp; omega)
    rw [getD_set_ne d 10 0 0 (by decide)] at h2
    omega
  · simp only [if_neg h]
    have h1 := sum_set d k (d.getD k 0 - d.getD k 0 / 8192 * 8192) (by omega)
    have h2 := sum_set (d.set k (d.getD k 0 - d.getD k 0 / 8192 * 8192)) (k + 1) (d.getD (k + 1) 0 + d.getD k 0 / 8192) (by simp; omega)
    rw [getD_set_ne d k (k + 1) _ (by omega)] at h2
    omega
/-- The measure falls. -/
theorem stepC_less (d : List Nat) (k : Nat) (hl : d.length = 11) (hk : k < 11) (ho : 0 < overC d k) : num (stepC d k) + (stepC d k).sum < num d + d.sum := by
  have h1 := stepC_num d k hl hk
  have h2 := stepC_sum d k hl hk
  by_cases h : k = 10
  · simp only [if_pos h] at h1 h2
    have hp : pp = 4 + (pp - 4) := by decide
    have h3 : overC d k * pp = 4 * overC d k + overC d k * (pp - 4) := by rw [hp, Nat.mul_add, Nat.mul_comm _ 4]; rfl
    have h4 : 0 < overC d k * (pp - 4) := Nat.mul_pos ho (by decide)
    omega
  · simp only [if_neg h] at h1 h2
    omega
theorem stepC_mod (d : List Nat) (k : Nat) (hl : d.length = 11) (hk : k < 11) : num (stepC d k) % pp = num d % pp := by
  have h1 := stepC_num d k hl hk
  by_cases h : k = 10
  · simp only [if_pos h] at h1
    rw [← h1, Nat.add_mul_mod_self_right]
  · simp only [if_neg h] at h1
    rw [← h1, Nat.mul_zero, Nat.add_zero]
/-- What holds of the digits at the start of a pass. -/
def StartC (d : List Nat) : Prop := d.length = 11 ∧ (∀ m, m < 11 → d.getD m 0 < 2 ^ 44) ∧ d.getD 10 0 < 2 ^ 40
/-- .. and ahead of digit k. -/
def AtC (d : List Nat) (k : Nat) : Prop := d.length = 11 ∧ (∀ m, m < k → d.getD m 0 < 8192) ∧ d.getD k 0 < 2 ^ 44 + 2 ^ 32 ∧ (∀ m, k < m → m < 11 → d.getD m 0 < 2 ^ 44) ∧ d.getD 10 0 < 2 ^ 40 + 2 ^ 32 ∧ (k < 10 → d.getD 10 0 < 2 ^ 40)
theorem StartC.at_ {d : List Nat} (h : StartC d) : AtC d 0 := by
  obtain ⟨h1, h2, h3⟩ := h
  have := h2 0 (by decide)
  exact ⟨h1, fun m hm => by omega, by omega, fun m _ hm => h2 m hm, by omega, fun _ => h3⟩
theorem AtC.step {d : List Nat} {k : Nat} (h : AtC d k) (hk : k < 10) : AtC (stepC d k) (k + 1) := by
  obtain ⟨h1, h2, h3, h4, h5, h6⟩ := h
  have h6' := h6 hk
  refine ⟨by rw [stepC_len]; exact h1, ?_, ?_, ?_, ?_, ?_⟩
  · intro m hm
    unfold stepC
    rw [if_neg (by omega)]
    by_cases e : m = k
    · subst e
      rw [getD_set_ne _ _ _ _ (by omega), getD_set_same _ _ _ (by omega)]
      omega
    · rw [getD_set_ne _ _ _ _ (by omega), getD_set_ne _ _ _ _ e]
      exact h2 m (by omega)
  · unfold stepC
    rw [if_neg (by omega), getD_set_same _ _ _ (by simp; omega)]
    have := h4 (k + 1) (by omega) (by omega)
    omega
  · intro m hm hm11
    unfold stepC
    rw [if_neg (by omega), getD_set_ne _ _ _ _ (by omega), getD_set_ne _ _ _ _ (by omega)]
    exact h4 m (by omega) hm11
  · unfold stepC
    rw [if_neg (by omega)]
    by_cases e : k + 1 = 10
    · rw [e, getD_set_same _ _ _ (by simp; omega)]
      omega
    · rw [getD_set_ne _ _ _ _ (by omega), getD_set_ne _ _ _ _ (by omega)]
      exact h5
  · intro hk1
    unfold stepC
    rw [if_neg (by omega), getD_set_ne _ _ _ _ (by omega), getD_set_ne _ _ _ _ (by omega)]
    exact h6'
theorem AtC.skip {d : List Nat} {k : Nat} (h : AtC d k) (hk : k < 10) (ho : overC d k = 0) : AtC d (k + 1) := by
  obtain ⟨h1, h2, h3, h4, h5, h6⟩ := h
  unfold overC at ho
  rw [if_neg (by omega)] at ho
  refine ⟨h1, fun m hm => ?_, ?_, fun m hm => h4 m (by omega), h5, fun h => h6 (by omega)⟩
  · by_cases e : m = k
    · subst e; omega
    · exact h2 m (by omega)
  · have := h4 (k + 1) (by omega) (by omega)
    omega
theorem AtC.last {d : List Nat} (h : AtC d 10) : StartC (stepC d 10) := by
  obtain ⟨h1, h2, h3, h4, h5, h6⟩ := h
  have h0 := h2 0 (by decide)
  refine ⟨by rw [stepC_len]; exact h1, fun m hm => ?_, ?_⟩
  · unfold stepC
    rw [if_pos rfl]
    by_cases e : m = 0
    · subst e
      rw [getD_set_same _ _ _ (by simp; omega)]
      omega
    · rw [getD_set_ne _ _ _ _ e]
      by_cases e2 : m = 10
      · subst e2
        rw [getD_set_same _ _ _ (by omega)]
        decide
      · rw [getD_set_ne _ _ _ _ e2]
        have := h2 m (by omega)
        omega
  · unfold stepC
    rw [if_pos rfl, getD_set_ne _ _ _ _ (by decide), getD_set_same _ _ _ (by omega)]
    decide
theorem AtC.last_skip {d : List Nat} (h : AtC d 10) (ho : overC d 10 = 0) : StartC d := by
  obtain ⟨h1, h2, h3, h4, h5, h6⟩ := h
  unfold overC at ho
  rw [if_pos rfl] at ho
  refine ⟨h1, fun m hm => ?_, by omega⟩
  by_cases e : m = 10
  · subst e; omega
  · have := h2 m (by omega)
    omega
/-- Carried through. -/
def DoneC (d : List Nat) : Prop := d.length = 11 ∧ (∀ m, m < 10 → d.getD m 0 < 8192) ∧ d.getD 10 0 = 0
theorem done_of {d : List Nat} (hl : d.length = 11) (h : ∀ m, m < 11 → overC d m = 0) : DoneC d := by
  refine ⟨hl, fun m hm => ?_, ?_⟩
  · have := h m (by omega)
    unfold overC at this
    rw [if_neg (by omega)] at this
    omega
  · have := h 10 (by decide)
    unfold overC at this
    rw [if_pos rfl] at this
    exact this
end Go.Proofs.Ytohpgfefdlccmaa.OneM

/-
  Poly1305: products of digits, the tag, as plain mathematics. Conditions: in each statement.
-/
namespace Go.Proofs.Ytohpgfefdlccmaa.OneM

theorem num_take (d : List Nat) : ∀ k, k < d.length → num (d.take (k + 1)) = num (d.take k) + d.getD k 0 * 8192 ^ k := by
  induction d with
  | nil => intro k h; exact absurd h (by simp)
  | cons y r ih =>
    intro k h
    cases k with
    | zero => simp [num]
    | succ k =>
      have := ih k (by simpa using h)
      rw [List.take_succ_cons, List.take_succ_cons, num, num, this, List.getD_cons_succ, Nat.pow_succ, Nat.mul_add]
      have e : r.getD k 0 * (8192 ^ k * 8192) = 8192 * (r.getD k 0 * 8192 ^ k) := by rw [← Nat.mul_assoc, Nat.mul_comm]
      rw [e]
      omega
theorem num_all (d : List Nat) (k : Nat) (h : d.length ≤ k) : num (d.take k) = num d := by rw [List.take_of_length_le h]
theorem num_ten (d : List Nat) (hl : d.length = 11) (h10 : d.getD 10 0 = 0) : num (d.take 10) = num d := by
  have h := num_take d 10 (by omega)
  rw [num_all d 11 (by omega), h10] at h
  omega
/-- 2^130 counts five. -/
theorem wrap_five (z m : Nat) : (5 * z * 8192 ^ m) % pp = (z * 8192 ^ (m + 10)) % pp := by
  have e : (8192 : Nat) ^ 10 = pp + 5 := by decide
  rw [Nat.pow_add, e, ← Nat.mul_assoc, Nat.mul_add, Nat.mul_comm (z * 8192 ^ m) pp, Nat.mul_add_mod, Nat.mul_comm (z * 8192 ^ m) 5, ← Nat.mul_assoc]
/-- One product is added. -/
def prodS (nx y x : List Nat) (i j : Nat) : List Nat := if i + j < 10 then nx.set (i + j) (nx.getD (i + j) 0 + y.getD i 0 * x.getD j 0) else nx.set (i + j - 10) (nx.getD (i + j - 10) 0 + 5 * y.getD i 0 * x.getD j 0)
theorem prodS_len (nx y x : List Nat) (i j : Nat) : (prodS nx y x i j).length = nx.length := by unfold prodS; split <;> simp
theorem prodS_num (nx y x : List Nat) (i j : Nat) (hl : nx.length = 11) (hi : i < 10) (hj : j < 10) : num (prodS nx y x i j) % pp = (num nx + y.getD i 0 * x.getD j 0 * 8192 ^ (i + j)) % pp := by
  unfold prodS
  by_cases h : i + j < 10
  · rw [if_pos h]
    have h1 := num_set nx (i + j) (nx.getD (i + j) 0 + y.getD i 0 * x.getD j 0) (by omega)
    rw [Nat.add_mul] at h1
    congr 1
    omega
  · rw [if_neg h]
    have h1 := num_set nx (i + j - 10) (nx.getD (i + j - 10) 0 + 5 * y.getD i 0 * x.getD j 0) (by omega)
    rw [Nat.add_mul] at h1
    have h2 : num (nx.set (i + j - 10) (nx.getD (i + j - 10) 0 + 5 * y.getD i 0 * x.getD j 0)) = num nx + 5 * (y.getD i 0 * x.getD j 0) * 8192 ^ (i + j - 10) := by
      rw [Nat.mul_assoc 5] at h1 ⊢
      omega
    rw [h2, Nat.add_mod, wrap_five, show i + j - 10 + 10 = i + j by omega, ← Nat.add_mod]
/-- No product is more. -/
def cc : Nat := 335462405
/-- The cells stay small. -/
def Small (nx : List Nat) (n : Nat) : Prop := nx.length = 11 ∧ (∀ m, m < 11 → nx.getD m 0 ≤ n * cc) ∧ nx.getD 10 0 = 0
theorem small_step (nx y x : List Nat) (i j n : Nat) (h : Small nx n) (hi : i < 10) (hj : j < 10) (hy : y.getD i 0 < 8192) (hx : x.getD j 0 < 8192) : Small (prodS nx y x i j) (n + 1) := by
  obtain ⟨h1, h2, h3⟩ := h
  have hm : y.getD i 0 * x.getD j 0 ≤ 8191 * 8191 := Nat.mul_le_mul (by omega) (by omega)
  have hm5 : 5 * y.getD i 0 * x.getD j 0 ≤ cc := by
    rw [Nat.mul_assoc]
    unfold cc
    omega
  have hm1 : y.getD i 0 * x.getD j 0 ≤ cc := by unfold cc; omega
  have hs : (n + 1) * cc = n * cc + cc := Nat.succ_mul n cc
  refine ⟨by rw [prodS_len]; exact h1, fun m hm11 => ?_, ?_⟩
  · have h4 := h2 m hm11
    rw [hs]
    unfold prodS
    split
    · by_cases e : m = i + j
      · subst e
        rw [getD_set_same _ _ _ (by omega)]
        exact Nat.add_le_add h4 hm1
      · rw [getD_set_ne _ _ _ _ e]
        exact Nat.le_trans h4 (Nat.le_add_right _ _)
    · by_cases e : m = i + j - 10
      · subst e
        rw [getD_set_same _ _ _ (by omega)]
        exact Nat.add_le_add h4 hm5
      · rw [getD_set_ne _ _ _ _ e]
        exact Nat.le_trans h4 (Nat.le_add_right _ _)
  · unfold prodS
    split
    · rw [getD_set_ne _ _ _ _ (by omega)]
      exact h3
    · rw [getD_set_ne _ _ _ _ (by omega)]
      exact h3
theorem Small.start {nx : List Nat} {n : Nat} (h : Small nx n) (hn : n ≤ 100) : StartC nx := by
  obtain ⟨h1, h2, h3⟩ := h
  refine ⟨h1, fun m hm => ?_, by rw [h3]; decide⟩
  have h4 := h2 m hm
  have h5 : n * cc ≤ 100 * cc := Nat.mul_le_mul_right _ hn
  have h6 : 100 * cc < 2 ^ 44 := by decide
  omega
/-- What the first i digits of y, and of digit i the first j of x, make. -/
def madeS (y x : List Nat) (i j : Nat) : Nat := num (y.take i) * num (x.take 10) + y.getD i 0 * 8192 ^ i * num (x.take j)
theorem madeS_step (y x : List Nat) (i j : Nat) (hx : x.length = 11) (hj : j < 10) : madeS y x i (j + 1) = madeS y x i j + y.getD i 0 * x.getD j 0 * 8192 ^ (i + j) := by
  unfold madeS
  rw [num_take x j (by omega), Nat.mul_add, Nat.pow_add]
  have e : y.getD i 0 * 8192 ^ i * (x.getD j 0 * 8192 ^ j) = y.getD i 0 * x.getD j 0 * (8192 ^ i * 8192 ^ j) := by
    rw [Nat.mul_assoc, Nat.mul_left_comm (8192 ^ i), ← Nat.mul_assoc]
  rw [e]
  omega
theorem madeS_row (y x : List Nat) (i : Nat) (hy : y.length = 11) (hi : i < 10) : madeS y x i 10 = madeS y x (i + 1) 0 := by
  unfold madeS
  rw [num_take y i (by omega), Nat.add_mul, List.take_zero, show num ([] : List Nat) = 0 from rfl, Nat.mul_zero, Nat.add_zero]
theorem madeS_zero (y x : List Nat) : madeS y x 0 0 = 0 := by
  unfold madeS
  rw [List.take_zero, List.take_zero, show num ([] : List Nat) = 0 from rfl]
  simp
theorem madeS_all (y x : List Nat) (hy : DoneC y) (hx : DoneC x) : madeS y x 10 0 = num y * num x := by
  unfold madeS
  rw [num_ten y hy.1 hy.2.2, num_ten x hx.1 hx.2.2, List.take_zero, show num ([] : List Nat) = 0 from rfl, Nat.mul_zero, Nat.add_zero]
end Go.Proofs.Ytohpgfefdlccmaa.OneM

/-
  Poly1305: the last reduction, bits of digits, the sum byte by byte, the tag: plain mathematics. Conditions: in each statement.
-/
namespace Go.Proofs.Ytohpgfefdlccmaa.OneM

theorem num_small (d : List Nat) : ∀ k, k ≤ d.length → (∀ m, m < k → d.getD m 0 < 8192) → num (d.take k) < 8192 ^ k := by
  induction d with
  | nil => intro k h _; obtain rfl : k = 0 := by simpa using h
           simp [num]
  | cons y r ih =>
    intro k h hm
    cases k with
    | zero => simp [num]
    | succ k =>
      have h0 := hm 0 (by omega)
      rw [List.getD_cons_zero] at h0
      have h1 := ih k (by simpa using h) (fun m hmk => by have := hm (m + 1) (by omega); rwa [List.getD_cons_succ] at this)
      rw [List.take_succ_cons, num, Nat.pow_succ]
      omega
theorem done_lt {a : List Nat} (h : DoneC a) : num a < 2 ^ 130 := by
  have h1 := num_small a 10 (by have := h.1; omega) h.2.1
  rw [num_ten a h.1 h.2.2] at h1
  have e : (8192 : Nat) ^ 10 = 2 ^ 130 := by decide
  omega
/-- Less 2^130 - 5, if it is no less. -/
def lastS (a c : List Nat) : List Nat := if 0 < c.getD 10 0 then c.take 10 ++ [0] else a
theorem lastS_num (a c : List Nat) (ha : DoneC a) (hl : c.length = 11) (hc : ∀ m, m < 10 → c.getD m 0 < 8192) (hn : num c = num a + 5) : num (lastS a c) = num a % pp ∧ DoneC (lastS a c) := by
  have h1 := done_lt ha
  have h2 := num_small c 10 (by omega) hc
  have h3 := num_take c 10 (by omega)
  rw [num_all c 11 (by omega)] at h3
  have e : (8192 : Nat) ^ 10 = 2 ^ 130 := by decide
  rw [e] at h2 h3
  have hp : pp + 5 = 2 ^ 130 := by decide
  unfold lastS
  by_cases h : 0 < c.getD 10 0
  · rw [if_pos h]
    have hz : num (c.take 10 ++ [0]) = num (c.take 10) := by
      have hl2 : (c.take 10 ++ [0]).length = 11 := by simp; omega
      have h4 := num_ten (c.take 10 ++ [0]) hl2 (by rw [List.getD_eq_getElem?_getD, List.getElem?_append_right (by simp; omega)]; simp; rw [Nat.min_eq_left (by omega)]; rfl)
      rw [List.take_append_of_le_length (by simp; omega), List.take_take, Nat.min_self] at h4
      exact h4.symm
    obtain ⟨t, ht⟩ : ∃ t, c.getD 10 0 = t := ⟨_, rfl⟩
    rw [ht] at h3 h
    have ht1 : t = 1 := by
      rcases Nat.lt_or_ge t 2 with h5 | h5
      · omega
      · have : 2 * 2 ^ 130 ≤ t * 2 ^ 130 := Nat.mul_le_mul_right _ h5
        omega
    subst ht1
    refine ⟨?_, by simp; omega, fun m hm => ?_, ?_⟩
    · rw [hz, Nat.mod_eq_sub_mod (by omega), Nat.mod_eq_of_lt (by omega)]
      omega
    · rw [List.getD_eq_getElem?_getD, List.getElem?_append_left (by simp; omega), List.getElem?_take, if_pos hm, ← List.getD_eq_getElem?_getD]
      exact hc m hm
    · rw [List.getD_eq_getElem?_getD, List.getElem?_append_right (by simp; omega)]
      simp
      rw [Nat.min_eq_left (by omega)]
      rfl
  · rw [if_neg h]
    have ht : c.getD 10 0 = 0 := by omega
    rw [ht, Nat.zero_mul] at h3
    exact ⟨(Nat.mod_eq_of_lt (by omega)).symm, ha⟩
/-- Bit t of a number in digits. -/
theorem num_bit (d : List Nat) : ∀ (t : Nat), (∀ m, m ≤ t / 13 → d.getD m 0 < 8192) → num d / 2 ^ t % 2 = d.getD (t / 13) 0 / 2 ^ (t % 13) % 2 := by
  induction d with
  | nil => intro t _; simp [num]
  | cons y r ih =>
    intro t hm
    have hy := hm 0 (Nat.zero_le _)
    rw [List.getD_cons_zero] at hy
    rcases Nat.lt_or_ge t 13 with h | h
    · rw [show t / 13 = 0 by omega, show t % 13 = t by omega, List.getD_cons_zero, num]
      have e : 8192 * num r = 2 ^ t * (2 * (2 ^ (12 - t) * num r)) := by
        rw [← Nat.mul_assoc, ← Nat.mul_assoc, Nat.mul_comm (2 ^ t) 2, Nat.mul_assoc 2, ← Nat.pow_add, show t + (12 - t) = 12 by omega]
      rw [e, Nat.add_mul_div_left _ _ (Nat.pow_pos (by decide)), Nat.add_mul_mod_self_left]
    · obtain ⟨s, rfl⟩ : ∃ s, t = 13 + s := ⟨t - 13, by omega⟩
      rw [show (13 + s) / 13 = s / 13 + 1 by omega, show (13 + s) % 13 = s % 13 by omega, List.getD_cons_succ, num, Nat.pow_add, ← Nat.div_div_eq_div_mul, show (2 : Nat) ^ 13 = 8192 by decide, Nat.add_mul_div_left _ _ (by decide), Nat.div_eq_of_lt hy, Nat.zero_add]
      exact ih s (fun m hms => by have := hm (m + 1) (by omega); rwa [List.getD_cons_succ] at this)
/-- A sum, byte by byte: the carry into byte k. -/
def carryS (X Y k : Nat) : Nat := (X % 256 ^ k + Y % 256 ^ k) / 256 ^ k
theorem carry_step (X Y k : Nat) : (carryS X Y k + Y / 256 ^ k % 256 + X / 256 ^ k % 256) % 256 = (X + Y) / 256 ^ k % 256 ∧ (carryS X Y k + Y / 256 ^ k % 256 + X / 256 ^ k % 256) / 256 = carryS X Y (k + 1) := by
  unfold carryS
  obtain ⟨P, hP⟩ : ∃ P, 256 ^ k = P := ⟨_, rfl⟩
  have hp : 0 < P := by rw [← hP]; exact Nat.pow_pos (by decide)
  have hx : X % (P * 256) = X % P + P * (X / P % 256) := Nat.mod_mul
  have hy : Y % (P * 256) = Y % P + P * (Y / P % 256) := Nat.mod_mul
  rw [Nat.pow_succ, hP, hx, hy]
  have hdx := Nat.div_add_mod X P
  have hdy := Nat.div_add_mod Y P
  obtain ⟨x0, h1⟩ : ∃ z, X % P = z := ⟨_, rfl⟩
  obtain ⟨y0, h2⟩ : ∃ z, Y % P = z := ⟨_, rfl⟩
  obtain ⟨x1, h3⟩ : ∃ z, X / P = z := ⟨_, rfl⟩
  obtain ⟨y1, h4⟩ : ∃ z, Y / P = z := ⟨_, rfl⟩
  rw [h1, h3] at hdx
  rw [h2, h4] at hdy
  rw [h1, h2, h3, h4]
  constructor
  · have e : (X + Y) / P = (x0 + y0) / P + (x1 + y1) := by
      rw [← hdx, ← hdy, show P * x1 + x0 + (P * y1 + y0) = x0 + y0 + P * (x1 + y1) by rw [Nat.mul_add]; omega, Nat.add_mul_div_left _ _ hp]
    rw [e]
    omega
  · rw [show x0 + P * (x1 % 256) + (y0 + P * (y1 % 256)) = x0 + y0 + P * (x1 % 256 + y1 % 256) by rw [Nat.mul_add]; omega, ← Nat.div_div_eq_div_mul, Nat.add_mul_div_left _ _ hp]
    congr 1
    omega

/-- The first half of a key, some bits of it cleared. -/
def clamp (key : List UInt8) : List UInt8 := (List.range 16).map fun k => if k % 4 = 3 then UInt8.ofNat ((key.getD k 0).toNat % 16) else if k % 4 = 0 ∧ k ≠ 0 then UInt8.ofNat ((key.getD k 0).toNat / 4 * 4) else key.getD k 0
/-- The accumulator behind n blocks. -/
def accS (r : Nat) (b : List UInt8) : Nat → Nat
  | 0 => 0
  | n + 1 => ((accS r b n + lev ((b.drop (16 * n)).take 16 ++ [1])) * r) % pp
def le16 (v : Nat) : List UInt8 := (List.range 16).map fun k => UInt8.ofNat (v / 256 ^ k)
def tagS (key b : List UInt8) : List UInt8 := le16 (accS (lev (clamp key)) b ((b.length + 15) / 16) + lev ((key.drop 16).take 16))
theorem tagS_len (key b : List UInt8) : (tagS key b).length = 16 := by simp [tagS, le16]
/-- RFC 8439, 2.5.2. -/
theorem tag_rfc : tagS [0x85, 0xd6, 0xbe, 0x78, 0x57, 0x55, 0x6d, 0x33, 0x7f, 0x44, 0x52, 0xfe, 0x42, 0xd5, 0x06, 0xa8, 0x01, 0x03, 0x80, 0x8a, 0xfb, 0x0d, 0xb2, 0xfd, 0x4a, 0xbf, 0xf6, 0xaf, 0x41, 0x49, 0xf5, 0x1b] [67, 114, 121, 112, 116, 111, 103, 114, 97, 112, 104, 105, 99, 32, 70, 111, 114, 117, 109, 32, 82, 101, 115, 101, 97, 114, 99, 104, 32, 71, 114, 111, 117, 112] = [0xa8, 0x06, 0x1d, 0xc1, 0x30, 0x51, 0x36, 0xc6, 0xc2, 0x2b, 0x8b, 0xaf, 0x0c, 0x01, 0x27, 0xa9] := by decide +kernel
end Go.Proofs.Ytohpgfefdlccmaa.OneM

/-
  What holds of the tag: the second half is added, noughts, bits that do not count: plain mathematics. Conditions: in each statement.
-/
namespace Go.Proofs.Ytohpgfefdlccmaa.OneM

theorem le_len (v : Nat) : (le16 v).length = 16 := by simp [le16]
theorem lev_append (a b : List UInt8) : lev (a ++ b) = lev a + 256 ^ a.length * lev b := by
  induction a with
  | nil => simp [lev]
  | cons x r ih =>
    rw [List.cons_append, lev, lev, ih, List.length_cons, Nat.pow_succ, Nat.mul_add, Nat.mul_comm (256 ^ r.length) 256, Nat.mul_assoc]
    omega
theorem lev_zeros (n : Nat) : lev (List.replicate n 0) = 0 := by
  induction n with
  | zero => rfl
  | succ n ih => rw [List.replicate_succ, lev, ih]; rfl
/-- Byte k of a number. -/
theorem lev_byte (l : List UInt8) : ∀ k, (h : k < l.length) → lev l / 256 ^ k % 256 = l[k].toNat := by
  induction l with
  | nil => intro k h; exact absurd h (by simp)
  | cons x r ih =>
    intro k h
    have hx := x.toNat_lt
    cases k with
    | zero => rw [lev, Nat.pow_zero, Nat.div_one, List.getElem_cons_zero]; omega
    | succ k =>
      rw [List.getElem_cons_succ, lev, Nat.pow_succ, Nat.mul_comm (256 ^ k) 256, ← Nat.div_div_eq_div_mul, Nat.add_mul_div_left _ _ (by decide), Nat.div_eq_of_lt (show x.toNat < 256 from x.toNat_lt), Nat.zero_add]
      exact ih k (by simpa using h)
theorem le_lev (l : List UInt8) (h : l.length = 16) : le16 (lev l) = l := by
  apply List.ext_getElem?
  intro k
  by_cases hk : k < 16
  · unfold le16
    rw [List.getElem?_map, List.getElem?_range hk, Option.map_some, List.getElem?_eq_getElem (by omega)]
    congr 1
    apply UInt8.toNat.inj
    rw [UInt8.toNat_ofNat', ← lev_byte l k (by omega)]
  · rw [List.getElem?_eq_none (by rw [le_len]; omega), List.getElem?_eq_none (by omega)]
theorem le_mod (v : Nat) : le16 (v % 2 ^ 128) = le16 v := by
  unfold le16
  apply List.map_congr_left
  intro k hk
  have hk16 : k < 16 := List.mem_range.1 hk
  apply UInt8.toNat.inj
  rw [UInt8.toNat_ofNat', UInt8.toNat_ofNat']
  have e : (2 : Nat) ^ 128 = 256 ^ k * (256 * 256 ^ (15 - k)) := by
    rw [← Nat.mul_assoc, ← Nat.pow_succ, ← Nat.pow_add, show k.succ + (15 - k) = 16 by omega]
  rw [e, Nat.mod_mul_right_div_self, show (2 : Nat) ^ 8 = 256 by decide, Nat.mod_mul_right_mod]
theorem lev_le (v : Nat) : lev (le16 v) = v % 2 ^ 128 := by
  have h1 : le16 (lev (le16 v)) = le16 (v % 2 ^ 128) := by rw [le_lev _ (le_len v), le_mod]
  have h2 := lev_lt (le16 v)
  rw [le_len] at h2
  have e : (256 : Nat) ^ 16 = 2 ^ 128 := by decide
  rw [e] at h2
  have hv : v % 2 ^ 128 < 2 ^ 128 := Nat.mod_lt _ (by decide)
  have step : ∀ (n a b : Nat), n ≤ 16 → le16 a = le16 b → a % 256 ^ n = b % 256 ^ n := by
    intro n
    induction n with
    | zero => intro a b _ _; rw [Nat.pow_zero, Nat.mod_one, Nat.mod_one]
    | succ n ih =>
      intro a b hn hab
      have h3 := ih a b (by omega) hab
      have h4 : (le16 a)[n]? = (le16 b)[n]? := by rw [hab]
      unfold le16 at h4
      rw [List.getElem?_map, List.getElem?_map, List.getElem?_range (by omega)] at h4
      have h5 := congrArg UInt8.toNat (Option.some.inj h4)
      rw [UInt8.toNat_ofNat', UInt8.toNat_ofNat', show (2 : Nat) ^ 8 = 256 by decide] at h5
      rw [Nat.pow_succ, Nat.mod_mul, Nat.mod_mul, h3, h5]
  have h6 := step 16 _ _ (Nat.le_refl _) h1
  rw [e, Nat.mod_eq_of_lt h2, Nat.mod_eq_of_lt hv] at h6
  exact h6

/-- One more, with what carries. -/
def incL : List UInt8 → List UInt8
  | [] => []
  | x :: r => if x + 1 ≠ 0 then (x + 1) :: r else 0 :: incL r
theorem incL_len (l : List UInt8) : (incL l).length = l.length := by
  induction l with
  | nil => rfl
  | cons x r ih =>
    unfold incL
    split
    · simp
    · simp [ih]
theorem incL_lev (l : List UInt8) : lev (incL l) = (lev l + 1) % 256 ^ l.length := by
  induction l with
  | nil => rfl
  | cons x r ih =>
    have hx := x.toNat_lt
    have hr := lev_lt r
    unfold incL
    by_cases h : x + 1 ≠ 0
    · rw [if_pos h, lev, lev, List.length_cons, Nat.pow_succ]
      have h1 : (x + 1).toNat = x.toNat + 1 := by
        rw [UInt8.toNat_add, show (1 : UInt8).toNat = 1 from rfl]
        apply Nat.mod_eq_of_lt
        rcases Nat.lt_or_ge (x.toNat + 1) 256 with h2 | h2
        · exact h2
        · exfalso
          apply h
          apply UInt8.toNat.inj
          rw [UInt8.toNat_add, show (1 : UInt8).toNat = 1 from rfl, show (0 : UInt8).toNat = 0 from rfl]
          omega
      have h2 := (x + 1).toNat_lt
      rw [h1] at h2 ⊢
      rw [Nat.mod_eq_of_lt (by omega)]
      omega
    · rw [if_neg h, lev, lev, ih, List.length_cons, Nat.pow_succ]
      have h0 : x + 1 = 0 := by simpa using h
      have h1 := congrArg UInt8.toNat h0
      rw [UInt8.toNat_add, show (1 : UInt8).toNat = 1 from rfl, show (0 : UInt8).toNat = 0 from rfl] at h1
      have h2 : x.toNat = 255 := by omega
      rw [h2, show (0 : UInt8).toNat = 0 from rfl, show 255 + 256 * lev r + 1 = 256 * (lev r + 1) by omega, Nat.mul_comm (256 ^ r.length) 256, Nat.mul_mod_mul_left]
      omega
theorem incL_le (v : Nat) : incL (le16 v) = le16 (v + 1) := by
  have h1 := incL_lev (le16 v)
  rw [le_len, lev_le, show (256 : Nat) ^ 16 = 2 ^ 128 by decide, Nat.mod_add_mod] at h1
  have h2 := le_lev (incL (le16 v)) (by rw [incL_len, le_len])
  rw [h1, le_mod] at h2
  exact h2.symm
/-- The second half of a key is only added. -/
theorem tag_shift (key b : List UInt8) (h : key.length = 32) : tagS (key.take 16 ++ incL (key.drop 16)) b = incL (tagS key b) := by
  have hd : (key.drop 16).length = 16 := by rw [List.length_drop]; omega
  have ht : (key.take 16).length = 16 := by rw [List.length_take]; omega
  have h1 : clamp (key.take 16 ++ incL (key.drop 16)) = clamp key := by
    unfold clamp
    apply List.map_congr_left
    intro k hk
    have hk16 : k < 16 := List.mem_range.1 hk
    have e : (key.take 16 ++ incL (key.drop 16)).getD k 0 = key.getD k 0 := by
      rw [List.getD_eq_getElem?_getD, List.getElem?_append_left (by omega), List.getElem?_take, if_pos hk16, ← List.getD_eq_getElem?_getD]
    rw [e]
  have h2 : ((key.take 16 ++ incL (key.drop 16)).drop 16).take 16 = incL (key.drop 16) := by
    rw [List.drop_append, ht, List.drop_of_length_le (by omega), List.nil_append, Nat.sub_self, List.drop_zero, List.take_of_length_le (by rw [incL_len]; omega)]
  unfold tagS
  rw [h1, h2, incL_le, incL_lev, hd, List.take_of_length_le (by omega), show (256 : Nat) ^ 16 = 2 ^ 128 by decide, ← le_mod, Nat.add_mod_mod, le_mod, Nat.add_assoc]
/-- Of nothing. -/
theorem tag_none (key : List UInt8) (h : key.length = 32) : tagS key [] = key.drop 16 := by
  have hd : (key.drop 16).length = 16 := by rw [List.length_drop]; omega
  unfold tagS
  rw [show (([] : List UInt8).length + 15) / 16 = 0 from rfl, accS, Nat.zero_add, List.take_of_length_le (by omega), le_lev _ hd]
theorem accS_zero (b : List UInt8) (n : Nat) : accS 0 b n = 0 := by
  cases n with
  | zero => rfl
  | succ n => rw [accS, Nat.mul_zero, Nat.zero_mod]
/-- By a first half of noughts. -/
theorem tag_zero (key b : List UInt8) (h : key.length = 32) : tagS (List.replicate 16 0 ++ key.drop 16) b = key.drop 16 := by
  have hd : (key.drop 16).length = 16 := by rw [List.length_drop]; omega
  have h1 : clamp (List.replicate 16 0 ++ key.drop 16) = List.replicate 16 0 := by
    apply List.ext_getElem?
    intro k
    by_cases hk : k < 16
    · unfold clamp
      have e : (List.replicate 16 (0 : UInt8) ++ key.drop 16).getD k 0 = 0 := by
        rw [List.getD_eq_getElem?_getD, List.getElem?_append_left (by simpa using hk), List.getElem?_replicate, if_pos hk]
        rfl
      rw [List.getElem?_map, List.getElem?_range hk, Option.map_some, e, List.getElem?_replicate, if_pos hk]
      congr 1
      split
      · rfl
      · split
        · rfl
        · rfl
    · rw [List.getElem?_eq_none (by simp [clamp]; omega), List.getElem?_eq_none (by simp; omega)]
  unfold tagS
  rw [h1, lev_zeros, accS_zero, Nat.zero_add, List.drop_append, List.length_replicate, List.drop_of_length_le (by simp), List.nil_append, Nat.sub_self, List.drop_zero, List.take_of_length_le (by omega), le_lev _ hd]
theorem nib (y x : UInt8) : ((y ^^^ (x &&& 0xf0)).toNat % 16) = y.toNat % 16 := by
  have h : ∀ z : UInt8, z.toNat % 16 = (z &&& 15).toNat := fun z => by
    rw [UInt8.toNat_and, show (15 : UInt8).toNat = 2 ^ 4 - 1 from rfl, Nat.and_two_pow_sub_one_eq_mod]
  rw [h, h]
  congr 1
  rw [UInt8.and_comm _ 15, UInt8.and_comm y 15]
  apply UInt8.toNat.inj
  apply Nat.eq_of_testBit_eq
  intro i
  simp only [UInt8.toNat_and, UInt8.toNat_xor, Nat.testBit_and, Nat.testBit_xor]
  have h2 : ((15 : UInt8).toNat.testBit i && (0xf0 : UInt8).toNat.testBit i) = false := by
    rw [← Nat.testBit_and]
    show (15 &&& 240 : Nat).testBit i = false
    rw [show (15 &&& 240 : Nat) = 0 by decide]
    simp
  cases h3 : (15 : UInt8).toNat.testBit i <;> cases h4 : (0xf0 : UInt8).toNat.testBit i <;> simp_all
theorem low2 (y x : UInt8) : ((y ^^^ (x &&& 3)).toNat / 4 * 4) = y.toNat / 4 * 4 := by
  congr 1
  apply Nat.eq_of_testBit_eq
  intro i
  rw [show (4 : Nat) = 2 ^ 2 by decide, Nat.testBit_div_two_pow, Nat.testBit_div_two_pow, UInt8.toNat_xor, UInt8.toNat_and, Nat.testBit_xor, Nat.testBit_and]
  have h2 : (3 : UInt8).toNat.testBit (i + 2) = false := by
    show (3 : Nat).testBit (i + 2) = false
    rw [show (3 : Nat) = 2 ^ 2 - 1 by decide, Nat.testBit_two_pow_sub_one]
    simp
  rw [h2]
  simp
/-- Bits of a key that do not count. -/
theorem tag_clamp (key b : List UInt8) (at_ : Nat) (z : UInt8) (h : key.length = 32) (h1 : 1 ≤ at_) (h2 : at_ ≤ 15) (hz : (at_ % 4 = 3 ∧ z.toNat % 16 = (key.getD at_ 0).toNat % 16) ∨ (at_ % 4 = 0 ∧ z.toNat / 4 * 4 = (key.getD at_ 0).toNat / 4 * 4)) : tagS (key.set at_ z) b = tagS key b := by
  have hc : clamp (key.set at_ z) = clamp key := by
    unfold clamp
    apply List.map_congr_left
    intro k hk
    by_cases e : k = at_
    · subst e
      rw [List.getD_eq_getElem?_getD, List.getElem?_set_self (by omega), Option.getD_some]
      rcases hz with ⟨hm, hv⟩ | ⟨hm, hv⟩
      · rw [if_pos hm, if_pos hm, hv]
      · have c3 : ¬ k % 4 = 3 := by omega
        have c0 : k % 4 = 0 ∧ k ≠ 0 := ⟨hm, by omega⟩
        simp only [if_neg c3, if_pos c0, hv]
    · rw [List.getD_eq_getElem?_getD, List.getElem?_set_ne (fun e' => e e'.symm), ← List.getD_eq_getElem?_getD]
  unfold tagS
  rw [hc, List.drop_set_of_lt (by omega)]
end Go.Proofs.Ytohpgfefdlccmaa.OneM

/-
  Poly1305 with words of 64 bits: numbers as words, their sums and products, the reduction: plain mathematics. Conditions: in each statement.
-/
namespace Go.Proofs.Ytohpgfefdlccmaa.OneN
open OneM

/-- A number's words, the least first. -/
def wd (v n : Nat) : List Nat := (List.range n).map fun k => v / 18446744073709551616 ^ k % 18446744073709551616
theorem wd_len (v n : Nat) : (wd v n).length = n := by simp [wd]
theorem wd_at (v n k : Nat) (h : k < n) : (wd v n).getD k 0 = v / 18446744073709551616 ^ k % 18446744073709551616 := by
  rw [List.getD_eq_getElem?_getD]
  unfold wd
  rw [List.getElem?_map, List.getElem?_range h]
  rfl
theorem wd_lt (v n k : Nat) : (wd v n).getD k 0 < 18446744073709551616 := by
  by_cases h : k < n
  · rw [wd_at v n k h]; exact Nat.mod_lt _ (by decide)
  · rw [List.getD_eq_getElem?_getD, List.getElem?_eq_none (by rw [wd_len]; omega)]; decide
theorem wd_ext (L : List Nat) (v n : Nat) (hl : L.length = n) (h : ∀ k, k < n → L.getD k 0 = v / 18446744073709551616 ^ k % 18446744073709551616) : L = wd v n := by
  apply List.ext_getElem?
  intro k
  by_cases hk : k < n
  · have h1 := h k hk
    rw [← wd_at v n k hk, List.getD_eq_getElem?_getD, List.getD_eq_getElem?_getD, List.getElem?_eq_getElem (by omega), List.getElem?_eq_getElem (by rw [wd_len]; exact hk)] at h1
    rw [List.getElem?_eq_getElem (by omega), List.getElem?_eq_getElem (by rw [wd_len]; exact hk)]
    exact congrArg some h1
  · rw [List.getElem?_eq_none (by omega), List.getElem?_eq_none (by rw [wd_len]; omega)]
theorem wd_zero (n : Nat) : wd 0 n = List.replicate n 0 := by
  refine (wd_ext _ 0 n (by simp) fun k hk => ?_).symm
  rw [List.getD_eq_getElem?_getD, List.getElem?_replicate, if_pos hk, Nat.zero_div]
  rfl
theorem getD_set_same' (d : List Nat) (k x : Nat) (h : k < d.length) : (d.set k x).getD k 0 = x := by
  rw [List.getD_eq_getElem?_getD, List.getElem?_set_self h]; rfl
theorem getD_set_ne' (d : List Nat) (k m x : Nat) (h : m ≠ k) : (d.set k x).getD m 0 = d.getD m 0 := by
  rw [List.getD_eq_getElem?_getD, List.getElem?_set_ne (fun e => h e.symm), ← List.getD_eq_getElem?_getD]

/-- The number of words in base B. -/
def numB (B : Nat) : List Nat → Nat
  | [] => 0
  | x :: r => x + B * numB B r
theorem numB_set (B : Nat) (d : List Nat) : ∀ (k x : Nat), k < d.length → numB B (d.set k x) + d.getD k 0 * B ^ k = numB B d + x * B ^ k := by
  induction d with
  | nil => intro k x h; exact absurd h (by simp)
  | cons y r ih =>
    intro k x h
    cases k with
    | zero => rw [List.set_cons_zero, numB, numB, List.getD_cons_zero, Nat.pow_zero, Nat.mul_one, Nat.mul_one]; omega
    | succ k =>
      have h1 := ih k x (by simpa using h)
      rw [List.set_cons_succ, numB, numB, List.getD_cons_succ, Nat.pow_succ]
      have e1 : r.getD k 0 * (B ^ k * B) = B * (r.getD k 0 * B ^ k) := by rw [← Nat.mul_assoc, Nat.mul_comm]
      have e2 : x * (B ^ k * B) = B * (x * B ^ k) := by rw [← Nat.mul_assoc, Nat.mul_comm]
      have h2 := congrArg (B * ·) h1
      simp only [Nat.mul_add] at h2
      rw [e1, e2]
      omega
theorem numB_at (B : Nat) (hB : 0 < B) (d : List Nat) (hd : ∀ k, d.getD k 0 < B) : ∀ k, numB B d / B ^ k % B = d.getD k 0 := by
  induction d with
  | nil => intro k; simp [numB]
  | cons y r ih =>
    have hr : ∀ k, r.getD k 0 < B := fun k => by have := hd (k + 1); rwa [List.getD_cons_succ] at this
    have hy : y < B := by have := hd 0; rwa [List.getD_cons_zero] at this
    intro k
    cases k with
    | zero => rw [numB, Nat.pow_zero, Nat.div_one, List.getD_cons_zero, Nat.add_mul_mod_self_left, Nat.mod_eq_of_lt hy]
    | succ k =>
      rw [numB, List.getD_cons_succ, Nat.pow_succ, Nat.mul_comm (B ^ k) B, ← Nat.div_div_eq_div_mul, Nat.add_mul_div_left _ _ hB, Nat.div_eq_of_lt hy, Nat.zero_add]
      exact ih hr k
theorem wd_num (L : List Nat) (n : Nat) (hl : L.length = n) (h : ∀ k, L.getD k 0 < 18446744073709551616) : L = wd (numB 18446744073709551616 L) n :=
  wd_ext L _ n hl fun k _ => (numB_at _ (by decide) L h k).symm

/-! ### Sums -/
/-- The carry into word k. -/
def carB (B x y k : Nat) : Nat := (x % B ^ k + y % B ^ k) / B ^ k
theorem carB_zero (B x y : Nat) : carB B x y 0 = 0 := by simp [carB, Nat.mod_one]
theorem carB_le (B x y k : Nat) (hB : 0 < B) : carB B x y k ≤ 1 := by
  unfold carB
  have hp : 0 < B ^ k := Nat.pow_pos hB
  have h1 := Nat.mod_lt x hp
  have h2 := Nat.mod_lt y hp
  have : (x % B ^ k + y % B ^ k) / B ^ k < 2 := Nat.div_lt_of_lt_mul (by omega)
  omega
theorem carB_step (B X Y k : Nat) (hB : 0 < B) : (X / B ^ k % B + Y / B ^ k % B + carB B X Y k) % B = (X + Y) / B ^ k % B ∧ (X / B ^ k % B + Y / B ^ k % B + carB B X Y k) / B = carB B X Y (k + 1) := by
  unfold carB
  obtain ⟨P, hP⟩ : ∃ P, B ^ k = P := ⟨_, rfl⟩
  have hp : 0 < P := by rw [← hP]; exact Nat.pow_pos hB
  have hx : X % (P * B) = X % P + P * (X / P % B) := Nat.mod_mul
  have hy : Y % (P * B) = Y % P + P * (Y / P % B) := Nat.mod_mul
  rw [Nat.pow_succ, hP, hx, hy]
  have hdx := Nat.div_add_mod X P
  have hdy := Nat.div_add_mod Y P
  obtain ⟨x0, h1⟩ : ∃ z, X % P = z := ⟨_, rfl⟩
  obtain ⟨y0, h2⟩ : ∃ z, Y % P = z := ⟨_, rfl⟩
  obtain ⟨x1, h3⟩ : ∃ z, X / P = z := ⟨_, rfl⟩
  obtain ⟨y1, h4⟩ : ∃ z, Y / P = z := ⟨_, rfl⟩
  rw [h1, h3] at hdx
  rw [h2, h4] at hdy
  rw [h1, h2, h3, h4]
  constructor
  · have e : (X + Y) / P = (x0 + y0) / P + (x1 + y1) := by
      rw [← hdx, ← hdy, show P * x1 + x0 + (P * y1 + y0) = x0 + y0 + P * (x1 + y1) by rw [Nat.mul_add]; omega, Nat.add_mul_div_left _ _ hp]
    rw [e, Nat.add_comm ((x0 + y0) / P) (x1 + y1), Nat.add_mod (x1 % B + y1 % B), ← Nat.add_mod x1 y1 B, ← Nat.add_mod]
  · rw [show x0 + P * (x1 % B) + (y0 + P * (y1 % B)) = x0 + y0 + P * (x1 % B + y1 % B) by rw [Nat.mul_add]; omega, ← Nat.div_div_eq_div_mul, Nat.add_mul_div_left _ _ hp]
    congr 1
    omega
/-- The first k words, noughts behind them. -/
def fst (v n k : Nat) : List Nat := (wd v n).take k ++ List.replicate (n - k) 0
theorem fst_zero (v n : Nat) : fst v n 0 = wd 0 n := by rw [wd_zero]; simp [fst]
theorem fst_len (v n k : Nat) (h : k ≤ n) : (fst v n k).length = n := by simp [fst, wd_len]; omega
theorem fst_all (v n : Nat) : fst v n n = wd v n := by
  unfold fst
  rw [List.take_of_length_le (by rw [wd_len]; exact Nat.le_refl _), Nat.sub_self]
  simp
theorem fst_set (v n k : Nat) (h : k < n) : (fst v n k).set k (v / 18446744073709551616 ^ k % 18446744073709551616) = fst v n (k + 1) := by
  have h1 : ((wd v n).take k).length = k := by rw [List.length_take, wd_len]; omega
  have h2 := wd_at v n k h
  rw [List.getD_eq_getElem?_getD, List.getElem?_eq_getElem (by rw [wd_len]; exact h), Option.getD_some] at h2
  unfold fst
  rw [List.set_append, if_neg (by omega), h1, Nat.sub_self, show n - k = (n - (k + 1)) + 1 by omega, List.replicate_succ, List.set_cons_zero, List.take_succ_eq_append_getElem (by rw [wd_len]; exact h), h2, List.append_assoc]
  rfl

/-! ### Products -/
/-- Behind i rows. -/
def RowI (x y i : Nat) (L : List Nat) : Prop := L.length = 6 ∧ (∀ k, L.getD k 0 < 18446744073709551616) ∧ (∀ k, i + 3 ≤ k → L.getD k 0 = 0) ∧ numB 18446744073709551616 L = x % 18446744073709551616 ^ i * y
/-- .. and j products of row i. -/
def MulI (x y i j : Nat) (L : List Nat) (c : Nat) : Prop :=
  L.length = 6 ∧ (∀ k, L.getD k 0 < 18446744073709551616) ∧ (∀ k, i + 3 ≤ k → L.getD k 0 = 0) ∧ c < 18446744073709551616 ∧
  numB 18446744073709551616 L + c * 18446744073709551616 ^ (i + j) = x % 18446744073709551616 ^ i * y + x / 18446744073709551616 ^ i % 18446744073709551616 * (y % 18446744073709551616 ^ j) * 18446744073709551616 ^ i
theorem RowI.start (x y : Nat) : RowI x y 0 (wd 0 6) := by
  rw [wd_zero]
  refine ⟨by simp, fun k => ?_, fun k _ => ?_, ?_⟩
  · rw [List.getD_eq_getElem?_getD, List.getElem?_replicate]; split <;> decide
  · rw [List.getD_eq_getElem?_getD, List.getElem?_replicate]; split <;> rfl
  · rw [Nat.pow_zero, Nat.mod_one, Nat.zero_mul]; rfl
theorem RowI.mul {x y i : Nat} {L : List Nat} (h : RowI x y i L) : MulI x y i 0 L 0 := by
  obtain ⟨h1, h2, h3, h4⟩ := h
  exact ⟨h1, h2, h3, by decide, by rw [h4, Nat.pow_zero, Nat.mod_one, Nat.mul_zero, Nat.zero_mul, Nat.zero_mul]⟩
theorem two_words (a b c d B : Nat) (ha : a < B) (hb : b < B) (hc : c < B) (hd : d < B) : (a * b + c + d) / B < B := by
  refine Nat.div_lt_of_lt_mul ?_
  have h1 : a * b ≤ (B - 1) * (B - 1) := Nat.mul_le_mul (by omega) (by omega)
  obtain ⟨z, rfl⟩ : ∃ z, B = z + 1 := ⟨B - 1, by omega⟩
  rw [Nat.add_sub_cancel] at h1
  rw [Nat.mul_add, Nat.add_mul]
  omega
theorem mul_num (B n l t a b c z i j y X : Nat) (h : n + c * B ^ (i + j) = X + a * (y % B ^ j) * B ^ i) (hb : b = y / B ^ j % B) (ht : t = a * b + l + c) (hz : z + l * B ^ (i + j) = n + t % B * B ^ (i + j)) :
    z + t / B * B ^ (i + (j + 1)) = X + a * (y % B ^ (j + 1)) * B ^ i := by
  have e1 : B ^ (i + (j + 1)) = B * B ^ (i + j) := by rw [← Nat.add_assoc, Nat.pow_succ, Nat.mul_comm]
  have e2 : y % B ^ (j + 1) = y % B ^ j + B ^ j * b := by rw [Nat.pow_succ, Nat.mod_mul, ← hb]
  have e3 : B ^ (i + j) = B ^ j * B ^ i := by rw [Nat.add_comm, Nat.pow_add]
  rw [e1, e2, Nat.mul_add, Nat.add_mul, ← Nat.mul_assoc (t / B)]
  have e4 : t = B * (t / B) + t % B := (Nat.div_add_mod t B).symm
  have e5 : a * (B ^ j * b) * B ^ i = a * b * B ^ (i + j) := by rw [e3, Nat.mul_comm (B ^ j) b, ← Nat.mul_assoc a b, Nat.mul_assoc (a * b)]
  rw [e5]
  obtain ⟨P, hP⟩ : ∃ P, B ^ (i + j) = P := ⟨_, rfl⟩
  rw [hP] at h hz ⊢
  have e6 : t * P = a * b * P + l * P + c * P := by rw [ht, Nat.add_mul, Nat.add_mul]
  have e7 : t * P = t / B * B * P + t % B * P := by
    have := congrArg (· * P) e4
    simp only [Nat.add_mul] at this
    rw [Nat.mul_comm B (t / B)] at this
    exact this
  omega
theorem MulI.step {x y i j : Nat} {L : List Nat} {c : Nat} (h : MulI x y i j L c) (hi : i < 3) (hj : j < 3) (a b t : Nat) (ha : a = x / 18446744073709551616 ^ i % 18446744073709551616) (hb : b = y / 18446744073709551616 ^ j % 18446744073709551616) (ht : t = a * b + L.getD (i + j) 0 + c) :
    MulI x y i (j + 1) (L.set (i + j) (t % 18446744073709551616)) (t / 18446744073709551616) := by
  obtain ⟨h1, h2, h3, h4, h5⟩ := h
  have hB : (0 : Nat) < 18446744073709551616 := by decide
  refine ⟨by rw [List.length_set]; exact h1, fun k => ?_, fun k hk => ?_, ?_, ?_⟩
  · by_cases e : k = i + j
    · subst e; rw [getD_set_same' _ _ _ (by omega)]; exact Nat.mod_lt _ hB
    · rw [getD_set_ne' _ _ _ _ e]; exact h2 k
  · rw [getD_set_ne' _ _ _ _ (by omega)]; exact h3 k hk
  · rw [ht]
    exact two_words a b _ c _ (by rw [ha]; exact Nat.mod_lt _ hB) (by rw [hb]; exact Nat.mod_lt _ hB) (h2 _) h4
  · have h6 := numB_set 18446744073709551616 L (i + j) (t % 18446744073709551616) (by omega)
    rw [← ha] at h5 ⊢
    exact mul_num _ _ _ t a b c _ i j y _ h5 hb ht h6
theorem MulI.row {x y i : Nat} {L : List Nat} {c : Nat} (h : MulI x y i 3 L c) (hi : i < 3) (hy : y < 18446744073709551616 ^ 3) : RowI x y (i + 1) (L.set (i + 3) c) := by
  obtain ⟨h1, h2, h3, h4, h5⟩ := h
  refine ⟨by rw [List.length_set]; exact h1, fun k => ?_, fun k hk => ?_, ?_⟩
  · by_cases e : k = i + 3
    · subst e; rw [getD_set_same' _ _ _ (by omega)]; exact h4
    · rw [getD_set_ne' _ _ _ _ e]; exact h2 k
  · rw [getD_set_ne' _ _ _ _ (by omega)]; exact h3 k (by omega)
  · have h6 := numB_set 18446744073709551616 L (i + 3) c (by omega)
    rw [h3 (i + 3) (Nat.le_refl _), Nat.zero_mul, Nat.add_zero, h5, Nat.mod_eq_of_lt hy] at h6
    rw [h6, Nat.pow_succ, Nat.mod_mul, Nat.add_mul]
    congr 1
    rw [Nat.mul_comm (18446744073709551616 ^ i), Nat.mul_assoc, Nat.mul_assoc, Nat.mul_comm y]
theorem RowI.all {x y : Nat} {L : List Nat} (h : RowI x y 3 L) (hx : x < 18446744073709551616 ^ 3) : L = wd (x * y) 6 := by
  obtain ⟨h1, h2, _, h4⟩ := h
  have := wd_num L 6 h1 h2
  rw [h4, Nat.mod_eq_of_lt hx] at this
  exact this
end Go.Proofs.Ytohpgfefdlccmaa.OneN

/-
  Poly1305 with words of 64 bits: bytes put into words and taken out, the clearing by masks, the reduction and the remainder, the tag: plain mathematics. Conditions: in each statement.
-/
namespace Go.Proofs.Ytohpgfefdlccmaa.OneN
open OneM

theorem pow8 (m : Nat) : (2 : Nat) ^ (8 * m) = 256 ^ m := by rw [Nat.pow_mul]
theorem powB (k : Nat) : (18446744073709551616 : Nat) ^ (k / 8) * 256 ^ (k % 8) = 256 ^ k := by
  rw [show (18446744073709551616 : Nat) = 256 ^ 8 by decide, ← Nat.pow_mul, ← Nat.pow_add]
  congr 1
  omega
theorem pow_le8 (r : Nat) (h : r ≤ 8) : 256 ^ r ≤ 18446744073709551616 := by
  rw [show (18446744073709551616 : Nat) = 256 ^ 8 by decide]
  exact Nat.pow_le_pow_right (by decide) h

/-- Word k / 8 of what k bytes hold. -/
theorem top_word (v k : Nat) (hv : v < 256 ^ k) : v / 18446744073709551616 ^ (k / 8) % 18446744073709551616 = v / 18446744073709551616 ^ (k / 8) ∧ v / 18446744073709551616 ^ (k / 8) < 256 ^ (k % 8) := by
  have h1 : v / 18446744073709551616 ^ (k / 8) < 256 ^ (k % 8) := by
    rw [Nat.div_lt_iff_lt_mul (Nat.pow_pos (by decide)), Nat.mul_comm, powB]
    exact hv
  exact ⟨Nat.mod_eq_of_lt (Nat.lt_of_lt_of_le h1 (pow_le8 _ (by omega))), h1⟩
/-- A byte is put above k bytes. -/
theorem put_byte (v k c n : Nat) (hv : v < 256 ^ k) (hc : c < 256) (hk : k / 8 < n) :
    (wd v n).set (k / 8) ((wd v n).getD (k / 8) 0 ||| c * 2 ^ (8 * (k % 8))) = wd (v + 256 ^ k * c) n ∧ (wd v n).getD (k / 8) 0 < 2 ^ (8 * (k % 8)) ∧ c * 2 ^ (8 * (k % 8)) < 18446744073709551616 := by
  have ht := top_word v k hv
  have hg : (wd v n).getD (k / 8) 0 = v / 18446744073709551616 ^ (k / 8) := by rw [wd_at v n _ hk, ht.1]
  have hcl : c * 2 ^ (8 * (k % 8)) < 18446744073709551616 := by
    rw [pow8]
    have h1 : c * 256 ^ (k % 8) < 256 * 256 ^ (k % 8) := Nat.mul_lt_mul_of_pos_right hc (Nat.pow_pos (by decide))
    have h2 := pow_le8 (k % 8 + 1) (by omega)
    rw [Nat.pow_succ, Nat.mul_comm] at h2
    omega
  have hor : (wd v n).getD (k / 8) 0 ||| c * 2 ^ (8 * (k % 8)) = v / 18446744073709551616 ^ (k / 8) + c * 256 ^ (k % 8) := by
    rw [hg, Nat.or_comm, Nat.mul_comm c, ← Nat.two_pow_add_eq_or_of_lt (by rw [pow8]; exact ht.2), pow8, Nat.mul_comm]
    omega
  refine ⟨?_, by rw [hg, pow8]; exact ht.2, hcl⟩
  rw [hor]
  refine wd_ext _ _ n (by rw [List.length_set, wd_len]) fun m hm => ?_
  have hp := powB k
  by_cases e : m = k / 8
  · subst e
    rw [getD_set_same' _ _ _ (by rw [wd_len]; exact hk)]
    have h1 : (v + 256 ^ k * c) / 18446744073709551616 ^ (k / 8) = v / 18446744073709551616 ^ (k / 8) + c * 256 ^ (k % 8) := by
      rw [← hp, Nat.mul_assoc, Nat.add_mul_div_left _ _ (Nat.pow_pos (by decide)), Nat.mul_comm c]
    rw [h1]
    refine (Nat.mod_eq_of_lt ?_).symm
    have h2 := pow_le8 (k % 8 + 1) (by omega)
    have h3 : c * 256 ^ (k % 8) ≤ 255 * 256 ^ (k % 8) := Nat.mul_le_mul_right _ (by omega)
    rw [Nat.pow_succ] at h2
    omega
  · rw [getD_set_ne' _ _ _ _ e, wd_at v n m hm]
    rcases Nat.lt_or_ge m (k / 8) with hlt | hge
    · have h1 : 256 ^ k * c = 18446744073709551616 ^ m * (18446744073709551616 * (18446744073709551616 ^ (k / 8 - m - 1) * 256 ^ (k % 8) * c)) := by
        rw [← hp, ← Nat.mul_assoc, ← Nat.mul_assoc, ← Nat.mul_assoc, ← Nat.pow_succ, ← Nat.pow_add, show m.succ + (k / 8 - m - 1) = k / 8 by omega]
      rw [h1, Nat.add_mul_div_left _ _ (Nat.pow_pos (by decide)), Nat.add_mul_mod_self_left]
    · have h1 : v + 256 ^ k * c < 256 ^ (k + 1) := by
        have : 256 ^ k * c ≤ 256 ^ k * 255 := Nat.mul_le_mul_left _ (by omega)
        rw [Nat.pow_succ]
        omega
      have h2 : 256 ^ (k + 1) ≤ 18446744073709551616 ^ m := by
        rw [show (18446744073709551616 : Nat) = 256 ^ 8 by decide, ← Nat.pow_mul]
        exact Nat.pow_le_pow_right (by decide) (by omega)
      rw [Nat.div_eq_of_lt (by omega), Nat.div_eq_of_lt (by omega)]
theorem lev_snoc (b : List UInt8) (k : Nat) (h : k < b.length) : lev (b.take (k + 1)) = lev (b.take k) + 256 ^ k * b[k].toNat := by
  rw [List.take_succ_eq_append_getElem h, lev_append, List.length_take, Nat.min_eq_left (by omega), lev, lev, Nat.mul_zero, Nat.add_zero]
theorem lev_take_lt (b : List UInt8) (k : Nat) : lev (b.take k) < 256 ^ k := by
  refine Nat.lt_of_lt_of_le (lev_lt _) (Nat.pow_le_pow_right (by decide) ?_)
  rw [List.length_take]; omega
theorem lev_mark (b : List UInt8) : lev (b ++ [1]) = lev b + 256 ^ b.length * 1 := by
  rw [lev_append, lev, lev, Nat.mul_zero, Nat.add_zero]; rfl
/-- Byte k of a number in words. -/
theorem get_byte (v n k : Nat) (hk : k / 8 < n) : (wd v n).getD (k / 8) 0 / 2 ^ (8 * (k % 8)) % 256 = v / 256 ^ k % 256 := by
  rw [wd_at v n _ hk, pow8, ← powB k, ← Nat.div_div_eq_div_mul]
  obtain ⟨x, hx⟩ : ∃ x, v / 18446744073709551616 ^ (k / 8) = x := ⟨_, rfl⟩
  rw [hx]
  have e : (18446744073709551616 : Nat) = 256 ^ (k % 8) * (256 * 256 ^ (7 - k % 8)) := by
    rw [show (18446744073709551616 : Nat) = 256 ^ 8 by decide, ← Nat.mul_assoc, ← Nat.pow_succ, ← Nat.pow_add]
    congr 1
    omega
  rw [e, Nat.mod_mul_right_div_self, Nat.mod_mul_right_mod]

/-! ### The masks -/
theorem and_lev (x m r s : Nat) (hx : x < 256) (hm : m < 256) : (x + 256 * r) &&& (m + 256 * s) = (x &&& m) + 256 * (r &&& s) := by
  have hlt : x &&& m < 256 := Nat.lt_of_le_of_lt Nat.and_le_left hx
  have h1 : ((x + 256 * r) &&& (m + 256 * s)) % 2 ^ 8 = x &&& m := by
    rw [Nat.and_mod_two_pow]
    congr 1
    · omega
    · omega
  have h2 : ((x + 256 * r) &&& (m + 256 * s)) / 2 ^ 8 = r &&& s := by
    rw [Nat.and_div_two_pow]
    congr 1
    · omega
    · omega
  omega
theorem m255 (x : UInt8) : x.toNat &&& 255 = x.toNat := by
  rw [show (255 : Nat) = 2 ^ 8 - 1 by decide, Nat.and_two_pow_sub_one_eq_mod]
  exact Nat.mod_eq_of_lt x.toNat_lt
theorem m15 (x : Nat) : x &&& 15 = x % 16 := by rw [show (15 : Nat) = 2 ^ 4 - 1 by decide, Nat.and_two_pow_sub_one_eq_mod]
theorem m252 (x : UInt8) : x.toNat &&& 252 = x.toNat / 4 * 4 := by
  have h : ∀ n : Fin 256, n.val &&& 252 = n.val / 4 * 4 := by decide +kernel
  exact h ⟨x.toNat, x.toNat_lt⟩
theorem lev_eight (a b c d e f g h : UInt8) (r : List UInt8) : lev (a :: b :: c :: d :: e :: f :: g :: h :: r) = a.toNat + 256 * (b.toNat + 256 * (c.toNat + 256 * (d.toNat + 256 * (e.toNat + 256 * (f.toNat + 256 * (g.toNat + 256 * (h.toNat + 256 * lev r))))))) := by
  simp only [lev]
theorem toNat16 (x : UInt8) : (UInt8.ofNat (x.toNat % 16)).toNat = x.toNat % 16 := by
  rw [UInt8.toNat_ofNat', Nat.mod_eq_of_lt (by omega)]
theorem toNat4 (x : UInt8) : (UInt8.ofNat (x.toNat / 4 * 4)).toNat = x.toNat / 4 * 4 := by
  have := x.toNat_lt
  rw [UInt8.toNat_ofNat', Nat.mod_eq_of_lt (by omega)]
theorem low_word (a b c d e f g h : UInt8) : lev [a, b, c, d, e, f, g, h] &&& 1152921487695413247 = lev [a, b, c, UInt8.ofNat (d.toNat % 16), UInt8.ofNat (e.toNat / 4 * 4), f, g, UInt8.ofNat (h.toNat % 16)] := by
  rw [lev_eight, lev_eight, toNat16, toNat16, toNat4, show (1152921487695413247 : Nat) = 255 + 256 * (255 + 256 * (255 + 256 * (15 + 256 * (252 + 256 * (255 + 256 * (255 + 256 * (15 + 256 * 0))))))) by decide]
  rw [and_lev _ _ _ _ a.toNat_lt (by decide), and_lev _ _ _ _ b.toNat_lt (by decide), and_lev _ _ _ _ c.toNat_lt (by decide), and_lev _ _ _ _ d.toNat_lt (by decide), and_lev _ _ _ _ e.toNat_lt (by decide), and_lev _ _ _ _ f.toNat_lt (by decide), and_lev _ _ _ _ g.toNat_lt (by decide), and_lev _ _ _ _ h.toNat_lt (by decide)]
  rw [m255, m255, m255, m255, m255, m15, m15, m252]
  simp only [lev, Nat.and_self]
theorem high_word (a b c d e f g h : UInt8) : lev [a, b, c, d, e, f, g, h] &&& 1152921487695413244 = lev [UInt8.ofNat (a.toNat / 4 * 4), b, c, UInt8.ofNat (d.toNat % 16), UInt8.ofNat (e.toNat / 4 * 4), f, g, UInt8.ofNat (h.toNat % 16)] := by
  rw [lev_eight, lev_eight, toNat16, toNat16, toNat4, toNat4, show (1152921487695413244 : Nat) = 252 + 256 * (255 + 256 * (255 + 256 * (15 + 256 * (252 + 256 * (255 + 256 * (255 + 256 * (15 + 256 * 0))))))) by decide]
  rw [and_lev _ _ _ _ a.toNat_lt (by decide), and_lev _ _ _ _ b.toNat_lt (by decide), and_lev _ _ _ _ c.toNat_lt (by decide), and_lev _ _ _ _ d.toNat_lt (by decide), and_lev _ _ _ _ e.toNat_lt (by decide), and_lev _ _ _ _ f.toNat_lt (by decide), and_lev _ _ _ _ g.toNat_lt (by decide), and_lev _ _ _ _ h.toNat_lt (by decide)]
  rw [m255, m255, m255, m255, m15, m15, m252, m252]
  simp only [lev, Nat.and_self]
theorem eight (l : List UInt8) (h : l.length = 8) : ∃ a b c d e f g k, l = [a, b, c, d, e, f, g, k] := by
  match l, h with
  | [a, b, c, d, e, f, g, k], _ => exact ⟨a, b, c, d, e, f, g, k, rfl⟩
theorem two_lev (p q : List UInt8) (hp : p.length = 8) (hq : q.length = 8) : wd (lev (p ++ q)) 3 = [lev p, lev q, 0] := by
  have h1 := lev_lt p
  have h2 := lev_lt q
  rw [hp, show (256 : Nat) ^ 8 = 18446744073709551616 by decide] at h1
  rw [hq, show (256 : Nat) ^ 8 = 18446744073709551616 by decide] at h2
  have h3 : lev (p ++ q) = lev p + 18446744073709551616 * lev q := by rw [lev_append, hp]
  generalize lev p = x at *
  generalize lev q = y at *
  refine (wd_ext _ _ 3 rfl fun k hk => ?_).symm
  rw [h3]
  match k, hk with
  | 0, _ => rw [Nat.pow_zero]; show x = _; omega
  | 1, _ => rw [Nat.pow_one]; show y = _; omega
  | 2, _ =>
    rw [show (18446744073709551616 : Nat) ^ 2 = 18446744073709551616 * 18446744073709551616 by decide, ← Nat.div_div_eq_div_mul]
    show 0 = _
    omega
/-- The clearing of a key is that by the masks. -/
theorem clamp_wd (key : List UInt8) (h : 16 ≤ key.length) : wd (lev (clamp key)) 3 = [(wd (lev (key.take 16)) 3).getD 0 0 &&& 1152921487695413247, (wd (lev (key.take 16)) 3).getD 1 0 &&& 1152921487695413244, 0] := by
  obtain ⟨p, hp⟩ : ∃ p, key.take 8 = p := ⟨_, rfl⟩
  obtain ⟨q, hq⟩ : ∃ q, (key.drop 8).take 8 = q := ⟨_, rfl⟩
  obtain ⟨r, hr⟩ : ∃ r, key.drop 16 = r := ⟨_, rfl⟩
  have hpl : p.length = 8 := by rw [← hp, List.length_take]; omega
  have hql : q.length = 8 := by rw [← hq, List.length_take, List.length_drop]; omega
  have hk : key = p ++ (q ++ r) := by
    rw [← hp, ← hq, ← hr, show key.drop 16 = (key.drop 8).drop 8 by rw [List.drop_drop], List.take_append_drop, List.take_append_drop]
  have ht : key.take 16 = p ++ q := by
    rw [hk, ← List.append_assoc, List.take_append_of_le_length (by simp; omega), List.take_of_length_le (by simp; omega)]
  rw [ht, two_lev p q hpl hql, hk]
  obtain ⟨a0, a1, a2, a3, a4, a5, a6, a7, rfl⟩ := eight p hpl
  obtain ⟨b0, b1, b2, b3, b4, b5, b6, b7, rfl⟩ := eight q hql
  have hc : clamp ([a0, a1, a2, a3, a4, a5, a6, a7] ++ ([b0, b1, b2, b3, b4, b5, b6, b7] ++ r)) = [a0, a1, a2, UInt8.ofNat (a3.toNat % 16), UInt8.ofNat (a4.toNat / 4 * 4), a5, a6, UInt8.ofNat (a7.toNat % 16)] ++ [UInt8.ofNat (b0.toNat / 4 * 4), b1, b2, UInt8.ofNat (b3.toNat % 16), UInt8.ofNat (b4.toNat / 4 * 4), b5, b6, UInt8.ofNat (b7.toNat % 16)] := rfl
  rw [hc, two_lev _ _ rfl rfl]
  show _ = [lev [a0, a1, a2, a3, a4, a5, a6, a7] &&& 1152921487695413247, lev [b0, b1, b2, b3, b4, b5, b6, b7] &&& 1152921487695413244, 0]
  rw [low_word, high_word]
theorem clamp_lt (key : List UInt8) (h : 16 ≤ key.length) : lev (clamp key) < 2 ^ 124 := by
  have h1 := clamp_wd key h
  have hl : (clamp key).length = 16 := by simp [clamp]
  have h2 := lev_lt (clamp key)
  rw [hl] at h2
  have h3 := wd_at (lev (clamp key)) 3 1 (by decide)
  rw [h1] at h3
  have h4 : (wd (lev (key.take 16)) 3).getD 1 0 &&& 1152921487695413244 ≤ 1152921487695413244 := Nat.and_le_right
  have h5 : [(wd (lev (key.take 16)) 3).getD 0 0 &&& 1152921487695413247, (wd (lev (key.take 16)) 3).getD 1 0 &&& 1152921487695413244, 0].getD 1 0 = (wd (lev (key.take 16)) 3).getD 1 0 &&& 1152921487695413244 := rfl
  rw [h5] at h3
  generalize (wd (lev (key.take 16)) 3).getD 1 0 &&& 1152921487695413244 = z at *
  generalize lev (clamp key) = v at *
  rw [Nat.pow_one] at h3
  have e1 : (256 : Nat) ^ 16 = 340282366920938463463374607431768211456 := by decide
  have e2 : (2 : Nat) ^ 124 = 21267647932558653966460912964485513216 := by decide
  rw [e1] at h2
  rw [e2]
  omega
end Go.Proofs.Ytohpgfefdlccmaa.OneN

/-
  Poly1305 with words of 64 bits: the reduction, the remainder, the blocks one after another: plain mathematics. Conditions: in each statement.
-/
namespace Go.Proofs.Ytohpgfefdlccmaa.OneN
open OneM

/-- What is above 2^130 comes back five times. -/
def red (x : Nat) : Nat := x % 1361129467683753853853498429727072845824 + 5 * (x / 1361129467683753853853498429727072845824)
theorem pp_val : pp = 1361129467683753853853498429727072845819 := by decide
theorem red_mod (x : Nat) : red x % pp = x % pp := by
  unfold red
  rw [pp_val]
  have h := Nat.div_add_mod x 1361129467683753853853498429727072845824
  generalize x / 1361129467683753853853498429727072845824 = q at *
  generalize x % 1361129467683753853853498429727072845824 = r at *
  rw [← h, show 1361129467683753853853498429727072845824 * q + r = 1361129467683753853853498429727072845819 * q + (r + 5 * q) by omega, Nat.mul_add_mod]
theorem red_lt (x : Nat) (h : x < 57896044618658097711785492504343953926634992332820282019728792003956564819968) : red x < 1361129467683753853853498429727072845824 + 340282366920938463463374607431768211456 := by
  unfold red
  omega
theorem three (v a b c : Nat) (h0 : a = v % 18446744073709551616) (h1 : b = v / 18446744073709551616 % 18446744073709551616) (h2 : c = v / 340282366920938463463374607431768211456 % 18446744073709551616) : wd v 3 = [a, b, c] := by
  refine (wd_ext _ _ 3 rfl fun k hk => ?_).symm
  match k, hk with
  | 0, _ => rw [Nat.pow_zero, Nat.div_one, ← h0]; rfl
  | 1, _ => rw [Nat.pow_one, ← h1]; rfl
  | 2, _ => rw [show (18446744073709551616 : Nat) ^ 2 = 340282366920938463463374607431768211456 by decide, ← h2]; rfl
/-- x modulo 2^130. -/
theorem below_wd (x : Nat) : wd (x % 1361129467683753853853498429727072845824) 3 = [(wd x 6).getD 0 0, (wd x 6).getD 1 0, (wd x 6).getD 2 0 % 4] := by
  have h0 := wd_at x 6 0 (by decide)
  have h1 := wd_at x 6 1 (by decide)
  have h2 := wd_at x 6 2 (by decide)
  rw [Nat.pow_zero] at h0
  rw [Nat.pow_one] at h1
  rw [show (18446744073709551616 : Nat) ^ 2 = 340282366920938463463374607431768211456 by decide] at h2
  rw [h0, h1, h2]
  exact three _ _ _ _ (by omega) (by omega) (by omega)
theorem or62 (u v : Nat) (hu : u < 2 ^ 62) : u ||| v % 4 * 2 ^ 62 = u + v % 4 * 2 ^ 62 := by
  rw [Nat.or_comm, Nat.mul_comm, ← Nat.two_pow_add_eq_or_of_lt hu, Nat.add_comm]
/-- x by 2^130. -/
theorem above_wd (x : Nat) (h : x < 115792089237316195423570985008687907853269984665640564039457584007913129639936) : wd (x / 1361129467683753853853498429727072845824) 3 = [(wd x 6).getD 2 0 / 4 ||| (wd x 6).getD 3 0 % 4 * 4611686018427387904, (wd x 6).getD 3 0 / 4, 0] := by
  obtain ⟨q, hq⟩ : ∃ q, x / 340282366920938463463374607431768211456 = q := ⟨_, rfl⟩
  have hql : q < 340282366920938463463374607431768211456 := by
    rw [← hq]
    refine Nat.div_lt_of_lt_mul ?_
    rw [show 340282366920938463463374607431768211456 * 340282366920938463463374607431768211456 = 115792089237316195423570985008687907853269984665640564039457584007913129639936 by decide]
    exact h
  have h2 : (wd x 6).getD 2 0 = q % 18446744073709551616 := by
    rw [wd_at x 6 2 (by decide), show (18446744073709551616 : Nat) ^ 2 = 340282366920938463463374607431768211456 by decide, hq]
  have h3 : (wd x 6).getD 3 0 = q / 18446744073709551616 := by
    rw [wd_at x 6 3 (by decide), show (18446744073709551616 : Nat) ^ 3 = 340282366920938463463374607431768211456 * 18446744073709551616 by decide, ← Nat.div_div_eq_div_mul, hq]
    exact Nat.mod_eq_of_lt (by omega)
  have h4 := or62 ((wd x 6).getD 2 0 / 4) ((wd x 6).getD 3 0) (by rw [h2]; omega)
  rw [show (2 : Nat) ^ 62 = 4611686018427387904 by decide] at h4
  rw [h4, h2, h3, show (1361129467683753853853498429727072845824 : Nat) = 340282366920938463463374607431768211456 * 4 by decide, ← Nat.div_div_eq_div_mul, hq]
  clear h h2 h3 h4 hq
  exact three _ _ _ _ (by omega) (by omega) (by omega)
theorem five_wd (t : Nat) (h : t < 18446744073709551616) : wd t 3 = [t, 0, 0] := three _ _ _ _ (by omega) (by omega) (by omega)
theorem back_wd (y : Nat) (h : y < 340282366920938463463374607431768211456) : wd y 3 = [(wd y 6).getD 0 0, (wd y 6).getD 1 0, 0] := by
  have h0 := wd_at y 6 0 (by decide)
  have h1 := wd_at y 6 1 (by decide)
  rw [Nat.pow_zero, Nat.div_one] at h0
  rw [Nat.pow_one] at h1
  exact three _ _ _ _ h0 h1 (by omega)
/-- Once or never. -/
theorem times_wd (x : Nat) (h : x < 1361129467683753853853498429727072845824 + 340282366920938463463374607431768211456) : (wd (x + 5) 3).getD 2 0 / 4 = (x + 5) / 1361129467683753853853498429727072845824 ∧ (x + 5) / 1361129467683753853853498429727072845824 ≤ 1 := by
  rw [wd_at (x + 5) 3 2 (by decide), show (18446744073709551616 : Nat) ^ 2 = 340282366920938463463374607431768211456 by decide]
  omega
theorem le_rem (x s : Nat) (h : x < 1361129467683753853853498429727072845824 + 340282366920938463463374607431768211456) : le16 (x + 5 * ((x + 5) / 1361129467683753853853498429727072845824) + s) = le16 (x % pp + s) := by
  rw [pp_val]
  rcases Nat.lt_or_ge (x + 5) 1361129467683753853853498429727072845824 with h1 | h1
  · rw [Nat.div_eq_of_lt h1, Nat.mod_eq_of_lt (show x < 1361129467683753853853498429727072845819 by omega)]
    rfl
  · have e1 : (x + 5) / 1361129467683753853853498429727072845824 = 1 := by omega
    have e2 : x % 1361129467683753853853498429727072845819 = x - 1361129467683753853853498429727072845819 := by omega
    obtain ⟨y, rfl⟩ : ∃ y, x = y + 1361129467683753853853498429727072845819 := ⟨x - 1361129467683753853853498429727072845819, by omega⟩
    rw [e1, e2, Nat.add_sub_cancel, ← le_mod, ← le_mod (y + s), show (2 : Nat) ^ 128 = 340282366920938463463374607431768211456 by decide, show y + 1361129467683753853853498429727072845819 + 5 * 1 + s = y + s + 340282366920938463463374607431768211456 * 4 by omega, Nat.add_mul_mod_self_left]

/-- A block more. -/
def stepT (r T : Nat) (blk : List UInt8) : Nat := red ((T + lev (blk ++ [1])) * r)
def Tot (T : Nat) : Prop := T < 1361129467683753853853498429727072845824 + 340282366920938463463374607431768211456
theorem mark_lt (blk : List UInt8) (h : blk.length ≤ 16) : lev (blk ++ [1]) < 680564733841876926926749214863536422912 := by
  have h1 := lev_lt blk
  have h2 : 256 ^ blk.length ≤ 256 ^ 16 := Nat.pow_le_pow_right (by decide) h
  rw [lev_mark, Nat.mul_one]
  rw [show (256 : Nat) ^ 16 = 340282366920938463463374607431768211456 by decide] at h2
  omega
theorem sum_lt (T : Nat) (blk : List UInt8) (hT : Tot T) (h : blk.length ≤ 16) : T + lev (blk ++ [1]) < 2722258935367507707706996859454145691648 := by
  have := mark_lt blk h
  unfold Tot at hT
  omega
theorem prod_lt (r T : Nat) (blk : List UInt8) (hr : r < 2 ^ 124) (hT : Tot T) (h : blk.length ≤ 16) : (T + lev (blk ++ [1])) * r < 57896044618658097711785492504343953926634992332820282019728792003956564819968 := by
  have h1 := sum_lt T blk hT h
  have h2 : (T + lev (blk ++ [1])) * r ≤ 2722258935367507707706996859454145691647 * 21267647932558653966460912964485513215 := by
    refine Nat.mul_le_mul (by omega) ?_
    rw [show (2 : Nat) ^ 124 = 21267647932558653966460912964485513216 by decide] at hr
    omega
  exact Nat.lt_of_le_of_lt h2 (by decide)
theorem stepT_tot (r T : Nat) (blk : List UInt8) (hr : r < 2 ^ 124) (hT : Tot T) (h : blk.length ≤ 16) : Tot (stepT r T blk) := red_lt _ (prod_lt r T blk hr hT h)
/-- The blocks. -/
def blk (b : List UInt8) (i : Nat) : List UInt8 := (b.drop (16 * i)).take 16
theorem blk_len (b : List UInt8) (i : Nat) : (blk b i).length ≤ 16 := by simp [blk]; omega
def accT (r : Nat) (b : List UInt8) (l : List Nat) : Nat := l.foldl (fun T i => stepT r T (blk b i)) 0
theorem accT_snoc (r : Nat) (b : List UInt8) (l : List Nat) (i : Nat) : accT r b (l ++ [i]) = stepT r (accT r b l) (blk b i) := by simp [accT]
theorem accT_tot (r : Nat) (b : List UInt8) (hr : r < 2 ^ 124) (l : List Nat) : Tot (accT r b l) := by
  have : ∀ (l : List Nat) (T : Nat), Tot T → Tot (l.foldl (fun T i => stepT r T (blk b i)) T) := by
    intro l
    induction l with
    | nil => intro T h; exact h
    | cons i l ih => intro T h; rw [List.foldl_cons]; exact ih _ (stepT_tot r T _ hr h (blk_len b i))
  exact this l 0 (by unfold Tot; omega)
theorem accT_acc (r : Nat) (b : List UInt8) : ∀ n, accT r b (List.range n) % pp = accS r b n := by
  intro n
  induction n with
  | zero => simp [accT, accS]
  | succ n ih =>
    rw [List.range_succ, accT_snoc, stepT, red_mod, accS, ← ih]
    unfold blk
    rw [Nat.mul_mod, Nat.add_mod, ← Nat.add_mod, Nat.mul_mod (accT r b (List.range n) % pp + _), Nat.add_mod (accT r b (List.range n) % pp), Nat.mod_mod, ← Nat.add_mod]
theorem tag_words (key b : List UInt8) : le16 (accT (lev (clamp key)) b (List.range ((b.length + 15) / 16)) % pp + lev ((key.drop 16).take 16)) = tagS key b := by
  rw [accT_acc]
  rfl
end Go.Proofs.Ytohpgfefdlccmaa.OneN

/-
  Poly1305: the clearing of a key, digits added, a block's step: plain mathematics. Conditions: in each statement.
-/
namespace Go.Proofs.Ytohpgfefdlccmaa.OneM

/-- The first clearing, n bytes of it. -/
def st1 (l : List UInt8) : Nat → List UInt8
  | 0 => l
  | n + 1 => (st1 l n).set (4 * n + 3) (UInt8.ofNat (((st1 l n).getD (4 * n + 3) 0).toNat % 16))
/-- The second. -/
def st2 (l : List UInt8) : Nat → List UInt8
  | 0 => l
  | n + 1 => (st2 l n).set (4 * n + 4) (UInt8.ofNat (((st2 l n).getD (4 * n + 4) 0).toNat / 4 * 4))
theorem st1_len (l : List UInt8) (n : Nat) : (st1 l n).length = l.length := by
  induction n with
  | zero => rfl
  | succ n ih => rw [st1, List.length_set, ih]
theorem st2_len (l : List UInt8) (n : Nat) : (st2 l n).length = l.length := by
  induction n with
  | zero => rfl
  | succ n ih => rw [st2, List.length_set, ih]
theorem take_map (l : List UInt8) (n : Nat) (h : n ≤ l.length) : l.take n = (List.range n).map fun k => l.getD k 0 := by
  apply List.ext_getElem?
  intro k
  by_cases hk : k < n
  · rw [List.getElem?_take, if_pos hk, List.getElem?_map, List.getElem?_range hk, List.getElem?_eq_getElem (by omega)]
    simp [List.getD_eq_getElem?_getD, List.getElem?_eq_getElem (show k < l.length by omega)]
  · rw [List.getElem?_eq_none (by simp; omega), List.getElem?_eq_none (by simp; omega)]
theorem clamp_eq (key : List UInt8) (h : 16 ≤ key.length) : clamp key = st2 (st1 (key.take 16) 4) 3 := by
  rw [take_map key 16 h]
  unfold clamp
  obtain ⟨f, hf⟩ : ∃ f : Nat → UInt8, ∀ k, key.getD k 0 = f k := ⟨_, fun _ => rfl⟩
  simp only [hf]
  kernel_rfl
theorem getD_at (l : List UInt8) (k : Nat) (h : k < l.length) : l.getD k 0 = l[k] := by
  rw [List.getD_eq_getElem?_getD, List.getElem?_eq_getElem h]; rfl

/-- Digits lose nothing. -/
theorem num_digs (v : Nat) : ∀ t, t ≤ 143 → num (digs v t) = v % 2 ^ t := by
  intro t
  induction t with
  | zero => intro _; rw [digs_zero]; simp [num, List.replicate, Nat.mod_one]
  | succ t ih =>
    intro h
    rw [mod_succ, ← ih (by omega)]
    rcases Nat.mod_two_eq_zero_or_one (v / 2 ^ t) with e | e
    · rw [e, digs_nobit v t e]; omega
    · rw [e, ← digs_bit v t (by omega) e]
      have h1 := num_set (digs v t) (t / 13) ((digs v t).getD (t / 13) 0 + 2 ^ (t % 13)) (by rw [digs_len]; omega)
      rw [Nat.add_mul] at h1
      have e2 : 2 ^ (t % 13) * 8192 ^ (t / 13) = 2 ^ t := by
        rw [show (8192 : Nat) = 2 ^ 13 by decide, ← Nat.pow_mul, ← Nat.pow_add]
        congr 1
        omega
      rw [e2] at h1
      omega
theorem digs_small (v t m : Nat) : (digs v t).getD m 0 < 8192 := by
  by_cases h : m < 11
  · rw [digs_at v t m h]; exact Nat.mod_lt _ (by decide)
  · rw [List.getD_eq_getElem?_getD, List.getElem?_eq_none (by rw [digs_len]; omega)]; decide
theorem digs_done (v : Nat) : DoneC (digs v 128) := by
  refine ⟨digs_len _ _, fun m _ => digs_small v 128 m, ?_⟩
  rw [digs_at v 128 10 (by decide), Nat.div_eq_of_lt (Nat.lt_of_lt_of_le (Nat.mod_lt _ (Nat.two_pow_pos 128)) (by decide))]
theorem zero_done : DoneC (List.replicate 11 0) := by
  refine ⟨rfl, fun m hm => ?_, rfl⟩
  rw [List.getD_eq_getElem?_getD, List.getElem?_replicate, if_pos (by omega)]; decide
theorem lev_full (l : List UInt8) (h : l.length ≤ 17) : num (digs (lev l) (8 * l.length)) = lev l := by
  rw [num_digs _ _ (by omega), Nat.mod_eq_of_lt]
  have := lev_lt l
  rwa [show (256 : Nat) = 2 ^ 8 by decide, ← Nat.pow_mul] at this
/-- Digit by digit. -/
def sumS (y a : List Nat) : List Nat := List.zipWith (· + ·) y a
def addS (y a : List Nat) (i : Nat) : List Nat := (sumS y a).take i ++ y.drop i
theorem sumS_len (y a : List Nat) (hy : y.length = 11) (ha : a.length = 11) : (sumS y a).length = 11 := by simp [sumS, hy, ha]
theorem sumS_at (y a : List Nat) (m : Nat) (hy : y.length = 11) (ha : a.length = 11) (hm : m < 11) : (sumS y a).getD m 0 = y.getD m 0 + a.getD m 0 := by
  unfold sumS
  rw [List.getD_eq_getElem?_getD, List.getElem?_zipWith, List.getD_eq_getElem?_getD, List.getD_eq_getElem?_getD, List.getElem?_eq_getElem (by omega), List.getElem?_eq_getElem (by omega)]
  rfl
theorem sumS_num (y : List Nat) : ∀ a : List Nat, y.length = a.length → num (sumS y a) = num y + num a := by
  induction y with
  | nil =>
    intro a h
    obtain rfl : a = [] := List.eq_nil_of_length_eq_zero h.symm
    rfl
  | cons x r ih =>
    intro a h
    cases a with
    | nil => cases h
    | cons z s =>
      have := ih s (by simpa using h)
      unfold sumS at this ⊢
      rw [List.zipWith_cons_cons, num, num, num, this]
      omega
theorem addS_len (y a : List Nat) (i : Nat) (hy : y.length = 11) (ha : a.length = 11) (hi : i ≤ 11) : (addS y a i).length = 11 := by
  simp [addS, sumS_len y a hy ha, hy]
  omega
theorem addS_at (y a : List Nat) (i : Nat) (hy : y.length = 11) (ha : a.length = 11) (hi : i < 11) : (addS y a i).getD i 0 = y.getD i 0 := by
  have h1 : ((sumS y a).take i).length = i := by rw [List.length_take, sumS_len y a hy ha]; omega
  unfold addS
  rw [List.getD_eq_getElem?_getD, List.getElem?_append_right (by omega), h1, Nat.sub_self, List.getElem?_drop, Nat.add_zero, ← List.getD_eq_getElem?_getD]
theorem addS_set (y a : List Nat) (i : Nat) (hy : y.length = 11) (ha : a.length = 11) (hi : i < 11) : (addS y a i).set i (y.getD i 0 + a.getD i 0) = addS y a (i + 1) := by
  have hs := sumS_len y a hy ha
  have h1 : ((sumS y a).take i).length = i := by rw [List.length_take, hs]; omega
  have h2 := sumS_at y a i hy ha hi
  rw [List.getD_eq_getElem?_getD (l := sumS y a), List.getElem?_eq_getElem (by omega), Option.getD_some] at h2
  unfold addS
  rw [List.set_append, if_neg (by omega), h1, Nat.sub_self, List.drop_eq_getElem_cons (l := y) (by omega), List.set_cons_zero, List.take_succ_eq_append_getElem (by omega), List.append_assoc, h2]
  rfl
theorem addS_zero (y a : List Nat) : addS y a 0 = y := by simp [addS]
theorem addS_all (y a : List Nat) (hy : y.length = 11) (ha : a.length = 11) : addS y a 11 = sumS y a := by
  unfold addS
  rw [List.take_of_length_le (by rw [sumS_len y a hy ha]; exact Nat.le_refl _), List.drop_of_length_le (by omega), List.append_nil]
theorem sumS_start (v t : Nat) (a : List Nat) (h : DoneC a) : StartC (sumS (digs v t) a) := by
  have hy := digs_len v t
  refine ⟨sumS_len _ _ hy h.1, fun m hm => ?_, ?_⟩
  · rw [sumS_at _ _ m hy h.1 hm]
    have h1 := digs_small v t m
    by_cases e : m = 10
    · subst e; rw [h.2.2]; omega
    · have := h.2.1 m (by omega); omega
  · rw [sumS_at _ _ 10 hy h.1 (by decide), h.2.2]
    have := digs_small v t 10
    omega
/-- A block's step. -/
theorem acc_step (r : Nat) (b : List UInt8) (n : Nat) (a y nx : List Nat) (hr : r < 2 ^ 128) (blk : List UInt8) (hblk : (b.drop (16 * n)).take 16 = blk) (hl : blk.length ≤ 16)
    (ha : num a % pp = accS r b n) (hla : a.length = 11) (hy : num y % pp = num (sumS (digs (lev (blk ++ [1])) (8 * (blk ++ [1]).length)) a) % pp) (hn : num nx % pp = (num y * num (digs r 128)) % pp) : num nx % pp = accS r b (n + 1) := by
  rw [hn, num_digs r 128 (by decide), Nat.mod_eq_of_lt hr, Nat.mul_mod, hy, sumS_num _ _ (by rw [digs_len, hla]), lev_full _ (by simp; omega), Nat.add_mod, ha, accS, hblk]
  have hacc : accS r b n % pp = accS r b n := by rw [← ha, Nat.mod_mod]
  rw [Nat.mul_mod (accS r b n + lev (blk ++ [1])) r pp, Nat.add_mod (accS r b n) _ pp, hacc, Nat.add_comm (lev (blk ++ [1]) % pp)]

end Go.Proofs.Ytohpgfefdlccmaa.OneM
