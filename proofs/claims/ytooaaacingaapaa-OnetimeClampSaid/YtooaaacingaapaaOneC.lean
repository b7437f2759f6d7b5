/-
  Carrying digits of 13 bits, what goes over 2^130 coming in again five times: plain mathematics. Conditions: in each statement.
-/
import Derived.Test.YtooaaacingaapaaOneM
namespace Go.Proofs.Ytooaaacingaapaa.OneM

/-- Digits as a number. -/
def num : List Nat → Nat
  | [] => 0
  | x :: r => x + 8192 * num r
def pp : Nat := 2 ^ 130 - 5
theorem num_set (d : List Nat) : ∀ (k x : Nat), k < d.length → num (d.set k x) + d.getD k 0 * 8192 ^ k = num d + x * 8192 ^ k := by
  induction d with
  | nil => intro k x h; exact absurd h (by simp)
  | cons y r ih =>
    intro k x h
    cases k with
    | zero => simp [num]; omega
    | succ k =>
      have := ih k x (by simpa using h)
      rw [List.set_cons_succ, num, num, List.getD_cons_succ, Nat.pow_succ]
      have e : ∀ z : Nat, z * (8192 ^ k * 8192) = 8192 * (z * 8192 ^ k) := fun z => by rw [← Nat.mul_assoc, Nat.mul_comm]
      rw [e, e]
      omega
theorem sum_set (d : List Nat) : ∀ (k x : Nat), k < d.length → (d.set k x).sum + d.getD k 0 = d.sum + x := by
  induction d with
  | nil => intro k x h; exact absurd h (by simp)
  | cons y r ih =>
    intro k x h
    cases k with
    | zero => simp; omega
    | succ k =>
      have := ih k x (by simpa using h)
      rw [List.set_cons_succ, List.sum_cons, List.sum_cons, List.getD_cons_succ]
      omega
theorem getD_set_ne (d : List Nat) (k m x : Nat) (h : m ≠ k) : (d.set k x).getD m 0 = d.getD m 0 := by
  rw [List.getD_eq_getElem?_getD, List.getElem?_set_ne (fun e => h e.symm), ← List.getD_eq_getElem?_getD]
theorem getD_set_same (d : List Nat) (k x : Nat) (h : k < d.length) : (d.set k x).getD k 0 = x := by
  rw [List.getD_eq_getElem?_getD, List.getElem?_set_self h]
  rfl
/-- One step: of digit k. -/
def stepC (d : List Nat) (k : Nat) : List Nat := if k = 10 then (d.set 10 0).set 0 (d.getD 0 0 + 5 * d.getD 10 0) else (d.set k (d.getD k 0 - d.getD k 0 / 8192 * 8192)).set (k + 1) (d.getD (k + 1) 0 + d.getD k 0 / 8192)
/-- What goes over. -/
def overC (d : List Nat) (k : Nat) : Nat := if k = 10 then d.getD 10 0 else d.getD k 0 / 8192
theorem stepC_len (d : List Nat) (k : Nat) : (stepC d k).length = d.length := by unfold stepC; split <;> simp
theorem stepC_num (d : List Nat) (k : Nat) (hl : d.length = 11) (hk : k < 11) : num (stepC d k) + overC d k * (if k = 10 then pp else 0) = num d := by
  unfold stepC overC
  by_cases h : k = 10
  · rw [if_pos h, if_pos h, if_pos h]
    have h1 := num_set d 10 0 (by omega)
    have h2 := num_set (d.set 10 0) 0 (d.getD 0 0 + 5 * d.getD 10 0) (by simp; omega)
    rw [getD_set_ne d 10 0 0 (by decide)] at h2
    simp only [Nat.pow_zero, Nat.mul_one, Nat.zero_mul, Nat.add_zero] at h1 h2
    have e : (8192 : Nat) ^ 10 = 2 ^ 130 := by decide
    rw [e] at h1
    have hp : pp + 5 = 2 ^ 130 := by decide
    have h3 : d.getD 10 0 * pp + d.getD 10 0 * 5 = d.getD 10 0 * 2 ^ 130 := by rw [← Nat.mul_add, hp]
    omega
  · rw [if_neg h, if_neg h, if_neg h, Nat.mul_zero, Nat.add_zero]
    obtain ⟨o, ho⟩ : ∃ o, d.getD k 0 / 8192 = o := ⟨_, rfl⟩
    rw [ho]
    have h1 := num_set d k (d.getD k 0 - o * 8192) (by omega)
    have h2 := num_set (d.set k (d.getD k 0 - o * 8192)) (k + 1) (d.getD (k + 1) 0 + o) (by simp; omega)
    rw [getD_set_ne d k (k + 1) _ (by omega)] at h2
    have hle : o * 8192 ≤ d.getD k 0 := by omega
    obtain ⟨q, hq⟩ : ∃ q, d.getD k 0 = q + o * 8192 := ⟨d.getD k 0 - o * 8192, by omega⟩
    have e : (8192 : Nat) ^ (k + 1) = 8192 ^ k * 8192 := Nat.pow_succ _ _
    rw [show d.getD k 0 - o * 8192 = q by omega] at h1 h2 ⊢
    rw [hq, Nat.add_mul] at h1
    rw [Nat.add_mul, e] at h2
    have e2 : o * (8192 ^ k * 8192) = o * 8192 * 8192 ^ k := by rw [Nat.mul_assoc, Nat.mul_comm 8192]
    rw [e2] at h2
    omega
theorem stepC_sum (d : List Nat) (k : Nat) (hl : d.length = 11) (hk : k < 11) : (stepC d k).sum + (if k = 10 then 0 else overC d k * 8191) = d.sum + (if k = 10 then 4 * overC d k else 0) := by
  unfold stepC overC
  by_cases h : k = 10
  · simp only [if_pos h]
    have h1 := sum_set d 10 0 (by omega)
    have h2 := sum_set (d.set 10 0) 0 (d.getD 0 0 + 5 * d.getD 10 0) (by simp; omega)
    rw [getD_set_ne d 10 0 0 (by decide)] at h2
    omega
  · simp only [if_neg h]
    have h1 := sum_set d k (d.getD k 0 - d.getD k 0 / 8192 * 8192) (by omega)
    have h2 := sum_set (d.set k (d.getD k 0 - d.getD k 0 / 8192 * 8192)) (k + 1) (d.getD (k + 1) 0 + d.getD k 0 / 8192) (by simp; omega)
    rw [getD_set_ne d k (k + 1) _ (by omega)] at h2
    omega
/-- The measure falls. -/
theorem stepC_less (d : List Nat) (k : Nat) (hl : d.length = 11) (hk : k < 11) (ho : 0 < overC d k) : num (stepC d k) + (stepC d k).sum < num d + d.sum := by
  have h1 := stepC_num d k hl hk
  have h2 := stepC_sum d k hl hk
  by_cases h : k = 10
  · simp only [if_pos h] at h1 h2
    have hp : pp = 4 + (pp - 4) := by decide
    have h3 : overC d k * pp = 4 * overC d k + overC d k * (pp - 4) := by rw [hp, Nat.mul_add, Nat.mul_comm _ 4]; rfl
    have h4 : 0 < overC d k * (pp - 4) := Nat.mul_pos ho (by decide)
    omega
  · simp only [if_neg h] at h1 h2
    omega
theorem stepC_mod (d : List Nat) (k : Nat) (hl : d.length = 11) (hk : k < 11) : num (stepC d k) % pp = num d % pp := by
  have h1 := stepC_num d k hl hk
  by_cases h : k = 10
  · simp only [if_pos h] at h1
    rw [← h1, Nat.add_mul_mod_self_right]
  · simp only [if_neg h] at h1
    rw [← h1, Nat.mul_zero, Nat.add_zero]
/-- What holds of the digits at the start of a pass. -/
def StartC (d : List Nat) : Prop := d.length = 11 ∧ (∀ m, m < 11 → d.getD m 0 < 2 ^ 44) ∧ d.getD 10 0 < 2 ^ 40
/-- .. and ahead of digit k. -/
def AtC (d : List Nat) (k : Nat) : Prop := d.length = 11 ∧ (∀ m, m < k → d.getD m 0 < 8192) ∧ d.getD k 0 < 2 ^ 44 + 2 ^ 32 ∧ (∀ m, k < m → m < 11 → d.getD m 0 < 2 ^ 44) ∧ d.getD 10 0 < 2 ^ 40 + 2 ^ 32 ∧ (k < 10 → d.getD 10 0 < 2 ^ 40)
theorem StartC.at_ {d : List Nat} (h : StartC d) : AtC d 0 := by
  obtain ⟨h1, h2, h3⟩ := h
  have := h2 0 (by decide)
  exact ⟨h1, fun m hm => by omega, by omega, fun m _ hm => h2 m hm, by omega, fun _ => h3⟩
theorem AtC.step {d : List Nat} {k : Nat} (h : AtC d k) (hk : k < 10) : AtC (stepC d k) (k + 1) := by
  obtain ⟨h1, h2, h3, h4, h5, h6⟩ := h
  have h6' := h6 hk
  refine ⟨by rw [stepC_len]; exact h1, ?_, ?_, ?_, ?_, ?_⟩
  · intro m hm
    unfold stepC
    rw [if_neg (by omega)]
    by_cases e : m = k
    · subst e
      rw [getD_set_ne _ _ _ _ (by omega), getD_set_same _ _ _ (by omega)]
      omega
    · rw [getD_set_ne _ _ _ _ (by omega), getD_set_ne _ _ _ _ e]
      exact h2 m (by omega)
  · unfold stepC
    rw [if_neg (by omega), getD_set_same _ _ _ (by simp; omega)]
    have := h4 (k + 1) (by omega) (by omega)
    omega
  · intro m hm hm11
    unfold stepC
    rw [if_neg (by omega), getD_set_ne _ _ _ _ (by omega), getD_set_ne _ _ _ _ (by omega)]
    exact h4 m (by omega) hm11
  · unfold stepC
    rw [if_neg (by omega)]
    by_cases e : k + 1 = 10
    · rw [e, getD_set_same _ _ _ (by simp; omega)]
      omega
    · rw [getD_set_ne _ _ _ _ (by omega), getD_set_ne _ _ _ _ (by omega)]
      exact h5
  · intro hk1
    unfold stepC
    rw [if_neg (by omega), getD_set_ne _ _ _ _ (by omega), getD_set_ne _ _ _ _ (by omega)]
    exact h6'
theorem AtC.skip {d : List Nat} {k : Nat} (h : AtC d k) (hk : k < 10) (ho : overC d k = 0) : AtC d (k + 1) := by
  obtain ⟨h1, h2, h3, h4, h5, h6⟩ := h
  unfold overC at ho
  rw [if_neg (by omega)] at ho
  refine ⟨h1, fun m hm => ?_, ?_, fun m hm => h4 m (by omega), h5, fun h => h6 (by omega)⟩
  · by_cases e : m = k
    · subst e; omega
    · exact h2 m (by omega)
  · have := h4 (k + 1) (by omega) (by omega)
    omega
theorem AtC.last {d : List Nat} (h : AtC d 10) : StartC (stepC d 10) := by
  obtain ⟨h1, h2, h3, h4, h5, h6⟩ := h
  have h0 := h2 0 (by decide)
  refine ⟨by rw [stepC_len]; exact h1, fun m hm => ?_, ?_⟩
  · unfold stepC
    rw [if_pos rfl]
    by_cases e : m = 0
    · subst e
      rw [getD_set_same _ _ _ (by simp; omega)]
      omega
    · rw [getD_set_ne _ _ _ _ e]
      by_cases e2 : m = 10
      · subst e2
        rw [getD_set_same _ _ _ (by omega)]
        decide
      · rw [getD_set_ne _ _ _ _ e2]
        have := h2 m (by omega)
        omega
  · unfold stepC
    rw [if_pos rfl, getD_set_ne _ _ _ _ (by decide), getD_set_same _ _ _ (by omega)]
    decide
theorem AtC.last_skip {d : List Nat} (h : AtC d 10) (ho : overC d 10 = 0) : StartC d := by
  obtain ⟨h1, h2, h3, h4, h5, h6⟩ := h
  unfold overC at ho
  rw [if_pos rfl] at ho
  refine ⟨h1, fun m hm => ?_, by omega⟩
  by_cases e : m = 10
  · subst e; omega
  · have := h2 m (by omega)
    omega
/-- Carried through. -/
def DoneC (d : List Nat) : Prop := d.length = 11 ∧ (∀ m, m < 10 → d.getD m 0 < 8192) ∧ d.getD 10 0 = 0
theorem done_of {d : List Nat} (hl : d.length = 11) (h : ∀ m, m < 11 → overC d m = 0) : DoneC d := by
  refine ⟨hl, fun m hm => ?_, ?_⟩
  · have := h m (by omega)
    unfold overC at this
    rw [if_neg (by omega)] at this
    omega
  · have := h 10 (by decide)
    unfold overC at this
    rw [if_pos rfl] at this
    exact this
end Go.Proofs.Ytooaaacingaapaa.OneM
