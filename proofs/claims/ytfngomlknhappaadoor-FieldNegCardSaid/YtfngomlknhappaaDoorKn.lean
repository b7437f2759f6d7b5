/-
  Several texts in one: NumA, NumF, FieldM, FieldL. What each holds stands at its head. Conditions: in each statement.
-/
import Derived.Test.YtfngomlknhappaaDoorProg

/-
  Primes without a library: pigeonhole, Fermat, Pocklington; 2^255 - 19 and the order of the curve's base point are prime. No program is named here. Conditions: in each statement.
-/
namespace Go.Proofs.YtfngomlknhappaaDoor.NumA

/-- A prime. -/
def Pr (n : Nat) : Prop := 2 ≤ n ∧ ∀ d, d ∣ n → d = 1 ∨ d = n

theorem Pr.coprime {q n : Nat} (h : Pr q) (hn : ¬ q ∣ n) : Nat.gcd q n = 1 := by
  rcases h.2 _ (Nat.gcd_dvd_left q n) with h1 | h1
  · exact h1
  · exact absurd (h1 ▸ Nat.gcd_dvd_right q n) hn
theorem Pr.dvd_mul {q a b : Nat} (h : Pr q) (hd : q ∣ a * b) : q ∣ a ∨ q ∣ b := by
  by_cases ha : q ∣ a
  · exact .inl ha
  · exact .inr (Nat.Coprime.dvd_of_dvd_mul_left (h.coprime ha) hd)
theorem Pr.dvd_pow {q a : Nat} (h : Pr q) : ∀ {k : Nat}, q ∣ a ^ k → q ∣ a
  | 0, hd => by
    rw [Nat.pow_zero] at hd
    have := Nat.le_of_dvd (by decide) hd
    have := h.1
    omega
  | k + 1, hd => by
    rw [Nat.pow_succ] at hd
    rcases h.dvd_mul hd with h1 | h1
    · exact h.dvd_pow h1
    · exact h1
/-- The smallest divisor from 2 on is a prime. -/
theorem least_factor (n : Nat) (h : 2 ≤ n) : ∃ r, Pr r ∧ r ∣ n := by
  induction n using Nat.strongRecOn with
  | _ n ih =>
    by_cases hp : Pr n
    · exact ⟨n, hp, Nat.dvd_refl n⟩
    · have : ∃ d, d ∣ n ∧ d ≠ 1 ∧ d ≠ n := by
        apply Classical.byContradiction
        intro hne
        refine hp ⟨h, fun d hd => ?_⟩
        by_cases h1 : d = 1
        · exact .inl h1
        · by_cases h2 : d = n
          · exact .inr h2
          · exact absurd ⟨d, hd, h1, h2⟩ hne
      obtain ⟨d, hd, h1, h2⟩ := this
      have hle := Nat.le_of_dvd (by omega) hd
      have hpos := Nat.pos_of_dvd_of_pos hd (by omega)
      obtain ⟨r, hr, hrd⟩ := ih d (by omega) (by omega)
      exact ⟨r, hr, Nat.dvd_trans hrd hd⟩
/-- What is no prime has a prime divisor whose square is not greater. -/
theorem small_factor (n : Nat) (h : 2 ≤ n) (hp : ¬ Pr n) : ∃ r, Pr r ∧ r ∣ n ∧ r * r ≤ n := by
  have : ∃ d, d ∣ n ∧ d ≠ 1 ∧ d ≠ n := by
    apply Classical.byContradiction
    intro hne
    refine hp ⟨h, fun d hd => ?_⟩
    by_cases h1 : d = 1
    · exact .inl h1
    · by_cases h2 : d = n
      · exact .inr h2
      · exact absurd ⟨d, hd, h1, h2⟩ hne
  obtain ⟨d, ⟨e, he⟩, h1, h2⟩ := this
  have hd0 : d ≠ 0 := fun h0 => by subst h0; omega
  have he0 : e ≠ 0 := fun h0 => by subst h0; omega
  have he1 : e ≠ 1 := fun h0 => by subst h0; omega
  rcases Nat.le_total d e with hde | hde
  · obtain ⟨r, hr, hrd⟩ := least_factor d (by omega)
    refine ⟨r, hr, Nat.dvd_trans hrd ⟨e, he⟩, ?_⟩
    have := Nat.le_of_dvd (by omega) hrd
    rw [he]
    exact Nat.mul_le_mul this (Nat.le_trans this hde)
  · obtain ⟨r, hr, hrd⟩ := least_factor e (by omega)
    refine ⟨r, hr, Nat.dvd_trans hrd ⟨d, by rw [Nat.mul_comm]; exact he⟩, ?_⟩
    have := Nat.le_of_dvd (by omega) hrd
    rw [he]
    exact Nat.mul_le_mul (Nat.le_trans this hde) this

/-- More things than places: two of them lie in one. -/
theorem pigeon : ∀ (n : Nat) (f : Nat → Nat), (∀ i, i ≤ n → f i < n) → ∃ i j, i < j ∧ j ≤ n ∧ f i = f j := by
  intro n
  induction n with
  | zero => intro f h; exact absurd (h 0 (Nat.le_refl _)) (by omega)
  | succ n ih =>
    intro f h
    by_cases hx : ∃ i, i ≤ n ∧ f i = f (n + 1)
    · obtain ⟨i, hi, e⟩ := hx
      exact ⟨i, n + 1, by omega, Nat.le_refl _, e⟩
    · have hv := h (n + 1) (Nat.le_refl _)
      have hne : ∀ i, i ≤ n → f i ≠ f (n + 1) := fun i hi e => hx ⟨i, hi, e⟩
      obtain ⟨i, j, hij, hj, e⟩ := ih (fun i => if f i = n then f (n + 1) else f i) (fun i hi => by
        have h1 := h i (by omega)
        have h2 := hne i hi
        split <;> omega)
      have h1 := hne i (by omega)
      have h2 := hne j hj
      refine ⟨i, j, hij, by omega, ?_⟩
      split at e <;> split at e <;> omega

/-- The product of f 1 .. f n. -/
def prodF (f : Nat → Nat) : Nat → Nat
  | 0 => 1
  | n + 1 => prodF f n * f (n + 1)
theorem prodF_congr {f g : Nat → Nat} : ∀ {n : Nat}, (∀ i, 1 ≤ i → i ≤ n → f i = g i) → prodF f n = prodF g n
  | 0, _ => rfl
  | n + 1, h => by rw [prodF, prodF, prodF_congr (fun i h1 h2 => h i h1 (by omega)), h (n + 1) (by omega) (Nat.le_refl _)]
theorem prodF_upd (f : Nat → Nat) (i0 v : Nat) : ∀ {n : Nat}, 1 ≤ i0 → i0 ≤ n → prodF (fun i => if i = i0 then v else f i) n * f i0 = prodF f n * v
  | 0, h1, h2 => by omega
  | n + 1, h1, h2 => by
    rw [prodF, prodF]
    by_cases h : i0 = n + 1
    · subst h
      rw [prodF_congr (g := f) (fun i _ h4 => by rw [if_neg (by omega)]), if_pos rfl]
      rw [Nat.mul_assoc, Nat.mul_comm v, ← Nat.mul_assoc]
    · have ih := prodF_upd f i0 v (n := n) h1 (by omega)
      rw [if_neg (by omega)]
      rw [Nat.mul_right_comm, ih, Nat.mul_right_comm]
/-- What is sent into itself, no two to one, has the same product. -/
theorem prodF_perm : ∀ (n : Nat) (f : Nat → Nat), (∀ i, 1 ≤ i → i ≤ n → 1 ≤ f i ∧ f i ≤ n) → (∀ i j, 1 ≤ i → i < j → j ≤ n → f i ≠ f j) → prodF f n = prodF (fun i => i) n := by
  intro n
  induction n with
  | zero => intros; rfl
  | succ n ih =>
    intro f hr hi
    have hx : ∃ i0, 1 ≤ i0 ∧ i0 ≤ n + 1 ∧ f i0 = n + 1 := by
      apply Classical.byContradiction
      intro hne
      obtain ⟨i, j, hij, hj, e⟩ := pigeon n (fun i => f (i + 1) - 1) (fun i hi' => by
        have h1 := hr (i + 1) (by omega) (by omega)
        have h2 : f (i + 1) ≠ n + 1 := fun e => hne ⟨i + 1, by omega, by omega, e⟩
        omega)
      have h1 := hr (i + 1) (by omega) (by omega)
      have h2 := hr (j + 1) (by omega) (by omega)
      exact hi (i + 1) (j + 1) (by omega) (by omega) (by omega) (by omega)
    obtain ⟨i0, h1, h2, h3⟩ := hx
    rw [prodF]
    by_cases h : i0 = n + 1
    · subst h
      rw [h3, prodF, ih f (fun i h4 h5 => by
        have h6 := hr i h4 (by omega)
        have h7 := hi i (n + 1) h4 (by omega) (Nat.le_refl _)
        omega) (fun i j h4 h5 h6 => hi i j h4 h5 (by omega))]
    · have hu := prodF_upd f i0 (f (n + 1)) (n := n) h1 (by omega)
      have hg := ih (fun i => if i = i0 then f (n + 1) else f i) (fun i h4 h5 => by
        have h6 := hr i h4 (by omega)
        have h7 := hr (n + 1) (by omega) (Nat.le_refl _)
        have h8 := hi i0 (n + 1) h1 (by omega) (Nat.le_refl _)
        split
        · omega
        · rename_i hne
          have h9 : f i ≠ f i0 := by
            rcases Nat.lt_or_gt_of_ne hne with h | h
            · exact hi i i0 h4 h (by omega)
            · exact fun e => hi i0 i h1 h (by omega) e.symm
          omega) (fun i j h4 h5 h6 => by
        have h7 := hi i (n + 1) h4 (by omega) (Nat.le_refl _)
        have h8 := hi j (n + 1) (by omega) (by omega) (Nat.le_refl _)
        have h9 := hi i j h4 h5 (by omega)
        split <;> split <;> omega)
      rw [hg, h3] at hu
      rw [← hu, prodF]

/-- n!, modulo a prime that is greater, is not 0. -/
theorem Pr.fact {r : Nat} (h : Pr r) : ∀ n, n < r → ¬ r ∣ prodF (fun i => i) n
  | 0, _, hd => by
    have := Nat.le_of_dvd (by decide) hd
    have := h.1
    simp [prodF] at this hd
    omega
  | n + 1, hn, hd => by
    rw [prodF] at hd
    rcases h.dvd_mul hd with h1 | h1
    · exact h.fact n (by omega) h1
    · have := Nat.le_of_dvd (by omega) h1
      omega
theorem prodF_mod (a r : Nat) : ∀ n, prodF (fun i => a * i % r) n % r = a ^ n * prodF (fun i => i) n % r
  | 0 => by simp [prodF]
  | n + 1 => by
    rw [prodF, prodF, Nat.mul_mod, prodF_mod a r n, Nat.mod_mod, ← Nat.mul_mod, Nat.pow_succ]
    congr 1
    rw [Nat.mul_assoc, Nat.mul_assoc, Nat.mul_left_comm (prodF (fun i => i) n)]
theorem dvd_of_mod_eq {r x y : Nat} (hxy : y ≤ x) (h : x % r = y % r) : r ∣ x - y := by
  refine ⟨x / r - y / r, ?_⟩
  have h1 := Nat.div_add_mod x r
  have h2 := Nat.div_add_mod y r
  have h3 : y / r ≤ x / r := Nat.div_le_div_right hxy
  rw [Nat.mul_sub]
  omega
/-- Fermat's theorem. -/
theorem Pr.fermat {r a : Nat} (h : Pr r) (ha : ¬ r ∣ a) : a ^ (r - 1) % r = 1 := by
  have h2 := h.1
  have key : prodF (fun i => a * i % r) (r - 1) = prodF (fun i => i) (r - 1) := by
    refine prodF_perm (r - 1) _ (fun i h1 h3 => ?_) (fun i j h1 h3 h4 e => ?_)
    · have hlt := Nat.mod_lt (a * i) (show r > 0 by omega)
      refine ⟨?_, by omega⟩
      apply Classical.byContradiction
      intro hz
      have hd : r ∣ a * i := Nat.dvd_of_mod_eq_zero (by omega)
      rcases h.dvd_mul hd with h5 | h5
      · exact ha h5
      · have := Nat.le_of_dvd (by omega) h5
        omega
    · have hd := dvd_of_mod_eq (r := r) (x := a * j) (y := a * i) (Nat.mul_le_mul_left a (by omega)) e.symm
      rw [← Nat.mul_sub] at hd
      rcases h.dvd_mul hd with h5 | h5
      · exact ha h5
      · have := Nat.le_of_dvd (by omega) h5
        omega
  have hm := prodF_mod a r (r - 1)
  rw [key] at hm
  have ha0 : 0 < a := Nat.pos_of_ne_zero (fun e => ha (by rw [e]; exact Nat.dvd_zero r))
  have hp : 1 ≤ a ^ (r - 1) := Nat.pow_pos ha0
  have hd := dvd_of_mod_eq (r := r) (x := a ^ (r - 1) * prodF (fun i => i) (r - 1)) (y := prodF (fun i => i) (r - 1)) (Nat.le_mul_of_pos_left _ hp) hm.symm
  rw [show a ^ (r - 1) * prodF (fun i => i) (r - 1) - prodF (fun i => i) (r - 1) = (a ^ (r - 1) - 1) * prodF (fun i => i) (r - 1) by rw [Nat.sub_mul, Nat.one_mul]] at hd
  rcases h.dvd_mul hd with h5 | h5
  · obtain ⟨k, hk⟩ := h5
    have : a ^ (r - 1) = 1 + r * k := by omega
    rw [this, Nat.add_mul_mod_self_left, Nat.mod_eq_of_lt (by omega)]
  · exact absurd h5 (h.fact _ (by omega))

/-- Exponents that give 1 are closed under the greatest common divisor. -/
theorem pow_gcd {a r : Nat} (hr : 2 ≤ r) : ∀ x y, a ^ x % r = 1 → a ^ y % r = 1 → a ^ (Nat.gcd x y) % r = 1 := by
  intro x y
  induction x, y using Nat.gcd.induction with
  | H0 y => intro _ h; rw [Nat.gcd_zero_left]; exact h
  | H1 x y hx ih =>
    intro h1 h2
    rw [Nat.gcd_rec]
    refine ih ?_ h1
    have e : a ^ y = (a ^ x) ^ (y / x) * a ^ (y % x) := by rw [← Nat.pow_mul, ← Nat.pow_add, Nat.div_add_mod]
    rw [e, Nat.mul_mod, Nat.pow_mod, h1, Nat.one_pow, Nat.mod_eq_of_lt (show 1 < r by omega), Nat.one_mul, Nat.mod_mod] at h2
    exact h2
theorem mod_of_dvd {a r n : Nat} (hd : r ∣ n) (hr : 2 ≤ r) (h : a % n = 1) : a % r = 1 := by
  rw [← Nat.mod_mod_of_dvd a hd, h, Nat.mod_eq_of_lt (by omega)]
/-- Pocklington's theorem, with one prime divisor of n - 1 and a few trials. -/
theorem pock (n q m a K : Nat) (hq : Pr q) (hn : n = q * m + 1) (hm : 1 ≤ m) (h1 : a ^ (n - 1) % n = 1) (h2 : Nat.gcd (a ^ m % n + n - 1) n = 1)
    (hK : ∀ k, 1 ≤ k → k ≤ K → n % (k * q + 1) ≠ 0) (hs : n < ((K + 1) * q + 1) * ((K + 1) * q + 1)) : Pr n := by
  have hq2 := hq.1
  have hn2 : 2 ≤ n := by
    have := Nat.mul_le_mul hq2 hm
    omega
  apply Classical.byContradiction
  intro hp
  obtain ⟨r, hr, hrn, hrr⟩ := small_factor n hn2 hp
  have hr2 := hr.1
  have h1r : a ^ (n - 1) % r = 1 := mod_of_dvd hrn hr2 h1
  have har : ¬ r ∣ a := fun hd => by
    have h3 : a ^ (n - 1) % r = 0 := Nat.mod_eq_zero_of_dvd (Nat.dvd_trans hd ⟨a ^ (n - 2), by rw [← Nat.pow_succ']; congr 1; omega⟩)
    omega
  have hf := hr.fermat har
  by_cases hqr : q ∣ r - 1
  · obtain ⟨k, hk⟩ := hqr
    have hkr : r = k * q + 1 := by rw [Nat.mul_comm]; omega
    have hk1 : 1 ≤ k := by
      rcases Nat.eq_zero_or_pos k with h | h
      · subst h; omega
      · exact h
    rcases Nat.lt_or_ge K k with h | h
    · have h3 : (K + 1) * q + 1 ≤ r := by rw [hkr]; exact Nat.succ_le_succ (Nat.mul_le_mul_right q h)
      have := Nat.mul_le_mul h3 h3
      omega
    · exact hK k hk1 h (by rw [← hkr]; exact Nat.mod_eq_zero_of_dvd hrn)
  · have hg := pow_gcd hr2 (r - 1) (n - 1) hf h1r
    have hcop : Nat.Coprime (Nat.gcd (r - 1) (n - 1)) q := by
      have h3 := hq.coprime hqr
      exact Nat.Coprime.symm (Nat.Coprime.coprime_dvd_right (Nat.gcd_dvd_left _ _) h3)
    have hdm : Nat.gcd (r - 1) (n - 1) ∣ m := by
      refine Nat.Coprime.dvd_of_dvd_mul_left hcop ?_
      have := Nat.gcd_dvd_right (r - 1) (n - 1)
      rw [show n - 1 = q * m by omega] at this ⊢
      exact this
    obtain ⟨c, hc⟩ := hdm
    have ham : a ^ m % r = 1 := by rw [hc, Nat.pow_mul, Nat.pow_mod, hg, Nat.one_pow, Nat.mod_eq_of_lt (by omega)]
    have hrd : r ∣ a ^ m % n + n - 1 := by
      have h3 : a ^ m % n % r = 1 := by rw [Nat.mod_mod_of_dvd _ hrn]; exact ham
      obtain ⟨e, he⟩ := hrn
      have h4 := Nat.div_add_mod (a ^ m % n) r
      rw [h3] at h4
      refine ⟨a ^ m % n / r + e, ?_⟩
      rw [Nat.mul_add, ← he]
      omega
    have := Nat.dvd_gcd hrd hrn
    rw [h2] at this
    have := Nat.le_of_dvd (by decide) this
    omega

/-- A power modulo n, by squaring. -/
def pm (n : Nat) : Nat → Nat → Nat → Nat
  | 0, _, _ => 1 % n
  | f + 1, a, e => if e = 0 then 1 % n else if e % 2 = 1 then a * pm n f (a * a % n) (e / 2) % n else pm n f (a * a % n) (e / 2)
theorem pm_eq (n : Nat) : ∀ (f a e : Nat), e < 2 ^ f → pm n f a e = a ^ e % n
  | 0, a, e, h => by
    obtain rfl : e = 0 := by simpa using h
    simp [pm]
  | f + 1, a, e, h => by
    rw [pm]
    by_cases h0 : e = 0
    · rw [if_pos h0, h0, Nat.pow_zero]
    · rw [if_neg h0, pm_eq n f (a * a % n) (e / 2) (by rw [Nat.pow_succ] at h; omega)]
      have hp : (a * a % n) ^ (e / 2) % n = a ^ (2 * (e / 2)) % n := by rw [← Nat.pow_mod, Nat.pow_mul, Nat.pow_two]
      by_cases h1 : e % 2 = 1
      · rw [if_pos h1, Nat.mul_mod, Nat.mod_mod, hp, ← Nat.mul_mod, Nat.mul_comm, ← Nat.pow_succ, show (2 * (e / 2)).succ = e by omega]
      · rw [if_neg h1, hp, show 2 * (e / 2) = e by omega]

/-- A prime by trial. -/
def trial (n : Nat) : Nat → Bool
  | 0 => true
  | k + 1 => (decide (k + 1 < 2) || decide (n % (k + 1) ≠ 0)) && trial n k
theorem trial_spec (n : Nat) : ∀ k, trial n k = true → ∀ d, 2 ≤ d → d ≤ k → ¬ d ∣ n
  | 0, _, d, h1, h2, _ => by omega
  | k + 1, h, d, h1, h2, hd => by
    simp only [trial, Bool.and_eq_true, Bool.or_eq_true, decide_eq_true_eq] at h
    by_cases he : d = k + 1
    · subst he
      rcases h.1 with h3 | h3
      · omega
      · exact h3 (Nat.mod_eq_zero_of_dvd hd)
    · exact trial_spec n k h.2 d h1 (by omega) hd
theorem pr_trial (n k : Nat) (h2 : 2 ≤ n) (ht : trial n k = true) (hk : n < (k + 1) * (k + 1)) : Pr n := by
  apply Classical.byContradiction
  intro hp
  obtain ⟨r, hr, hrn, hrr⟩ := small_factor n h2 hp
  have hrk : r ≤ k := by
    rcases Nat.lt_or_ge k r with h | h
    · have h3 : k + 1 ≤ r := h
      have := Nat.mul_le_mul h3 h3
      omega
    · exact h
  exact trial_spec n k ht r hr.1 hrk hrn

/-- The trials of Pocklington's theorem. -/
def tries (n q : Nat) : Nat → Bool
  | 0 => true
  | k + 1 => decide (n % ((k + 1) * q + 1) ≠ 0) && tries n q k
theorem tries_spec (n q : Nat) : ∀ K, tries n q K = true → ∀ k, 1 ≤ k → k ≤ K → n % (k * q + 1) ≠ 0
  | 0, _, k, h1, h2 => by omega
  | K + 1, h, k, h1, h2 => by
    simp only [tries, Bool.and_eq_true, decide_eq_true_eq] at h
    by_cases he : k = K + 1
    · subst he; exact h.1
    · exact tries_spec n q K h.2 k h1 (by omega)
theorem pock2 (n q m a K f : Nat) (hq : Pr q) (h : (decide (n = q * m + 1) && decide (1 ≤ m) && decide (n ≤ 2 ^ f) && decide (pm n f a (n - 1) = 1) && decide (Nat.gcd (pm n f a m + n - 1) n = 1) && tries n q K && decide (n < ((K + 1) * q + 1) * ((K + 1) * q + 1))) = true) : Pr n := by
  simp only [Bool.and_eq_true, decide_eq_true_eq] at h
  obtain ⟨⟨⟨⟨⟨⟨h1, h2⟩, h3⟩, h4⟩, h5⟩, h6⟩, h7⟩ := h
  have hq2 := hq.1
  have hm1 : m ≤ q * m := Nat.le_mul_of_pos_left m (by omega)
  rw [pm_eq n f a _ (by omega)] at h4
  rw [pm_eq n f a _ (by omega)] at h5
  exact pock n q m a K hq h1 h2 h4 h5 (tries_spec n q K h6) h7

theorem pr1 : Pr 8574133 := pr_trial 8574133 2928 (by decide) (by decide +kernel) (by decide)
theorem pr2 : Pr 1919519569386763 := pock2 _ 8574133 223873314 2 5 51 pr1 (by decide +kernel)
theorem pr3 : Pr 75445702479781427272750846543864801 := pock2 _ 1919519569386763 39304471641247389600 2 143 116 pr2 (by decide +kernel)
theorem pr4 : Pr 74058212732561358302231226437062788676166966415465897661863160754340907 := pock2 _ 75445702479781427272750846543864801 981609426360740691344999861639072106 2 3 236 pr3 (by decide +kernel)
/-- 2^255 - 19. -/
def P : Nat := 57896044618658097711785492504343953926634992332820282019728792003956564819949
theorem P_eq : P = 2 ^ 255 - 19 := by decide +kernel
theorem P_prime : Pr P := pock2 _ 74058212732561358302231226437062788676166966415465897661863160754340907 781764 2 0 255 pr4 (by decide +kernel)
theorem pr5 : Pr 1224481 := pr_trial 1224481 1107 (by decide) (by decide +kernel) (by decide)
theorem pr6 : Pr 1257559732178653 := pock2 _ 1224481 1027014492 2 28 51 pr5 (by decide +kernel)
theorem pr7 : Pr 4434155615661930479 := pock2 _ 1257559732178653 3526 2 0 62 pr6 (by decide +kernel)
theorem pr8 : Pr 172054593956031949258510691 := pock2 _ 4434155615661930479 38802110 2 0 88 pr7 (by decide +kernel)
theorem pr9 : Pr 19757330305831588566944191468367130476339 := pock2 _ 172054593956031949258510691 114831751082918 2 0 134 pr8 (by decide +kernel)
theorem pr10 : Pr 276602624281642239937218680557139826668747 := pock2 _ 19757330305831588566944191468367130476339 14 2 0 138 pr9 (by decide +kernel)
/-- The order of the base point. -/
def L : Nat := 7237005577332262213973186563042994240857116359379907606001950938285454250989
theorem L_eq : L = 2 ^ 252 + 27742317777372353535851937790883648493 := by decide +kernel
theorem L_prime : Pr L := pock2 _ 276602624281642239937218680557139826668747 26163907866482859529727157400808004 2 0 253 pr10 (by decide +kernel)
end Go.Proofs.YtfngomlknhappaaDoor.NumA

/-
  The field of 2^255 - 19 elements: inverses, no divisors of 0, squares and their roots. No program is named here. Conditions: in each statement.
-/
namespace Go.Proofs.YtfngomlknhappaaDoor.NumF
open NumA

instance : NeZero P := ⟨by decide +kernel⟩
/-- The field. -/
abbrev F := Fin P
theorem one_val : (1 : F).val = 1 := by decide +kernel
theorem zero_val : (0 : F).val = 0 := rfl
theorem P_pos : 0 < P := by decide +kernel
theorem val_mul (a b : F) : (a * b).val = a.val * b.val % P := Fin.val_mul a b
theorem val_add (a b : F) : (a + b).val = (a.val + b.val) % P := Fin.val_add a b
theorem of_val {a b : F} (h : a.val = b.val) : a = b := Fin.ext h
theorem ne_one : (1 : F) ≠ 0 := by decide +kernel

theorem mul_zero_or {a b : F} (h : a * b = 0) : a = 0 ∨ b = 0 := by
  have h1 : a.val * b.val % P = 0 := by rw [← val_mul, h]; rfl
  rcases P_prime.dvd_mul (Nat.dvd_of_mod_eq_zero h1) with h2 | h2
  · exact .inl (of_val (by
      have := a.isLt
      rcases Nat.eq_zero_or_pos a.val with h3 | h3
      · exact h3
      · have := Nat.le_of_dvd h3 h2; omega))
  · exact .inr (of_val (by
      have := b.isLt
      rcases Nat.eq_zero_or_pos b.val with h3 | h3
      · exact h3
      · have := Nat.le_of_dvd h3 h2; omega))
theorem mul_ne {a b : F} (ha : a ≠ 0) (hb : b ≠ 0) : a * b ≠ 0 := fun h => (mul_zero_or h).elim ha hb
theorem cancel {a b c : F} (ha : a ≠ 0) (h : a * b = a * c) : b = c := by
  have h1 : a * (b - c) = 0 := by grind
  rcases mul_zero_or h1 with h2 | h2
  · exact absurd h2 ha
  · grind
theorem sq_eq {a b : F} (h : a * a = b * b) : a = b ∨ a = -b := by
  have h1 : (a - b) * (a + b) = 0 := by grind
  rcases mul_zero_or h1 with h2 | h2
  · exact .inl (by grind)
  · exact .inr (by grind)

/-- Powers. -/
def fp (a : F) : Nat → F
  | 0 => 1
  | k + 1 => fp a k * a
theorem fp_val (a : F) : ∀ k, (fp a k).val = a.val ^ k % P
  | 0 => by rw [fp, one_val, Nat.pow_zero]; decide +kernel
  | k + 1 => by rw [fp, val_mul, fp_val a k, Nat.pow_succ, Nat.mod_mul_mod]
theorem fp_add (a : F) (k m : Nat) : fp a (k + m) = fp a k * fp a m := by
  induction m with
  | zero => rw [Nat.add_zero, fp]; grind
  | succ m ih => rw [Nat.add_succ, fp, fp, ih]; grind
theorem fp_one (k : Nat) : fp 1 k = 1 := by
  induction k with
  | zero => rfl
  | succ k ih => rw [fp, ih]; grind
theorem fp_mul (a b : F) (k : Nat) : fp (a * b) k = fp a k * fp b k := by
  induction k with
  | zero => rw [fp, fp, fp]; grind
  | succ k ih => rw [fp, fp, fp, ih]; grind
theorem fp_fp (a : F) (k m : Nat) : fp a (k * m) = fp (fp a k) m := by
  induction m with
  | zero => rfl
  | succ m ih => rw [Nat.mul_succ, fp_add, ih, fp]
theorem fp_ne {a : F} (ha : a ≠ 0) (k : Nat) : fp a k ≠ 0 := by
  induction k with
  | zero => exact ne_one
  | succ k ih => exact mul_ne ih ha
theorem fp_zero (k : Nat) (h : 1 ≤ k) : fp 0 k = 0 := by
  cases k with
  | zero => omega
  | succ k => rw [fp]; grind
theorem not_dvd {a : F} (ha : a ≠ 0) : ¬ P ∣ a.val := fun h => by
  have := a.isLt
  rcases Nat.eq_zero_or_pos a.val with h3 | h3
  · exact ha (of_val h3)
  · have := Nat.le_of_dvd h3 h; omega
/-- Fermat. -/
theorem fermat {a : F} (ha : a ≠ 0) : fp a (P - 1) = 1 := of_val (by rw [fp_val, P_prime.fermat (not_dvd ha), one_val])
theorem mul_inv {a : F} (ha : a ≠ 0) : a * fp a (P - 2) = 1 := by
  have h := fermat ha
  rw [show P - 1 = (P - 2) + 1 by decide +kernel, fp] at h
  rw [← h]
  grind
/-- The inverse (of 0: 0). -/
def inv (a : F) : F := fp a (P - 2)
theorem inv_mul {a : F} (ha : a ≠ 0) : a * inv a = 1 := mul_inv ha
theorem inv_zero : inv 0 = 0 := fp_zero _ (by decide +kernel)
theorem inv_of {a b : F} (h : a * b = 1) : inv a = b := by
  have ha : a ≠ 0 := fun e => ne_one (by rw [← h, e]; grind)
  have h1 := inv_mul ha
  exact cancel ha (by rw [h1, h])
theorem inv_ne {a : F} (ha : a ≠ 0) : inv a ≠ 0 := fp_ne ha _
theorem inv_inv {a : F} : inv (inv a) = a := by
  by_cases ha : a = 0
  · subst ha; rw [inv_zero, inv_zero]
  · exact inv_of (by have := inv_mul ha; grind)

/-- A square. -/
def Sq (a : F) : Prop := ∃ b, b * b = a
theorem Sq.zero : Sq 0 := ⟨0, by grind⟩
theorem Sq.mul {a b : F} (h : Sq a) (k : Sq b) : Sq (a * b) := by
  obtain ⟨x, rfl⟩ := h
  obtain ⟨y, rfl⟩ := k
  exact ⟨x * y, by grind⟩
theorem Sq.inv {a : F} (h : Sq a) : Sq (inv a) := by
  obtain ⟨x, rfl⟩ := h
  refine ⟨NumF.inv x, ?_⟩
  by_cases hx : x = 0
  · subst hx
    rw [inv_zero]
    rw [show (0 : F) * 0 = 0 by grind, inv_zero]
  · have h1 := inv_mul hx
    exact (inv_of (by grind)).symm
/-- Half of P - 1, and the like. -/
def H : Nat := 28948022309329048855892746252171976963317496166410141009864396001978282409974
theorem H_eq : P - 1 = H + H := by decide +kernel
def Q4 : Nat := 14474011154664524427946373126085988481658748083205070504932198000989141204987
theorem Q4_eq : H = Q4 + Q4 := by decide +kernel
/-- (P + 3) / 8. -/
def E8 : Nat := 7237005577332262213973186563042994240829374041602535252466099000494570602494
theorem E8_eq : E8 + E8 = Q4 + 1 := by decide +kernel
theorem half {a : F} (ha : a ≠ 0) : fp a H = 1 ∨ fp a H = -1 := by
  have h := fermat ha
  rw [H_eq, fp_add] at h
  have h1 : fp a H * fp a H = 1 * 1 := by grind
  exact sq_eq h1
theorem quarter {a : F} (h : fp a H = 1) : fp a Q4 = 1 ∨ fp a Q4 = -1 := by
  rw [Q4_eq, fp_add] at h
  have h1 : fp a Q4 * fp a Q4 = 1 * 1 := by grind
  exact sq_eq h1
/-- A root of -1. -/
def I4 : F := ⟨pm P 255 2 Q4, by decide +kernel⟩
theorem I4_sq : I4 * I4 = -1 := by decide +kernel
theorem two_val : (2 : F).val = 2 := by decide +kernel
theorem I4_fp : fp 2 Q4 = I4 := of_val (by rw [fp_val, two_val, ← pm_eq P 255 2 Q4 (by decide +kernel)]; rfl)
theorem neg_one_ne : (1 : F) ≠ -1 := by decide +kernel
/-- The candidate's square. -/
theorem cand (a : F) : fp a E8 * fp a E8 = fp a Q4 * a := by rw [← fp_add, E8_eq, fp_add, fp, fp]; grind
/-- Euler's criterion: one way, and the other with the root. -/
theorem euler1 {a : F} (ha : a ≠ 0) (h : Sq a) : fp a H = 1 := by
  obtain ⟨b, rfl⟩ := h
  have hb : b ≠ 0 := fun e => ha (by rw [e]; grind)
  rw [fp_mul, ← fp_add, ← H_eq]
  exact fermat hb
theorem root_of {a : F} (h : fp a H = 1) : fp a E8 * fp a E8 = a ∨ (fp a E8 * I4) * (fp a E8 * I4) = a := by
  have hc := cand a
  have hI := I4_sq
  rcases quarter h with h1 | h1
  · left; rw [hc, h1]; grind
  · right
    rw [h1] at hc
    grind
theorem euler2 {a : F} (h : fp a H = 1) : Sq a := by
  rcases root_of h with h1 | h1
  · exact ⟨_, h1⟩
  · exact ⟨_, h1⟩
theorem nonsq {a : F} (h : ¬ Sq a) : fp a H = -1 := by
  have ha : a ≠ 0 := fun e => h (by rw [e]; exact Sq.zero)
  rcases half ha with h1 | h1
  · exact absurd (euler2 h1) h
  · exact h1
theorem nonsq_of {a : F} (h : fp a H = -1) : ¬ Sq a := fun hs => by
  have ha : a ≠ 0 := fun e => by
    rw [e, fp_zero H (by decide +kernel)] at h
    exact absurd h (by decide +kernel)
  have := euler1 ha hs
  rw [h] at this
  exact neg_one_ne this.symm
/-- Of two that are no squares the product is one. -/
theorem nonsq_mul {a b : F} (ha : ¬ Sq a) (hb : ¬ Sq b) : Sq (a * b) := euler2 (by rw [fp_mul, nonsq ha, nonsq hb]; decide +kernel)
theorem sq_nonsq {a b : F} (ha : a ≠ 0) (hs : Sq a) (hb : ¬ Sq b) : ¬ Sq (a * b) := nonsq_of (by rw [fp_mul, euler1 ha hs, nonsq hb]; decide +kernel)
theorem not_sq_two : ¬ Sq 2 := nonsq_of (of_val (by rw [fp_val, two_val, ← pm_eq P 255 2 H (by decide +kernel)]; decide +kernel))
theorem sq_neg_one : Sq (-1) := ⟨I4, I4_sq⟩
end Go.Proofs.YtfngomlknhappaaDoor.NumF

/-
  Numbers below 2^255 - 19 as 32 bytes, the least first; what the functions of package field answer: plain mathematics. Conditions: in each statement.
-/
namespace Go.Proofs.YtfngomlknhappaaDoor.FieldM
open NumA NumF

/-- The number of bytes, the least first. -/
def leN : List UInt8 → Nat
  | [] => 0
  | x :: r => x.toNat + 256 * leN r
/-- A number's 32 bytes. -/
def ln (n : Nat) : List UInt8 := (List.range 32).map fun k => UInt8.ofNat (n / 256 ^ k)
theorem ln_len (n : Nat) : (ln n).length = 32 := by simp [ln]
theorem leN_lt (l : List UInt8) : leN l < 256 ^ l.length := by
  induction l with
  | nil => decide
  | cons x r ih =>
    have := x.toNat_lt
    rw [leN, List.length_cons, Nat.pow_succ]
    omega
theorem leN_at (l : List UInt8) : ∀ k, k < l.length → UInt8.ofNat (leN l / 256 ^ k) = l.getD k 0 := by
  induction l with
  | nil => intro k h; exact absurd h (by simp)
  | cons x r ih =>
    intro k h
    cases k with
    | zero =>
      rw [leN, Nat.pow_zero, Nat.div_one, List.getD_cons_zero]
      apply UInt8.toNat_inj.1
      rw [UInt8.toNat_ofNat']
      have := x.toNat_lt
      omega
    | succ k =>
      have hx := x.toNat_lt
      rw [leN, List.getD_cons_succ, ← ih k (by simpa using h), Nat.pow_succ, Nat.mul_comm (256 ^ k) 256, ← Nat.div_div_eq_div_mul, show (x.toNat + 256 * leN r) / 256 = leN r by omega]
theorem ln_leN (l : List UInt8) (h : l.length = 32) : ln (leN l) = l := by
  apply List.ext_getElem?
  intro k
  by_cases hk : k < 32
  · have h1 := leN_at l k (by omega)
    rw [List.getD_eq_getElem?_getD, List.getElem?_eq_getElem (by omega)] at h1
    unfold ln
    rw [List.getElem?_map, List.getElem?_range hk, List.getElem?_eq_getElem (by omega)]
    exact congrArg some h1
  · rw [List.getElem?_eq_none (by rw [ln_len]; omega), List.getElem?_eq_none (by omega)]
theorem leN_map (m : Nat) : ∀ n, leN ((List.range m).map fun k => UInt8.ofNat (n / 256 ^ k)) = n % 256 ^ m := by
  induction m with
  | zero => intro n; simp [leN, Nat.mod_one]
  | succ m ih =>
    intro n
    rw [List.range_succ_eq_map, List.map_cons, List.map_map, leN, Nat.pow_zero, Nat.div_one, UInt8.toNat_ofNat']
    have e : ((fun k => UInt8.ofNat (n / 256 ^ k)) ∘ Nat.succ) = fun k => UInt8.ofNat (n / 256 / 256 ^ k) := by
      funext k
      show UInt8.ofNat (n / 256 ^ (k + 1)) = _
      rw [Nat.pow_succ, Nat.mul_comm, Nat.div_div_eq_div_mul]
    rw [e, ih, show (256 : Nat) ^ (m + 1) = 256 * 256 ^ m by rw [Nat.pow_succ, Nat.mul_comm], Nat.mod_mul]
theorem leN_ln {n : Nat} (h : n < 256 ^ 32) : leN (ln n) = n := by
  unfold ln
  rw [leN_map, Nat.mod_eq_of_lt h]
theorem P_lt : P < 256 ^ 32 := by decide +kernel
def zeros : List UInt8 := List.replicate 32 0
theorem zeros_len : zeros.length = 32 := rfl
theorem leN_zeros : leN zeros = 0 := by decide +kernel

/-- The element of a number. -/
def el (n : Nat) : F := ⟨n % P, Nat.mod_lt _ P_pos⟩
def ofL (l : List UInt8) : F := el (leN l)
def toL (x : F) : List UInt8 := ln x.val
theorem toL_len (x : F) : (toL x).length = 32 := ln_len _
theorem val_lt (x : F) : x.val < 256 ^ 32 := Nat.lt_trans x.isLt P_lt
theorem leN_toL (x : F) : leN (toL x) = x.val := leN_ln (val_lt x)
theorem right_toL (x : F) : leN (toL x) < P := by rw [leN_toL]; exact x.isLt
theorem ofL_toL (x : F) : ofL (toL x) = x := of_val (by show leN (toL x) % P = x.val; rw [leN_toL, Nat.mod_eq_of_lt x.isLt])
theorem val_ofL {l : List UInt8} (h : leN l < P) : (ofL l).val = leN l := Nat.mod_eq_of_lt h
theorem toL_ofL {l : List UInt8} (hl : l.length = 32) (h : leN l < P) : toL (ofL l) = l := by
  unfold toL
  rw [val_ofL h, ln_leN l hl]
theorem toL_inj {x y : F} (h : toL x = toL y) : x = y := by rw [← ofL_toL x, h, ofL_toL]
theorem toL_zero : toL 0 = zeros := by decide +kernel
theorem ofL_zeros : ofL zeros = 0 := by rw [← toL_zero, ofL_toL]

/-- What Add, Sub, Mul answer. -/
def binM (f : F → F → F) (a b : List UInt8) : List UInt8 × Int := if leN a < P ∧ leN b < P then (toL (f (ofL a) (ofL b)), 0) else (zeros, 2)
def addM : List UInt8 → List UInt8 → List UInt8 × Int := binM (· + ·)
def subM : List UInt8 → List UInt8 → List UInt8 × Int := binM (· - ·)
def mulM : List UInt8 → List UInt8 → List UInt8 × Int := binM (· * ·)
/-- What Inv answers. -/
def invM (a : List UInt8) : List UInt8 × Int := if leN a < P then if leN a = 0 then (zeros, 3) else (toL (inv (ofL a)), 0) else (zeros, 2)
/-- The even one of a root and its negative. -/
def even (r : F) : F := if r.val % 2 = 1 then -r else r
def rootF (a : F) : Option F :=
  if fp a E8 * fp a E8 = a then some (even (fp a E8)) else if (fp a E8 * I4) * (fp a E8 * I4) = a then some (even (fp a E8 * I4)) else none
/-- What Root answers. -/
def rootM (a : List UInt8) : List UInt8 × Int := if leN a < P then match rootF (ofL a) with
  | some r => (toL r, 0)
  | none => (zeros, 3)
  else (zeros, 2)

theorem P_odd : P % 2 = 1 := by decide +kernel
theorem neg_val {r : F} (h : r ≠ 0) : (-r).val = P - r.val := by
  have h0 : r.val ≠ 0 := fun e => h (of_val e)
  have h1 := r.isLt
  rw [Fin.val_neg]
  split
  · rename_i e
    exact absurd (congrArg Fin.val e) h0
  · rfl
theorem even_even (r : F) : (even r).val % 2 = 0 := by
  unfold even
  split
  · rename_i h
    have h0 : r ≠ 0 := fun e => by rw [e] at h; exact absurd h (by decide)
    rw [neg_val h0]
    have := P_odd
    have := r.isLt
    omega
  · omega
theorem even_sq (r : F) : even r * even r = r * r := by
  unfold even
  split
  · grind
  · rfl
theorem even_two {r s : F} (h : r * r = s * s) (hr : r.val % 2 = 0) (hs : s.val % 2 = 0) : r = s := by
  rcases sq_eq h with e | e
  · exact e
  · by_cases h0 : s = 0
    · rw [e, h0]; decide +kernel
    · have h1 := neg_val h0
      rw [← e] at h1
      have := P_odd
      have := s.isLt
      omega
theorem rootF_some {a r : F} (h : rootF a = some r) : r * r = a ∧ r.val % 2 = 0 := by
  unfold rootF at h
  split at h
  · rename_i e
    have h1 := Option.some.inj h
    subst h1
    exact ⟨by rw [even_sq]; exact e, even_even _⟩
  · split at h
    · rename_i e
      have h1 := Option.some.inj h
      subst h1
      exact ⟨by rw [even_sq]; exact e, even_even _⟩
    · exact absurd h (by simp)
theorem rootF_sq {a : F} (h : Sq a) : ∃ r, rootF a = some r := by
  by_cases ha : a = 0
  · subst ha
    refine ⟨even (fp 0 E8), ?_⟩
    unfold rootF
    rw [if_pos]
    rw [fp_zero E8 (by decide +kernel)]
    decide +kernel
  · unfold rootF
    rcases root_of (euler1 ha h) with e | e
    · exact ⟨_, if_pos e⟩
    · by_cases e1 : fp a E8 * fp a E8 = a
      · exact ⟨_, if_pos e1⟩
      · exact ⟨_, by rw [if_neg e1, if_pos e]⟩
theorem rootF_none {a : F} (h : ¬ Sq a) : rootF a = none := by
  cases e : rootF a with
  | none => rfl
  | some r => exact absurd ⟨r, (rootF_some e).1⟩ h
theorem rootF_of {a r : F} (h : r * r = a) (hr : r.val % 2 = 0) : rootF a = some r := by
  obtain ⟨s, hs⟩ := rootF_sq ⟨r, h⟩
  obtain ⟨h1, h2⟩ := rootF_some hs
  rw [hs, even_two (h1.trans h.symm) h2 hr]
theorem rootF_iff {a : F} : rootF a = none ↔ ¬ Sq a := by
  constructor
  · intro h hs
    obtain ⟨r, hr⟩ := rootF_sq hs
    rw [h] at hr
    cases hr
  · exact rootF_none

theorem binM_ok {f : F → F → F} {a b : List UInt8} (ha : leN a < P) (hb : leN b < P) : binM f a b = (toL (f (ofL a) (ofL b)), 0) := if_pos ⟨ha, hb⟩
theorem binM_bad {f : F → F → F} {a b : List UInt8} (h : ¬ (leN a < P ∧ leN b < P)) : binM f a b = (zeros, 2) := if_neg h
theorem binM_len (f : F → F → F) (a b : List UInt8) : (binM f a b).1.length = 32 := by
  unfold binM
  split
  · exact toL_len _
  · rfl
theorem invM_len (a : List UInt8) : (invM a).1.length = 32 := by
  unfold invM
  split
  · split
    · rfl
    · exact toL_len _
  · rfl
theorem rootM_len (a : List UInt8) : (rootM a).1.length = 32 := by
  unfold rootM
  split
  · split
    · exact toL_len _
    · rfl
  · rfl
/-- The elements of sums and the like of numbers. -/
theorem el_add (x y : Nat) : el x + el y = el (x + y) := of_val (by show (x % P + y % P) % P = (x + y) % P; rw [← Nat.add_mod])
theorem el_mul (x y : Nat) : el x * el y = el (x * y) := of_val (by show x % P * (y % P) % P = x * y % P; rw [← Nat.mul_mod])
theorem el_val (x : F) : el x.val = x := of_val (Nat.mod_eq_of_lt x.isLt)
theorem el_sub {x y : Nat} (hx : x < P) (hy : y < P) : ((el x - el y).val : Int) = ((x : Int) - y) % P := by
  have hP := P_pos
  have e1 : (el x).val = x := Nat.mod_eq_of_lt hx
  have e2 : (el y).val = y := Nat.mod_eq_of_lt hy
  rw [Fin.val_sub, e1, e2]
  by_cases h : y ≤ x
  · rw [show P - y + x = P + (x - y) by omega, Nat.add_mod_left, Nat.mod_eq_of_lt (by omega), Int.emod_eq_of_lt (by omega) (by omega)]
    omega
  · rw [Nat.mod_eq_of_lt (by omega), ← Int.add_emod_right, Int.emod_eq_of_lt (by omega) (by omega)]
    omega
theorem el_pow (x k : Nat) : fp (el x) k = el (x ^ k) := of_val (by
  rw [fp_val]
  show (x % P) ^ k % P = x ^ k % P
  rw [← Nat.pow_mod])
/-- The candidates for a root. -/
def rk (a : F) : Nat → F
  | 0 => fp a E8
  | k + 1 => rk a k * I4
theorem rk_zero (a : F) : rk a 0 = fp a E8 := by rw [rk]
theorem rk_one (a : F) : rk a 1 = fp a E8 * I4 := by rw [rk, rk]
theorem rootF_hit {a : F} {k : Nat} (hk : k < 2) (hne : ∀ j, j < k → rk a j * rk a j ≠ a) (h : rk a k * rk a k = a) : rootF a = some (even (rk a k)) := by
  have h01 : k = 0 ∨ k = 1 := by omega
  unfold rootF
  rcases h01 with e | e
  · rw [e, rk_zero] at h
    rw [e, rk_zero, if_pos h]
  · have h0 := hne 0 (by omega)
    rw [rk_zero] at h0
    rw [e, rk_one] at h
    rw [e, rk_one, if_neg h0, if_pos h]
theorem rootF_miss {a : F} (hne : ∀ j, j < 2 → rk a j * rk a j ≠ a) : rootF a = none := by
  have h0 := hne 0 (by omega)
  have h1 := hne 1 (by omega)
  rw [rk_zero] at h0
  rw [rk_one] at h1
  unfold rootF
  rw [if_neg h0, if_neg h1]
theorem even_val (r : F) : (even r).val = if r.val % 2 = 1 then P - r.val else r.val := by
  unfold even
  split
  · rename_i h
    exact neg_val (fun e => by rw [e] at h; exact absurd h (by decide))
  · rfl
end Go.Proofs.YtfngomlknhappaaDoor.FieldM

/-
  What the functions of package field answer to numbers that are reduced, and to others: for the walks of its laws. Conditions: in each statement.
-/
namespace Go.Proofs.YtfngomlknhappaaDoor.FieldLW
open FieldM NumA NumF

theorem as_toL {l : List UInt8} (hl : l.length = 32) (h : leN l < P) : ∃ x : F, l = toL x := ⟨ofL l, (toL_ofL hl h).symm⟩
theorem addT (x y : F) : addM (toL x) (toL y) = (toL (x + y), 0) := by
  have h := binM_ok (f := (· + ·)) (right_toL x) (right_toL y)
  simp only [ofL_toL] at h
  exact h
theorem subT (x y : F) : subM (toL x) (toL y) = (toL (x - y), 0) := by
  have h := binM_ok (f := (· - ·)) (right_toL x) (right_toL y)
  simp only [ofL_toL] at h
  exact h
theorem mulT (x y : F) : mulM (toL x) (toL y) = (toL (x * y), 0) := by
  have h := binM_ok (f := (· * ·)) (right_toL x) (right_toL y)
  simp only [ofL_toL] at h
  exact h
theorem invT {x : F} (h : x ≠ 0) : invM (toL x) = (toL (inv x), 0) := by
  unfold invM
  rw [if_pos (right_toL x), if_neg (by rw [leN_toL]; exact fun e => h (of_val e)), ofL_toL]
theorem invZ : invM (toL 0) = (zeros, 3) := by
  unfold invM
  rw [if_pos (right_toL 0), if_pos (by rw [leN_toL]; rfl)]
theorem invX {l : List UInt8} (h : ¬ leN l < P) : invM l = (zeros, 2) := if_neg h
theorem rootT {x r : F} (h : rootF x = some r) : rootM (toL x) = (toL r, 0) := by
  unfold rootM
  rw [if_pos (right_toL x), ofL_toL, h]
theorem rootN {x : F} (h : rootF x = none) : rootM (toL x) = (zeros, 3) := by
  unfold rootM
  rw [if_pos (right_toL x), ofL_toL, h]
theorem rootX {l : List UInt8} (h : ¬ leN l < P) : rootM l = (zeros, 2) := if_neg h
theorem binX {f : F → F → F} {a b : List UInt8} (h : ¬ leN a < P) : binM f a b = (zeros, 2) := if_neg (fun k => h k.1)
theorem binX2 {f : F → F → F} {a b : List UInt8} (h : ¬ leN b < P) : binM f a b = (zeros, 2) := if_neg (fun k => h k.2)
theorem rootZ : rootM zeros = (zeros, 0) := by
  have h : rootF 0 = some 0 := rootF_of (by decide +kernel) rfl
  have h2 := rootT h
  rw [toL_zero] at h2
  exact h2
theorem zeros_right : leN zeros < P := by rw [leN_zeros]; exact P_pos
theorem ne_zeros {l : List UInt8} (h : ¬ leN l < P) : ¬ l = zeros := fun e => h (by rw [e]; exact zeros_right)
/-- Of two that have no root the product has one. -/
theorem root_two_none (l m : List UInt8) (hl : l.length = 32) (hm : m.length = 32) : (rootM l).2 ≠ 3 ∨ (rootM m).2 ≠ 3 ∨ ((mulM l m).2 = 0 ∧ (rootM (mulM l m).1).2 = 0) := by
  by_cases h0 : leN l < P
  · by_cases h1 : leN m < P
    · obtain ⟨x, rfl⟩ := as_toL hl h0
      obtain ⟨y, rfl⟩ := as_toL hm h1
      cases hx : rootF x with
      | some r => left; rw [rootT hx]; exact fun e => absurd (show (0 : Int) = 3 from e) (by decide)
      | none =>
        cases hy : rootF y with
        | some r => right; left; rw [rootT hy]; exact fun e => absurd (show (0 : Int) = 3 from e) (by decide)
        | none =>
          right; right
          rw [mulT]
          obtain ⟨r, hr⟩ := rootF_sq (nonsq_mul (rootF_iff.1 hx) (rootF_iff.1 hy))
          exact ⟨rfl, by rw [rootT hr]⟩
    · right; left; rw [rootX h1]; decide
  · left; rw [rootX h0]; decide
theorem toL_first (x : F) (h : x.val % 2 = 0) : ∃ y : UInt8, (toL x)[0]? = some y ∧ y.toNat % 2 = 0 := by
  refine ⟨UInt8.ofNat x.val, by simp [toL, ln], ?_⟩
  rw [UInt8.toNat_ofNat']
  omega
end Go.Proofs.YtfngomlknhappaaDoor.FieldLW
