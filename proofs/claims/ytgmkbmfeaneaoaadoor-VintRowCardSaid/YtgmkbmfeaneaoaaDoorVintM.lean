/-
  Plain mathematics of variable-length integers: what the functions of package vint compute, and what holds of it; no program is named here. Conditions: in each statement.
-/
import Derived.Test.YtgmkbmfeaneaoaaDoorVecM
namespace Go.Proofs.YtgmkbmfeaneaoaaDoor.VintM
open VecM (be val be_length val_snoc val_be val_lt be_val be_cons)

/-- The shortest length. -/
def lng (n : Nat) : Nat := if n < 64 then 1 else if n < 16384 then 2 else if n < 1073741824 then 4 else 8
/-- The first byte's kind. -/
def ix (k : Nat) : Nat := if k = 1 then 0 else if k = 2 then 1 else if k = 4 then 2 else 3
/-- A length. -/
def isK (k : Nat) : Prop := k = 1 ∨ k = 2 ∨ k = 4 ∨ k = 8
/-- The encoding in k bytes. -/
def enc (n k : Nat) : List UInt8 := UInt8.ofNat (n / 256 ^ (k - 1) + 64 * ix k) :: be (k - 1) n
def okN (n : Int) : Bool := decide (0 ≤ n ∧ n < 4611686018427387904)

theorem okN_no {n : Int} (h : okN n = false) : n < 0 ∨ 4611686018427387904 ≤ n := by
  have : ¬ (0 ≤ n ∧ n < 4611686018427387904) := by simpa [okN] using h
  omega
theorem okN_yes {n : Int} (h : okN n = true) : ∃ m : Nat, n = m ∧ m < 4611686018427387904 := by
  have : 0 ≤ n ∧ n < 4611686018427387904 := by simpa [okN] using h
  exact ⟨n.toNat, by omega, by omega⟩
theorem okN_of {m : Nat} (h : m < 4611686018427387904) : okN m = true := by simp [okN]; omega

theorem lng_isK (n : Nat) : isK (lng n) := by
  unfold lng isK
  split
  · exact .inl rfl
  · split
    · exact .inr (.inl rfl)
    · split
      · exact .inr (.inr (.inl rfl))
      · exact .inr (.inr (.inr rfl))

theorem lng_fits (n : Nat) (h : n < 4611686018427387904) : n < 64 * 256 ^ (lng n - 1) := by
  unfold lng
  split
  · simpa using ‹_›
  · split
    · omega
    · split
      · omega
      · simpa using h

theorem fits_lng {n k : Nat} (hk : isK k) (h : n < 64 * 256 ^ (k - 1)) : lng n ≤ k := by
  rcases hk with rfl | rfl | rfl | rfl
  · simp at h; unfold lng; rw [if_pos h]; exact Nat.le_refl _
  · simp at h; unfold lng; split
    · decide
    · exact Nat.le_refl _
  · simp at h; unfold lng; split
    · decide
    · split
      · decide
      · exact Nat.le_refl _
  · unfold lng; split
    · decide
    · split
      · decide
      · split <;> decide

theorem lng_le_fits {n k : Nat} (hn : n < 4611686018427387904) (h : lng n ≤ k) : n < 64 * 256 ^ (k - 1) := by
  refine Nat.lt_of_lt_of_le (lng_fits n hn) (Nat.mul_le_mul_left _ (Nat.pow_le_pow_right (by decide) (by omega)))

theorem isK_pos {k : Nat} (h : isK k) : 1 ≤ k ∧ k ≤ 8 := by rcases h with rfl | rfl | rfl | rfl <;> decide
theorem enc_length {n k : Nat} (h : isK k) : (enc n k).length = k := by
  have := isK_pos h
  simp [enc, be_length]
  omega

theorem ix_le (k : Nat) : ix k ≤ 3 := by unfold ix; split <;> (try split) <;> (try split) <;> decide
theorem two_ix {k : Nat} (h : isK k) : 2 ^ ix k = k := by rcases h with rfl | rfl | rfl | rfl <;> rfl
theorem ix_two {j : Nat} (h : j ≤ 3) : ix (2 ^ j) = j := by
  have : j = 0 ∨ j = 1 ∨ j = 2 ∨ j = 3 := by omega
  rcases this with rfl | rfl | rfl | rfl <;> rfl
theorem two_isK {j : Nat} (h : j ≤ 3) : isK (2 ^ j) := by
  have : j = 0 ∨ j = 1 ∨ j = 2 ∨ j = 3 := by omega
  unfold isK
  rcases this with rfl | rfl | rfl | rfl <;> simp

/-- How many bytes the first one announces. -/
def kk (l : List UInt8) : Nat := 2 ^ ((l.headD 0).toNat / 64)
theorem kk_isK (l : List UInt8) : isK (kk l) := two_isK (by have := (l.headD 0).toNat_lt; omega)
/-- The number of the first byte, its kind struck, and of j bytes behind it. -/
def num (l : List UInt8) (j : Nat) : Nat := val (UInt8.ofNat ((l.headD 0).toNat % 64) :: (l.drop 1).take j)

theorem val_cons (x : UInt8) (r : List UInt8) : val (x :: r) = x.toNat * 256 ^ r.length + val r := by
  have : ∀ m : List UInt8, val (x :: m.reverse) = x.toNat * 256 ^ m.length + val m.reverse := by
    intro m
    induction m with
    | nil => simp [val]
    | cons y m ih =>
      rw [List.reverse_cons, ← List.cons_append, val_snoc, ih, val_snoc, List.length_cons, Nat.pow_succ, Nat.add_mul, Nat.mul_assoc]
      omega
  simpa using this r.reverse

theorem num_zero (l : List UInt8) : num l 0 = (l.headD 0).toNat % 64 := by
  have := (l.headD 0).toNat_lt
  simp [num, val_cons]
  simp [val]
  omega
theorem num_succ (l : List UInt8) (j : Nat) (h : j + 1 < l.length) : num l (j + 1) = num l j * 256 + l[j + 1].toNat := by
  unfold num
  have h1 : j < (l.drop 1).length := by rw [List.length_drop]; omega
  rw [List.take_succ_eq_append_getElem h1, ← List.cons_append, val_snoc]
  simp
theorem num_lt (l : List UInt8) (j : Nat) (h : j < l.length) : num l j < 64 * 256 ^ j := by
  unfold num
  rw [val_cons]
  have h1 := val_lt ((l.drop 1).take j)
  have h2 : ((l.drop 1).take j).length = j := by rw [List.length_take, List.length_drop]; omega
  rw [h2] at h1 ⊢
  have h3 : (UInt8.ofNat ((l.headD 0).toNat % 64)).toNat ≤ 63 := by rw [UInt8.toNat_ofNat']; omega
  have h4 := Nat.mul_le_mul_right (256 ^ j) h3
  omega

/-- Take: the error, the number, and its length. -/
def take (l : List UInt8) : Nat × Nat × Nat := if l = [] then (8, 0, 0) else if l.length < kk l then (8, 0, 0) else (0, num l (kk l - 1), kk l)
theorem take_nil : take [] = (8, 0, 0) := rfl
theorem take_short {l : List UInt8} (h : l.length < kk l) : take l = (8, 0, 0) := by
  unfold take
  by_cases h0 : l = []
  · rw [if_pos h0]
  · rw [if_neg h0, if_pos h]
theorem take_ok {l : List UInt8} (h0 : l ≠ []) (h : kk l ≤ l.length) : take l = (0, num l (kk l - 1), kk l) := by
  unfold take
  rw [if_neg h0, if_neg (by omega)]

theorem take_cases (l : List UInt8) : take l = (8, 0, 0) ∨ (∃ n k, take l = (0, n, k) ∧ isK k ∧ k ≤ l.length ∧ n < 64 * 256 ^ (k - 1) ∧ n < 4611686018427387904 ∧ kk l = k ∧ num l (k - 1) = n) := by
  by_cases h0 : l = []
  · subst h0; exact .inl rfl
  · by_cases h : l.length < kk l
    · exact .inl (take_short h)
    · have hp := isK_pos (kk_isK l)
      have hb := num_lt l (kk l - 1) (by omega)
      refine .inr ⟨_, _, take_ok h0 (by omega), kk_isK l, by omega, hb, ?_, rfl, rfl⟩
      refine Nat.lt_of_lt_of_le hb ?_
      have : 256 ^ (kk l - 1) ≤ 256 ^ 7 := Nat.pow_le_pow_right (by decide) (by omega)
      omega

/-- Strict. -/
def strict (l : List UInt8) : Nat × Nat × Nat := if (take l).1 ≠ 0 then (8, 0, 0) else if lng (take l).2.1 < (take l).2.2 then (1, 0, 0) else take l

theorem be_add (k n c : Nat) : be k (n + c * 256 ^ k) = be k n := by
  induction k generalizing n c with
  | zero => rfl
  | succ k ih =>
    have e1 : (n + c * 256 ^ (k + 1)) / 256 = n / 256 + c * 256 ^ k := by
      rw [Nat.pow_succ, ← Nat.mul_assoc, Nat.add_mul_div_right _ _ (by decide)]
    have e2 : UInt8.ofNat (n + c * 256 ^ (k + 1)) = UInt8.ofNat n := by
      apply UInt8.toNat_inj.1
      rw [UInt8.toNat_ofNat', UInt8.toNat_ofNat', Nat.pow_succ, ← Nat.mul_assoc]
      omega
    rw [be, be, e1, e2, ih]

/-- The encoding as the number with its kind above it. -/
theorem enc_be {n k : Nat} (h : isK k) : be k (n + ix k * (64 * 256 ^ (k - 1))) = enc n k := by
  have hp := isK_pos h
  obtain ⟨j, rfl⟩ : ∃ j, k = j + 1 := ⟨k - 1, by omega⟩
  rw [Nat.add_sub_cancel, be_cons, enc, Nat.add_sub_cancel, ← Nat.mul_assoc, be_add, Nat.add_mul_div_right _ _ (Nat.pow_pos (by decide)), Nat.mul_comm (ix _) 64]

theorem head_lt {n k : Nat} (h : n < 64 * 256 ^ (k - 1)) : n / 256 ^ (k - 1) < 64 := (Nat.div_lt_iff_lt_mul (Nat.pow_pos (by decide))).2 h

theorem enc_head {n k : Nat} (h : n < 64 * 256 ^ (k - 1)) (rest : List UInt8) : ((enc n k ++ rest).headD 0).toNat = n / 256 ^ (k - 1) + 64 * ix k := by
  have h1 := head_lt h
  have h2 := ix_le k
  simp only [enc, List.cons_append, List.headD_cons, UInt8.toNat_ofNat']
  generalize n / 256 ^ (k - 1) = q at *
  omega

theorem kk_enc {n k : Nat} (hk : isK k) (h : n < 64 * 256 ^ (k - 1)) (rest : List UInt8) : kk (enc n k ++ rest) = k := by
  have h1 := head_lt h
  unfold kk
  rw [enc_head h rest]
  generalize n / 256 ^ (k - 1) = q at *
  rw [show (q + 64 * ix k) / 64 = ix k from by omega]
  exact two_ix hk

theorem take_enc {n k : Nat} (hk : isK k) (h : n < 64 * 256 ^ (k - 1)) (rest : List UInt8) : take (enc n k ++ rest) = (0, n, k) := by
  have hK := kk_enc hk h rest
  have hp := isK_pos hk
  have h1 := head_lt h
  have hl : (enc n k ++ rest).length = k + rest.length := by rw [List.length_append, enc_length hk]
  rw [take_ok (by intro e; rw [e] at hl; simp at hl; omega) (by rw [hK]; omega), hK]
  refine congrArg (fun x => (0, x, k)) ?_
  unfold num
  rw [enc_head h rest]
  have e1 : ∀ q, q < 64 → (q + 64 * ix k) % 64 = q := by intro q hq; omega
  have e2 : ((enc n k ++ rest).drop 1).take (k - 1) = be (k - 1) n := by
    simp only [enc, List.cons_append, List.drop_succ_cons, List.drop_zero]
    exact List.take_left' (be_length _ _)
  rw [e1 _ h1, e2, val_cons, be_length, val_be, UInt8.toNat_ofNat', Nat.mod_eq_of_lt (Nat.lt_of_lt_of_le h1 (by decide)), Nat.mul_comm]
  exact Nat.div_add_mod _ _

theorem strict_enc {n k : Nat} (hk : isK k) (h : n < 64 * 256 ^ (k - 1)) (rest : List UInt8) : strict (enc n k ++ rest) = if lng n < k then (1, 0, 0) else (0, n, k) := by
  unfold strict
  rw [take_enc hk h rest]
  simp

theorem strict_put {n : Nat} (h : n < 4611686018427387904) (rest : List UInt8) : strict (enc n (lng n) ++ rest) = (0, n, lng n) := by
  rw [strict_enc (lng_isK n) (lng_fits n h) rest, if_neg (by omega)]

/-- What is taken is an encoding. -/
theorem enc_take {l : List UInt8} {n k : Nat} (h : take l = (0, n, k)) : enc n k = l.take k := by
  rcases take_cases l with e | ⟨n', k', e, hk, hkl, hn, _, hkk, hnum⟩
  · rw [e] at h; cases h
  · rw [e] at h
    cases h
    have hp := isK_pos hk
    cases l with
    | nil => simp at hkl; omega
    | cons x r =>
      obtain ⟨j, rfl⟩ : ∃ j, k = j + 1 := ⟨k - 1, by omega⟩
      have hx := x.toNat_lt
      simp only [Nat.add_sub_cancel] at hn hnum
      have hlen : (r.take j).length = j := by rw [List.length_take]; simp at hkl; omega
      have hv := val_lt (r.take j)
      rw [hlen] at hv
      have hnum' : n = x.toNat % 64 * 256 ^ j + val (r.take j) := by
        rw [← hnum]
        unfold num
        simp only [List.headD_cons, List.drop_succ_cons, List.drop_zero]
        rw [val_cons, hlen, UInt8.toNat_ofNat', Nat.mod_eq_of_lt (show x.toNat % 64 < 2 ^ 8 by omega)]
      have hix : ix (j + 1) = x.toNat / 64 := by
        rw [← hkk]
        unfold kk
        simp only [List.headD_cons]
        exact ix_two (by omega)
      have hpp : 0 < 256 ^ j := Nat.pow_pos (by decide)
      have hd : n / 256 ^ j = x.toNat % 64 := by
        rw [hnum', Nat.add_comm, Nat.add_mul_div_right _ _ hpp, Nat.div_eq_of_lt hv]; omega
      have hb : be j n = r.take j := by
        have e1 : be j n = be j (val (r.take j)) := by rw [hnum', Nat.add_comm, be_add]
        have e2 := be_val (r.take j)
        rw [hlen] at e2
        rw [e1, e2]
      rw [List.take_succ_cons, enc, Nat.add_sub_cancel, hd, hix, hb]
      refine congrArg (· :: _) ?_
      apply UInt8.toNat_inj.1
      rw [UInt8.toNat_ofNat']
      omega

theorem strict_cases (l : List UInt8) : (∃ e, strict l = (e, 0, 0) ∧ (e = 8 ∨ e = 1)) ∨ (∃ n k, strict l = (0, n, k) ∧ n < 4611686018427387904 ∧ k = lng n ∧ k ≤ l.length ∧ enc n k = l.take k) := by
  unfold strict
  rcases take_cases l with e | ⟨n, k, e, hk, hkl, hn, hn2, _⟩
  · rw [e]; exact .inl ⟨8, by simp, .inl rfl⟩
  · rw [e]
    by_cases h : lng n < k
    · exact .inl ⟨1, by simp [h], .inr rfl⟩
    · have := fits_lng hk hn
      refine .inr ⟨n, k, by simp [h], hn2, by omega, hkl, enc_take e⟩
end Go.Proofs.YtgmkbmfeaneaoaaDoor.VintM
