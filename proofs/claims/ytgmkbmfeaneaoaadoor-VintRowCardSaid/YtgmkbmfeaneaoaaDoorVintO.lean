/-
  The order of the shortest encodings, and rows of them: plain mathematics. Conditions: in each statement.
-/
import Derived.Test.YtgmkbmfeaneaoaaDoorVintM
import GoSem.Op.String
namespace Go.Proofs.YtgmkbmfeaneaoaaDoor.VintM
open VecM (be val be_length val_lt val_be)
open Go

theorem less_val (a b : List UInt8) (h : a.length = b.length) : Op.bytesLess a b = decide (val a < val b) := by
  induction a generalizing b with
  | nil =>
    cases b with
    | nil => simp [Op.bytesLess]
    | cons y b => simp at h
  | cons x a ih =>
    cases b with
    | nil => simp at h
    | cons y b =>
      have hl : a.length = b.length := by simpa using h
      rw [Op.bytesLess, ih b hl, val_cons, val_cons, hl]
      have h1 := val_lt a
      have h2 := val_lt b
      rw [hl] at h1
      generalize 256 ^ b.length = p at *
      have hx : (x < y) ↔ x.toNat < y.toNat := UInt8.lt_iff_toNat_lt
      have he : (x = y) ↔ x.toNat = y.toNat := UInt8.toNat_inj.symm
      by_cases c1 : x.toNat < y.toNat
      · have h3 : (x.toNat + 1) * p ≤ y.toNat * p := Nat.mul_le_mul_right _ c1
        rw [Nat.add_mul] at h3
        rw [decide_eq_true (hx.2 c1), Bool.true_or, eq_comm, decide_eq_true_iff]
        omega
      · by_cases c2 : x.toNat = y.toNat
        · have := he.2 c2
          subst this
          simp
        · have h3 : (y.toNat + 1) * p ≤ x.toNat * p := Nat.mul_le_mul_right _ (by omega)
          rw [Nat.add_mul] at h3
          have e1 : decide (x < y) = false := decide_eq_false (fun h => c1 (hx.1 h))
          have e2 : (x == y) = false := beq_eq_false_iff_ne.2 (fun h => c2 (he.1 h))
          rw [e1, e2, Bool.false_or, Bool.false_and, eq_comm, decide_eq_false_iff_not]
          omega

theorem val_enc {n k : Nat} (hk : isK k) (h : n < 64 * 256 ^ (k - 1)) : val (enc n k) = n + ix k * (64 * 256 ^ (k - 1)) := by
  have hp := isK_pos hk
  rw [← enc_be hk, val_be]
  apply Nat.mod_eq_of_lt
  have h1 := ix_le k
  have h2 : 256 ^ k = 256 * 256 ^ (k - 1) := by
    obtain ⟨j, rfl⟩ : ∃ j, k = j + 1 := ⟨k - 1, by omega⟩
    rw [Nat.add_sub_cancel, Nat.pow_succ, Nat.mul_comm]
  rw [h2]
  have h3 := Nat.mul_le_mul_right (64 * 256 ^ (k - 1)) h1
  omega

theorem ix_mono {a b : Nat} (ha : isK a) (hb : isK b) (h : a < b) : ix a < ix b := by
  rcases ha with rfl | rfl | rfl | rfl <;> rcases hb with rfl | rfl | rfl | rfl <;> first | omega | decide

theorem heads {n m j k : Nat} (hn : n < 64 * 256 ^ (j - 1)) (hm : m < 64 * 256 ^ (k - 1)) (h : ix j < ix k) :
    Op.bytesLess (enc n j) (enc m k) = true ∧ Op.bytesLess (enc m k) (enc n j) = false := by
  have h1 := head_lt hn
  have h2 := head_lt hm
  have h3 := ix_le j
  have h4 := ix_le k
  unfold enc
  generalize n / 256 ^ (j - 1) = q at *
  generalize m / 256 ^ (k - 1) = r at *
  have hx : (UInt8.ofNat (q + 64 * ix j)).toNat = q + 64 * ix j := by rw [UInt8.toNat_ofNat']; omega
  have hy : (UInt8.ofNat (r + 64 * ix k)).toNat = r + 64 * ix k := by rw [UInt8.toNat_ofNat']; omega
  generalize UInt8.ofNat (q + 64 * ix j) = x at *
  generalize UInt8.ofNat (r + 64 * ix k) = y at *
  have l1 : x < y := UInt8.lt_iff_toNat_lt.2 (by omega)
  have l2 : ¬ y < x := fun h => by have := UInt8.lt_iff_toNat_lt.1 h; omega
  have l3 : (y == x) = false := beq_eq_false_iff_ne.2 (fun h => by rw [h] at hy; omega)
  rw [Op.bytesLess, Op.bytesLess, decide_eq_true l1, decide_eq_false l2, l3]
  simp

/-- The order of the encodings is the numbers' own; a longer encoding is of a greater number. -/
theorem order {n m : Nat} (hn : n < 4611686018427387904) (hm : m < 4611686018427387904) :
    Op.bytesLess (enc n (lng n)) (enc m (lng m)) = decide (n < m) ∧ ((enc n (lng n)).length ≤ (enc m (lng m)).length ∨ m < n) := by
  have kn := lng_isK n
  have km := lng_isK m
  have fn := lng_fits n hn
  have fm := lng_fits m hm
  rw [enc_length kn, enc_length km]
  rcases Nat.lt_trichotomy (lng n) (lng m) with h | h | h
  · have hlt : n < m := by
      apply Nat.lt_of_not_le
      intro hle
      have := fits_lng kn (Nat.lt_of_le_of_lt hle fn)
      omega
    exact ⟨by rw [(heads fn fm (ix_mono kn km h)).1, decide_eq_true hlt], .inl (by omega)⟩
  · rw [less_val _ _ (by rw [enc_length kn, enc_length km, h]), val_enc kn fn, val_enc km fm, h]
    refine ⟨?_, .inl (Nat.le_refl _)⟩
    rw [decide_eq_decide]
    omega
  · have hlt : m < n := by
      apply Nat.lt_of_not_le
      intro hle
      have := fits_lng km (Nat.lt_of_le_of_lt hle fm)
      omega
    exact ⟨by rw [(heads fm fn (ix_mono km kn h)).2, decide_eq_false (by omega)], .inr hlt⟩

/-- The encodings of a row of numbers, one behind the other. -/
def encs (l : List Int) : List UInt8 := (l.map fun n => enc n.toNat (lng n.toNat)).flatten
theorem encs_nil : encs [] = [] := rfl
theorem encs_cons (n : Int) (l : List Int) : encs (n :: l) = enc n.toNat (lng n.toNat) ++ encs l := by simp [encs]
theorem encs_append (a b : List Int) : encs (a ++ b) = encs a ++ encs b := by simp [encs]
theorem encs_len (l : List Int) : (encs l).length ≤ 8 * l.length := by
  induction l with
  | nil => simp [encs]
  | cons n l ih =>
    rw [encs_cons, List.length_append, enc_length (lng_isK _), List.length_cons]
    have := isK_pos (lng_isK n.toNat)
    omega
end Go.Proofs.YtgmkbmfeaneaoaaDoor.VintM
