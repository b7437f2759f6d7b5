/-
  Poly1305: the clearing of a key, digits added, a block's step: plain mathematics. Conditions: in each statement.
-/
import Derived.Test.YtooaaacingaapaaOneK
import Derived.Test.YtooaaacingaapaaOneS
import Derived.ProofKit
namespace Go.Proofs.Ytooaaacingaapaa.OneM

/-- The first clearing, n bytes of it. -/
def st1 (l : List UInt8) : Nat → List UInt8
  | 0 => l
  | n + 1 => (st1 l n).set (4 * n + 3) (UInt8.ofNat (((st1 l n).getD (4 * n + 3) 0).toNat % 16))
/-- The second. -/
def st2 (l : List UInt8) : Nat → List UInt8
  | 0 => l
  | n + 1 => (st2 l n).set (4 * n + 4) (UInt8.ofNat (((st2 l n).getD (4 * n + 4) 0).toNat / 4 * 4))
theorem st1_len (l : List UInt8) (n : Nat) : (st1 l n).length = l.length := by
  induction n with
  | zero => rfl
  | succ n ih => rw [st1, List.length_set, ih]
theorem st2_len (l : List UInt8) (n : Nat) : (st2 l n).length = l.length := by
  induction n with
  | zero => rfl
  | succ n ih => rw [st2, List.length_set, ih]
theorem take_map (l : List UInt8) (n : Nat) (h : n ≤ l.length) : l.take n = (List.range n).map fun k => l.getD k 0 := by
  apply List.ext_getElem?
  intro k
  by_cases hk : k < n
  · rw [List.getElem?_take, if_pos hk, List.getElem?_map, List.getElem?_range hk, List.getElem?_eq_getElem (by omega)]
    simp [List.getD_eq_getElem?_getD, List.getElem?_eq_getElem (show k < l.length by omega)]
  · rw [List.getElem?_eq_none (by simp; omega), List.getElem?_eq_none (by simp; omega)]
theorem clamp_eq (key : List UInt8) (h : 16 ≤ key.length) : clamp key = st2 (st1 (key.take 16) 4) 3 := by
  rw [take_map key 16 h]
  unfold clamp
  obtain ⟨f, hf⟩ : ∃ f : Nat → UInt8, ∀ k, key.getD k 0 = f k := ⟨_, fun _ => rfl⟩
  simp only [hf]
  kernel_rfl
theorem getD_at (l : List UInt8) (k : Nat) (h : k < l.length) : l.getD k 0 = l[k] := by
  rw [List.getD_eq_getElem?_getD, List.getElem?_eq_getElem h]; rfl

/-- Digits lose nothing. -/
theorem num_digs (v : Nat) : ∀ t, t ≤ 143 → num (digs v t) = v % 2 ^ t := by
  intro t
  induction t with
  | zero => intro _; rw [digs_zero]; simp [num, List.replicate, Nat.mod_one]
  | succ t ih =>
    intro h
    rw [mod_succ, ← ih (by omega)]
    rcases Nat.mod_two_eq_zero_or_one (v / 2 ^ t) with e | e
    · rw [e, digs_nobit v t e]; omega
    · rw [e, ← digs_bit v t (by omega) e]
      have h1 := num_set (digs v t) (t / 13) ((digs v t).getD (t / 13) 0 + 2 ^ (t % 13)) (by rw [digs_len]; omega)
      rw [Nat.add_mul] at h1
      have e2 : 2 ^ (t % 13) * 8192 ^ (t / 13) = 2 ^ t := by
        rw [show (8192 : Nat) = 2 ^ 13 by decide, ← Nat.pow_mul, ← Nat.pow_add]
        congr 1
        omega
      rw [e2] at h1
      omega
theorem digs_small (v t m : Nat) : (digs v t).getD m 0 < 8192 := by
  by_cases h : m < 11
  · rw [digs_at v t m h]; exact Nat.mod_lt _ (by decide)
  · rw [List.getD_eq_getElem?_getD, List.getElem?_eq_none (by rw [digs_len]; omega)]; decide
theorem digs_done (v : Nat) : DoneC (digs v 128) := by
  refine ⟨digs_len _ _, fun m _ => digs_small v 128 m, ?_⟩
  rw [digs_at v 128 10 (by decide), Nat.div_eq_of_lt (Nat.lt_of_lt_of_le (Nat.mod_lt _ (Nat.two_pow_pos 128)) (by decide))]
theorem zero_done : DoneC (List.replicate 11 0) := by
  refine ⟨rfl, fun m hm => ?_, rfl⟩
  rw [List.getD_eq_getElem?_getD, List.getElem?_replicate, if_pos (by omega)]; decide
theorem lev_full (l : List UInt8) (h : l.length ≤ 17) : num (digs (lev l) (8 * l.length)) = lev l := by
  rw [num_digs _ _ (by omega), Nat.mod_eq_of_lt]
  have := lev_lt l
  rwa [show (256 : Nat) = 2 ^ 8 by decide, ← Nat.pow_mul] at this
/-- Digit by digit. -/
def sumS (y a : List Nat) : List Nat := List.zipWith (· + ·) y a
def addS (y a : List Nat) (i : Nat) : List Nat := (sumS y a).take i ++ y.drop i
theorem sumS_len (y a : List Nat) (hy : y.length = 11) (ha : a.length = 11) : (sumS y a).length = 11 := by simp [sumS, hy, ha]
theorem sumS_at (y a : List Nat) (m : Nat) (hy : y.length = 11) (ha : a.length = 11) (hm : m < 11) : (sumS y a).getD m 0 = y.getD m 0 + a.getD m 0 := by
  unfold sumS
  rw [List.getD_eq_getElem?_getD, List.getElem?_zipWith, List.getD_eq_getElem?_getD, List.getD_eq_getElem?_getD, List.getElem?_eq_getElem (by omega), List.getElem?_eq_getElem (by omega)]
  rfl
theorem sumS_num (y : List Nat) : ∀ a : List Nat, y.length = a.length → num (sumS y a) = num y + num a := by
  induction y with
  | nil =>
    intro a h
    obtain rfl : a = [] := List.eq_nil_of_length_eq_zero h.symm
    rfl
  | cons x r ih =>
    intro a h
    cases a with
    | nil => cases h
    | cons z s =>
      have := ih s (by simpa using h)
      unfold sumS at this ⊢
      rw [List.zipWith_cons_cons, num, num, num, this]
      omega
theorem addS_len (y a : List Nat) (i : Nat) (hy : y.length = 11) (ha : a.length = 11) (hi : i ≤ 11) : (addS y a i).length = 11 := by
  simp [addS, sumS_len y a hy ha, hy]
  omega
theorem addS_at (y a : List Nat) (i : Nat) (hy : y.length = 11) (ha : a.length = 11) (hi : i < 11) : (addS y a i).getD i 0 = y.getD i 0 := by
  have h1 : ((sumS y a).take i).length = i := by rw [List.length_take, sumS_len y a hy ha]; omega
  unfold addS
  rw [List.getD_eq_getElem?_getD, List.getElem?_append_right (by omega), h1, Nat.sub_self, List.getElem?_drop, Nat.add_zero, ← List.getD_eq_getElem?_getD]
theorem addS_set (y a : List Nat) (i : Nat) (hy : y.length = 11) (ha : a.length = 11) (hi : i < 11) : (addS y a i).set i (y.getD i 0 + a.getD i 0) = addS y a (i + 1) := by
  have hs := sumS_len y a hy ha
  have h1 : ((sumS y a).take i).length = i := by rw [List.length_take, hs]; omega
  have h2 := sumS_at y a i hy ha hi
  rw [List.getD_eq_getElem?_getD (l := sumS y a), List.getElem?_eq_getElem (by omega), Option.getD_some] at h2
  unfold addS
  rw [List.set_append, if_neg (by omega), h1, Nat.sub_self, List.drop_eq_getElem_cons (l := y) (by omega), List.set_cons_zero, List.take_succ_eq_append_getElem (by omega), List.append_assoc, h2]
  rfl
theorem addS_zero (y a : List Nat) : addS y a 0 = y := by simp [addS]
theorem addS_all (y a : List Nat) (hy : y.length = 11) (ha : a.length = 11) : addS y a 11 = sumS y a := by
  unfold addS
  rw [List.take_of_length_le (by rw [sumS_len y a hy ha]; exact Nat.le_refl _), List.drop_of_length_le (by omega), List.append_nil]
theorem sumS_start (v t : Nat) (a : List Nat) (h : DoneC a) : StartC (sumS (digs v t) a) := by
  have hy := digs_len v t
  refine ⟨sumS_len _ _ hy h.1, fun m hm => ?_, ?_⟩
  · rw [sumS_at _ _ m hy h.1 hm]
    have h1 := digs_small v t m
    by_cases e : m = 10
    · subst e; rw [h.2.2]; omega
    · have := h.2.1 m (by omega); omega
  · rw [sumS_at _ _ 10 hy h.1 (by decide), h.2.2]
    have := digs_small v t 10
    omega
/-- A block's step. -/
theorem acc_step (r : Nat) (b : List UInt8) (n : Nat) (a y nx : List Nat) (hr : r < 2 ^ 128) (blk : List UInt8) (hblk : (b.drop (16 * n)).take 16 = blk) (hl : blk.length ≤ 16)
    (ha : num a % pp = accS r b n) (hla : a.length = 11) (hy : num y % pp = num (sumS (digs (lev (blk ++ [1])) (8 * (blk ++ [1]).length)) a) % pp) (hn : num nx % pp = (num y * num (digs r 128)) % pp) : num nx % pp = accS r b (n + 1) := by
  rw [hn, num_digs r 128 (by decide), Nat.mod_eq_of_lt hr, Nat.mul_mod, hy, sumS_num _ _ (by rw [digs_len, hla]), lev_full _ (by simp; omega), Nat.add_mod, ha, accS, hblk]
  have hacc : accS r b n % pp = accS r b n := by rw [← ha, Nat.mod_mod]
  rw [Nat.mul_mod (accS r b n + lev (blk ++ [1])) r pp, Nat.add_mod (accS r b n) _ pp, hacc, Nat.add_comm (lev (blk ++ [1]) % pp)]

end Go.Proofs.Ytooaaacingaapaa.OneM
