/-
  Poly1305 with words of 64 bits: bytes put into words and taken out, the clearing by masks, the reduction and the remainder, the tag: plain mathematics. Conditions: in each statement.
-/
import Derived.Test.YtooaaacingaapaaOneN
namespace Go.Proofs.Ytooaaacingaapaa.OneN
open OneM

theorem pow8 (m : Nat) : (2 : Nat) ^ (8 * m) = 256 ^ m := by rw [Nat.pow_mul]
theorem powB (k : Nat) : (18446744073709551616 : Nat) ^ (k / 8) * 256 ^ (k % 8) = 256 ^ k := by
  rw [show (18446744073709551616 : Nat) = 256 ^ 8 by decide, ← Nat.pow_mul, ← Nat.pow_add]
  congr 1
  omega
theorem pow_le8 (r : Nat) (h : r ≤ 8) : 256 ^ r ≤ 18446744073709551616 := by
  rw [show (18446744073709551616 : Nat) = 256 ^ 8 by decide]
  exact Nat.pow_le_pow_right (by decide) h

/-- Word k / 8 of what k bytes hold. -/
theorem top_word (v k : Nat) (hv : v < 256 ^ k) : v / 18446744073709551616 ^ (k / 8) % 18446744073709551616 = v / 18446744073709551616 ^ (k / 8) ∧ v / 18446744073709551616 ^ (k / 8) < 256 ^ (k % 8) := by
  have h1 : v / 18446744073709551616 ^ (k / 8) < 256 ^ (k % 8) := by
    rw [Nat.div_lt_iff_lt_mul (Nat.pow_pos (by decide)), Nat.mul_comm, powB]
    exact hv
  exact ⟨Nat.mod_eq_of_lt (Nat.lt_of_lt_of_le h1 (pow_le8 _ (by omega))), h1⟩
/-- A byte is put above k bytes. -/
theorem put_byte (v k c n : Nat) (hv : v < 256 ^ k) (hc : c < 256) (hk : k / 8 < n) :
    (wd v n).set (k / 8) ((wd v n).getD (k / 8) 0 ||| c * 2 ^ (8 * (k % 8))) = wd (v + 256 ^ k * c) n ∧ (wd v n).getD (k / 8) 0 < 2 ^ (8 * (k % 8)) ∧ c * 2 ^ (8 * (k % 8)) < 18446744073709551616 := by
  have ht := top_word v k hv
  have hg : (wd v n).getD (k / 8) 0 = v / 18446744073709551616 ^ (k / 8) := by rw [wd_at v n _ hk, ht.1]
  have hcl : c * 2 ^ (8 * (k % 8)) < 18446744073709551616 := by
    rw [pow8]
    have h1 : c * 256 ^ (k % 8) < 256 * 256 ^ (k % 8) := Nat.mul_lt_mul_of_pos_right hc (Nat.pow_pos (by decide))
    have h2 := pow_le8 (k % 8 + 1) (by omega)
    rw [Nat.pow_succ, Nat.mul_comm] at h2
    omega
  have hor : (wd v n).getD (k / 8) 0 ||| c * 2 ^ (8 * (k % 8)) = v / 18446744073709551616 ^ (k / 8) + c * 256 ^ (k % 8) := by
    rw [hg, Nat.or_comm, Nat.mul_comm c, ← Nat.two_pow_add_eq_or_of_lt (by rw [pow8]; exact ht.2), pow8, Nat.mul_comm]
    omega
  refine ⟨?_, by rw [hg, pow8]; exact ht.2, hcl⟩
  rw [hor]
  refine wd_ext _ _ n (by rw [List.length_set, wd_len]) fun m hm => ?_
  have hp := powB k
  by_cases e : m = k / 8
  · subst e
    rw [getD_set_same' _ _ _ (by rw [wd_len]; exact hk)]
    have h1 : (v + 256 ^ k * c) / 18446744073709551616 ^ (k / 8) = v / 18446744073709551616 ^ (k / 8) + c * 256 ^ (k % 8) := by
      rw [← hp, Nat.mul_assoc, Nat.add_mul_div_left _ _ (Nat.pow_pos (by decide)), Nat.mul_comm c]
    rw [h1]
    refine (Nat.mod_eq_of_lt ?_).symm
    have h2 := pow_le8 (k % 8 + 1) (by omega)
    have h3 : c * 256 ^ (k % 8) ≤ 255 * 256 ^ (k % 8) := Nat.mul_le_mul_right _ (by omega)
    rw [Nat.pow_succ] at h2
    omega
  · rw [getD_set_ne' _ _ _ _ e, wd_at v n m hm]
    rcases Nat.lt_or_ge m (k / 8) with hlt | hge
    · have h1 : 256 ^ k * c = 18446744073709551616 ^ m * (18446744073709551616 * (18446744073709551616 ^ (k / 8 - m - 1) * 256 ^ (k % 8) * c)) := by
        rw [← hp, ← Nat.mul_assoc, ← Nat.mul_assoc, ← Nat.mul_assoc, ← Nat.pow_succ, ← Nat.pow_add, show m.succ + (k / 8 - m - 1) = k / 8 by omega]
      rw [h1, Nat.add_mul_div_left _ _ (Nat.pow_pos (by decide)), Nat.add_mul_mod_self_left]
    · have h1 : v + 256 ^ k * c < 256 ^ (k + 1) := by
        have : 256 ^ k * c ≤ 256 ^ k * 255 := Nat.mul_le_mul_left _ (by omega)
        rw [Nat.pow_succ]
        omega
      have h2 : 256 ^ (k + 1) ≤ 18446744073709551616 ^ m := by
        rw [show (18446744073709551616 : Nat) = 256 ^ 8 by decide, ← Nat.pow_mul]
        exact Nat.pow_le_pow_right (by decide) (by omega)
      rw [Nat.div_eq_of_lt (by omega), Nat.div_eq_of_lt (by omega)]
theorem lev_snoc (b : List UInt8) (k : Nat) (h : k < b.length) : lev (b.take (k + 1)) = lev (b.take k) + 256 ^ k * b[k].toNat := by
  rw [List.take_succ_eq_append_getElem h, lev_append, List.length_take, Nat.min_eq_left (by omega), lev, lev, Nat.mul_zero, Nat.add_zero]
theorem lev_take_lt (b : List UInt8) (k : Nat) : lev (b.take k) < 256 ^ k := by
  refine Nat.lt_of_lt_of_le (lev_lt _) (Nat.pow_le_pow_right (by decide) ?_)
  rw [List.length_take]; omega
theorem lev_mark (b : List UInt8) : lev (b ++ [1]) = lev b + 256 ^ b.length * 1 := by
  rw [lev_append, lev, lev, Nat.mul_zero, Nat.add_zero]; rfl
/-- Byte k of a number in words. -/
theorem get_byte (v n k : Nat) (hk : k / 8 < n) : (wd v n).getD (k / 8) 0 / 2 ^ (8 * (k % 8)) % 256 = v / 256 ^ k % 256 := by
  rw [wd_at v n _ hk, pow8, ← powB k, ← Nat.div_div_eq_div_mul]
  obtain ⟨x, hx⟩ : ∃ x, v / 18446744073709551616 ^ (k / 8) = x := ⟨_, rfl⟩
  rw [hx]
  have e : (18446744073709551616 : Nat) = 256 ^ (k % 8) * (256 * 256 ^ (7 - k % 8)) := by
    rw [show (18446744073709551616 : Nat) = 256 ^ 8 by decide, ← Nat.mul_assoc, ← Nat.pow_succ, ← Nat.pow_add]
    congr 1
    omega
  rw [e, Nat.mod_mul_right_div_self, Nat.mod_mul_right_mod]

/-! ### The masks -/
theorem and_lev (x m r s : Nat) (hx : x < 256) (hm : m < 256) : (x + 256 * r) &&& (m + 256 * s) = (x &&& m) + 256 * (r &&& s) := by
  have hlt : x &&& m < 256 := Nat.lt_of_le_of_lt Nat.and_le_left hx
  have h1 : ((x + 256 * r) &&& (m + 256 * s)) % 2 ^ 8 = x &&& m := by
    rw [Nat.and_mod_two_pow]
    congr 1
    · omega
    · omega
  have h2 : ((x + 256 * r) &&& (m + 256 * s)) / 2 ^ 8 = r &&& s := by
    rw [Nat.and_div_two_pow]
    congr 1
    · omega
    · omega
  omega
theorem m255 (x : UInt8) : x.toNat &&& 255 = x.toNat := by
  rw [show (255 : Nat) = 2 ^ 8 - 1 by decide, Nat.and_two_pow_sub_one_eq_mod]
  exact Nat.mod_eq_of_lt x.toNat_lt
theorem m15 (x : Nat) : x &&& 15 = x % 16 := by rw [show (15 : Nat) = 2 ^ 4 - 1 by decide, Nat.and_two_pow_sub_one_eq_mod]
theorem m252 (x : UInt8) : x.toNat &&& 252 = x.toNat / 4 * 4 := by
  have h : ∀ n : Fin 256, n.val &&& 252 = n.val / 4 * 4 := by decide +kernel
  exact h ⟨x.toNat, x.toNat_lt⟩
theorem lev_eight (a b c d e f g h : UInt8) (r : List UInt8) : lev (a :: b :: c :: d :: e :: f :: g :: h :: r) = a.toNat + 256 * (b.toNat + 256 * (c.toNat + 256 * (d.toNat + 256 * (e.toNat + 256 * (f.toNat + 256 * (g.toNat + 256 * (h.toNat + 256 * lev r))))))) := by
  simp only [lev]
theorem toNat16 (x : UInt8) : (UInt8.ofNat (x.toNat % 16)).toNat = x.toNat % 16 := by
  rw [UInt8.toNat_ofNat', Nat.mod_eq_of_lt (by omega)]
theorem toNat4 (x : UInt8) : (UInt8.ofNat (x.toNat / 4 * 4)).toNat = x.toNat / 4 * 4 := by
  have := x.toNat_lt
  rw [UInt8.toNat_ofNat', Nat.mod_eq_of_lt (by omega)]
theorem low_word (a b c d e f g h : UInt8) : lev [a, b, c, d, e, f, g, h] &&& 1152921487695413247 = lev [a, b, c, UInt8.ofNat (d.toNat % 16), UInt8.ofNat (e.toNat / 4 * 4), f, g, UInt8.ofNat (h.toNat % 16)] := by
  rw [lev_eight, lev_eight, toNat16, toNat16, toNat4, show (1152921487695413247 : Nat) = 255 + 256 * (255 + 256 * (255 + 256 * (15 + 256 * (252 + 256 * (255 + 256 * (255 + 256 * (15 + 256 * 0))))))) by decide]
  rw [and_lev _ _ _ _ a.toNat_lt (by decide), and_lev _ _ _ _ b.toNat_lt (by decide), and_lev _ _ _ _ c.toNat_lt (by decide), and_lev _ _ _ _ d.toNat_lt (by decide), and_lev _ _ _ _ e.toNat_lt (by decide), and_lev _ _ _ _ f.toNat_lt (by decide), and_lev _ _ _ _ g.toNat_lt (by decide), and_lev _ _ _ _ h.toNat_lt (by decide)]
  rw [m255, m255, m255, m255, m255, m15, m15, m252]
  simp only [lev, Nat.and_self]
theorem high_word (a b c d e f g h : UInt8) : lev [a, b, c, d, e, f, g, h] &&& 1152921487695413244 = lev [UInt8.ofNat (a.toNat / 4 * 4), b, c, UInt8.ofNat (d.toNat % 16), UInt8.ofNat (e.toNat / 4 * 4), f, g, UInt8.ofNat (h.toNat % 16)] := by
  rw [lev_eight, lev_eight, toNat16, toNat16, toNat4, toNat4, show (1152921487695413244 : Nat) = 252 + 256 * (255 + 256 * (255 + 256 * (15 + 256 * (252 + 256 * (255 + 256 * (255 + 256 * (15 + 256 * 0))))))) by decide]
  rw [and_lev _ _ _ _ a.toNat_lt (by decide), and_lev _ _ _ _ b.toNat_lt (by decide), and_lev _ _ _ _ c.toNat_lt (by decide), and_lev _ _ _ _ d.toNat_lt (by decide), and_lev _ _ _ _ e.toNat_lt (by decide), and_lev _ _ _ _ f.toNat_lt (by decide), and_lev _ _ _ _ g.toNat_lt (by decide), and_lev _ _ _ _ h.toNat_lt (by decide)]
  rw [m255, m255, m255, m255, m15, m15, m252, m252]
  simp only [lev, Nat.and_self]
theorem eight (l : List UInt8) (h : l.length = 8) : ∃ a b c d e f g k, l = [a, b, c, d, e, f, g, k] := by
  match l, h with
  | [a, b, c, d, e, f, g, k], _ => exact ⟨a, b, c, d, e, f, g, k, rfl⟩
theorem two_lev (p q : List UInt8) (hp : p.length = 8) (hq : q.length = 8) : wd (lev (p ++ q)) 3 = [lev p, lev q, 0] := by
  have h1 := lev_lt p
  have h2 := lev_lt q
  rw [hp, show (256 : Nat) ^ 8 = 18446744073709551616 by decide] at h1
  rw [hq, show (256 : Nat) ^ 8 = 18446744073709551616 by decide] at h2
  have h3 : lev (p ++ q) = lev p + 18446744073709551616 * lev q := by rw [lev_append, hp]
  generalize lev p = x at *
  generalize lev q = y at *
  refine (wd_ext _ _ 3 rfl fun k hk => ?_).symm
  rw [h3]
  match k, hk with
  | 0, _ => rw [Nat.pow_zero]; show x = _; omega
  | 1, _ => rw [Nat.pow_one]; show y = _; omega
  | 2, _ =>
    rw [show (18446744073709551616 : Nat) ^ 2 = 18446744073709551616 * 18446744073709551616 by decide, ← Nat.div_div_eq_div_mul]
    show 0 = _
    omega
/-- The clearing of a key is that by the masks. -/
theorem clamp_wd (key : List UInt8) (h : 16 ≤ key.length) : wd (lev (clamp key)) 3 = [(wd (lev (key.take 16)) 3).getD 0 0 &&& 1152921487695413247, (wd (lev (key.take 16)) 3).getD 1 0 &&& 1152921487695413244, 0] := by
  obtain ⟨p, hp⟩ : ∃ p, key.take 8 = p := ⟨_, rfl⟩
  obtain ⟨q, hq⟩ : ∃ q, (key.drop 8).take 8 = q := ⟨_, rfl⟩
  obtain ⟨r, hr⟩ : ∃ r, key.drop 16 = r := ⟨_, rfl⟩
  have hpl : p.length = 8 := by rw [← hp, List.length_take]; omega
  have hql : q.length = 8 := by rw [← hq, List.length_take, List.length_drop]; omega
  have hk : key = p ++ (q ++ r) := by
    rw [← hp, ← hq, ← hr, show key.drop 16 = (key.drop 8).drop 8 by rw [List.drop_drop], List.take_append_drop, List.take_append_drop]
  have ht : key.take 16 = p ++ q := by
    rw [hk, ← List.append_assoc, List.take_append_of_le_length (by simp; omega), List.take_of_length_le (by simp; omega)]
  rw [ht, two_lev p q hpl hql, hk]
  obtain ⟨a0, a1, a2, a3, a4, a5, a6, a7, rfl⟩ := eight p hpl
  obtain ⟨b0, b1, b2, b3, b4, b5, b6, b7, rfl⟩ := eight q hql
  have hc : clamp ([a0, a1, a2, a3, a4, a5, a6, a7] ++ ([b0, b1, b2, b3, b4, b5, b6, b7] ++ r)) = [a0, a1, a2, UInt8.ofNat (a3.toNat % 16), UInt8.ofNat (a4.toNat / 4 * 4), a5, a6, UInt8.ofNat (a7.toNat % 16)] ++ [UInt8.ofNat (b0.toNat / 4 * 4), b1, b2, UInt8.ofNat (b3.toNat % 16), UInt8.ofNat (b4.toNat / 4 * 4), b5, b6, UInt8.ofNat (b7.toNat % 16)] := rfl
  rw [hc, two_lev _ _ rfl rfl]
  show _ = [lev [a0, a1, a2, a3, a4, a5, a6, a7] &&& 1152921487695413247, lev [b0, b1, b2, b3, b4, b5, b6, b7] &&& 1152921487695413244, 0]
  rw [low_word, high_word]
theorem clamp_lt (key : List UInt8) (h : 16 ≤ key.length) : lev (clamp key) < 2 ^ 124 := by
  have h1 := clamp_wd key h
  have hl : (clamp key).length = 16 := by simp [clamp]
  have h2 := lev_lt (clamp key)
  rw [hl] at h2
  have h3 := wd_at (lev (clamp key)) 3 1 (by decide)
  rw [h1] at h3
  have h4 : (wd (lev (key.take 16)) 3).getD 1 0 &&& 1152921487695413244 ≤ 1152921487695413244 := Nat.and_le_right
  have h5 : [(wd (lev (key.take 16)) 3).getD 0 0 &&& 1152921487695413247, (wd (lev (key.take 16)) 3).getD 1 0 &&& 1152921487695413244, 0].getD 1 0 = (wd (lev (key.take 16)) 3).getD 1 0 &&& 1152921487695413244 := rfl
  rw [h5] at h3
  generalize (wd (lev (key.take 16)) 3).getD 1 0 &&& 1152921487695413244 = z at *
  generalize lev (clamp key) = v at *
  rw [Nat.pow_one] at h3
  have e1 : (256 : Nat) ^ 16 = 340282366920938463463374607431768211456 := by decide
  have e2 : (2 : Nat) ^ 124 = 21267647932558653966460912964485513216 := by decide
  rw [e1] at h2
  rw [e2]
  omega
end Go.Proofs.Ytooaaacingaapaa.OneN
