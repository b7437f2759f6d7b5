/-
  Poly1305 with words of 64 bits: the reduction, the remainder, the blocks one after another: plain mathematics. Conditions: in each statement.
-/
import Derived.Test.YtooaaacingaapaaOneV
namespace Go.Proofs.Ytooaaacingaapaa.OneN
open OneM

/-- What is above 2^130 comes back five times. -/
def red (x : Nat) : Nat := x % 1361129467683753853853498429727072845824 + 5 * (x / 1361129467683753853853498429727072845824)
theorem pp_val : pp = 1361129467683753853853498429727072845819 := by decide
theorem red_mod (x : Nat) : red x % pp = x % pp := by
  unfold red
  rw [pp_val]
  have h := Nat.div_add_mod x 1361129467683753853853498429727072845824
  generalize x / 1361129467683753853853498429727072845824 = q at *
  generalize x % 1361129467683753853853498429727072845824 = r at *
  rw [← h, show 1361129467683753853853498429727072845824 * q + r = 1361129467683753853853498429727072845819 * q + (r + 5 * q) by omega, Nat.mul_add_mod]
theorem red_lt (x : Nat) (h : x < 57896044618658097711785492504343953926634992332820282019728792003956564819968) : red x < 1361129467683753853853498429727072845824 + 340282366920938463463374607431768211456 := by
  unfold red
  omega
theorem three (v a b c : Nat) (h0 : a = v % 18446744073709551616) (h1 : b = v / 18446744073709551616 % 18446744073709551616) (h2 : c = v / 340282366920938463463374607431768211456 % 18446744073709551616) : wd v 3 = [a, b, c] := by
  refine (wd_ext _ _ 3 rfl fun k hk => ?_).symm
  match k, hk with
  | 0, _ => rw [Nat.pow_zero, Nat.div_one, ← h0]; rfl
  | 1, _ => rw [Nat.pow_one, ← h1]; rfl
  | 2, _ => rw [show (18446744073709551616 : Nat) ^ 2 = 340282366920938463463374607431768211456 by decide, ← h2]; rfl
/-- x modulo 2^130. -/
theorem below_wd (x : Nat) : wd (x % 1361129467683753853853498429727072845824) 3 = [(wd x 6).getD 0 0, (wd x 6).getD 1 0, (wd x 6).getD 2 0 % 4] := by
  have h0 := wd_at x 6 0 (by decide)
  have h1 := wd_at x 6 1 (by decide)
  have h2 := wd_at x 6 2 (by decide)
  rw [Nat.pow_zero] at h0
  rw [Nat.pow_one] at h1
  rw [show (18446744073709551616 : Nat) ^ 2 = 340282366920938463463374607431768211456 by decide] at h2
  rw [h0, h1, h2]
  exact three _ _ _ _ (by omega) (by omega) (by omega)
theorem or62 (u v : Nat) (hu : u < 2 ^ 62) : u ||| v % 4 * 2 ^ 62 = u + v % 4 * 2 ^ 62 := by
  rw [Nat.or_comm, Nat.mul_comm, ← Nat.two_pow_add_eq_or_of_lt hu, Nat.add_comm]
/-- x by 2^130. -/
theorem above_wd (x : Nat) (h : x < 115792089237316195423570985008687907853269984665640564039457584007913129639936) : wd (x / 1361129467683753853853498429727072845824) 3 = [(wd x 6).getD 2 0 / 4 ||| (wd x 6).getD 3 0 % 4 * 4611686018427387904, (wd x 6).getD 3 0 / 4, 0] := by
  obtain ⟨q, hq⟩ : ∃ q, x / 340282366920938463463374607431768211456 = q := ⟨_, rfl⟩
  have hql : q < 340282366920938463463374607431768211456 := by
    rw [← hq]
    refine Nat.div_lt_of_lt_mul ?_
    rw [show 340282366920938463463374607431768211456 * 340282366920938463463374607431768211456 = 115792089237316195423570985008687907853269984665640564039457584007913129639936 by decide]
    exact h
  have h2 : (wd x 6).getD 2 0 = q % 18446744073709551616 := by
    rw [wd_at x 6 2 (by decide), show (18446744073709551616 : Nat) ^ 2 = 340282366920938463463374607431768211456 by decide, hq]
  have h3 : (wd x 6).getD 3 0 = q / 18446744073709551616 := by
    rw [wd_at x 6 3 (by decide), show (18446744073709551616 : Nat) ^ 3 = 340282366920938463463374607431768211456 * 18446744073709551616 by decide, ← Nat.div_div_eq_div_mul, hq]
    exact Nat.mod_eq_of_lt (by omega)
  have h4 := or62 ((wd x 6).getD 2 0 / 4) ((wd x 6).getD 3 0) (by rw [h2]; omega)
  rw [show (2 : Nat) ^ 62 = 4611686018427387904 by decide] at h4
  rw [h4, h2, h3, show (1361129467683753853853498429727072845824 : Nat) = 340282366920938463463374607431768211456 * 4 by decide, ← Nat.div_div_eq_div_mul, hq]
  clear h h2 h3 h4 hq
  exact three _ _ _ _ (by omega) (by omega) (by omega)
theorem five_wd (t : Nat) (h : t < 18446744073709551616) : wd t 3 = [t, 0, 0] := three _ _ _ _ (by omega) (by omega) (by omega)
theorem back_wd (y : Nat) (h : y < 340282366920938463463374607431768211456) : wd y 3 = [(wd y 6).getD 0 0, (wd y 6).getD 1 0, 0] := by
  have h0 := wd_at y 6 0 (by decide)
  have h1 := wd_at y 6 1 (by decide)
  rw [Nat.pow_zero, Nat.div_one] at h0
  rw [Nat.pow_one] at h1
  exact three _ _ _ _ h0 h1 (by omega)
/-- Once or never. -/
theorem times_wd (x : Nat) (h : x < 1361129467683753853853498429727072845824 + 340282366920938463463374607431768211456) : (wd (x + 5) 3).getD 2 0 / 4 = (x + 5) / 1361129467683753853853498429727072845824 ∧ (x + 5) / 1361129467683753853853498429727072845824 ≤ 1 := by
  rw [wd_at (x + 5) 3 2 (by decide), show (18446744073709551616 : Nat) ^ 2 = 340282366920938463463374607431768211456 by decide]
  omega
theorem le_rem (x s : Nat) (h : x < 1361129467683753853853498429727072845824 + 340282366920938463463374607431768211456) : le16 (x + 5 * ((x + 5) / 1361129467683753853853498429727072845824) + s) = le16 (x % pp + s) := by
  rw [pp_val]
  rcases Nat.lt_or_ge (x + 5) 1361129467683753853853498429727072845824 with h1 | h1
  · rw [Nat.div_eq_of_lt h1, Nat.mod_eq_of_lt (show x < 1361129467683753853853498429727072845819 by omega)]
    rfl
  · have e1 : (x + 5) / 1361129467683753853853498429727072845824 = 1 := by omega
    have e2 : x % 1361129467683753853853498429727072845819 = x - 1361129467683753853853498429727072845819 := by omega
    obtain ⟨y, rfl⟩ : ∃ y, x = y + 1361129467683753853853498429727072845819 := ⟨x - 1361129467683753853853498429727072845819, by omega⟩
    rw [e1, e2, Nat.add_sub_cancel, ← le_mod, ← le_mod (y + s), show (2 : Nat) ^ 128 = 340282366920938463463374607431768211456 by decide, show y + 1361129467683753853853498429727072845819 + 5 * 1 + s = y + s + 340282366920938463463374607431768211456 * 4 by omega, Nat.add_mul_mod_self_left]

/-- A block more. -/
def stepT (r T : Nat) (blk : List UInt8) : Nat := red ((T + lev (blk ++ [1])) * r)
def Tot (T : Nat) : Prop := T < 1361129467683753853853498429727072845824 + 340282366920938463463374607431768211456
theorem mark_lt (blk : List UInt8) (h : blk.length ≤ 16) : lev (blk ++ [1]) < 680564733841876926926749214863536422912 := by
  have h1 := lev_lt blk
  have h2 : 256 ^ blk.length ≤ 256 ^ 16 := Nat.pow_le_pow_right (by decide) h
  rw [lev_mark, Nat.mul_one]
  rw [show (256 : Nat) ^ 16 = 340282366920938463463374607431768211456 by decide] at h2
  omega
theorem sum_lt (T : Nat) (blk : List UInt8) (hT : Tot T) (h : blk.length ≤ 16) : T + lev (blk ++ [1]) < 2722258935367507707706996859454145691648 := by
  have := mark_lt blk h
  unfold Tot at hT
  omega
theorem prod_lt (r T : Nat) (blk : List UInt8) (hr : r < 2 ^ 124) (hT : Tot T) (h : blk.length ≤ 16) : (T + lev (blk ++ [1])) * r < 57896044618658097711785492504343953926634992332820282019728792003956564819968 := by
  have h1 := sum_lt T blk hT h
  have h2 : (T + lev (blk ++ [1])) * r ≤ 2722258935367507707706996859454145691647 * 21267647932558653966460912964485513215 := by
    refine Nat.mul_le_mul (by omega) ?_
    rw [show (2 : Nat) ^ 124 = 21267647932558653966460912964485513216 by decide] at hr
    omega
  exact Nat.lt_of_le_of_lt h2 (by decide)
theorem stepT_tot (r T : Nat) (blk : List UInt8) (hr : r < 2 ^ 124) (hT : Tot T) (h : blk.length ≤ 16) : Tot (stepT r T blk) := red_lt _ (prod_lt r T blk hr hT h)
/-- The blocks. -/
def blk (b : List UInt8) (i : Nat) : List UInt8 := (b.drop (16 * i)).take 16
theorem blk_len (b : List UInt8) (i : Nat) : (blk b i).length ≤ 16 := by simp [blk]; omega
def accT (r : Nat) (b : List UInt8) (l : List Nat) : Nat := l.foldl (fun T i => stepT r T (blk b i)) 0
theorem accT_snoc (r : Nat) (b : List UInt8) (l : List Nat) (i : Nat) : accT r b (l ++ [i]) = stepT r (accT r b l) (blk b i) := by simp [accT]
theorem accT_tot (r : Nat) (b : List UInt8) (hr : r < 2 ^ 124) (l : List Nat) : Tot (accT r b l) := by
  have : ∀ (l : List Nat) (T : Nat), Tot T → Tot (l.foldl (fun T i => stepT r T (blk b i)) T) := by
    intro l
    induction l with
    | nil => intro T h; exact h
    | cons i l ih => intro T h; rw [List.foldl_cons]; exact ih _ (stepT_tot r T _ hr h (blk_len b i))
  exact this l 0 (by unfold Tot; omega)
theorem accT_acc (r : Nat) (b : List UInt8) : ∀ n, accT r b (List.range n) % pp = accS r b n := by
  intro n
  induction n with
  | zero => simp [accT, accS]
  | succ n ih =>
    rw [List.range_succ, accT_snoc, stepT, red_mod, accS, ← ih]
    unfold blk
    rw [Nat.mul_mod, Nat.add_mod, ← Nat.add_mod, Nat.mul_mod (accT r b (List.range n) % pp + _), Nat.add_mod (accT r b (List.range n) % pp), Nat.mod_mod, ← Nat.add_mod]
theorem tag_words (key b : List UInt8) : le16 (accT (lev (clamp key)) b (List.range ((b.length + 15) / 16)) % pp + lev ((key.drop 16).take 16)) = tagS key b := by
  rw [accT_acc]
  rfl
end Go.Proofs.Ytooaaacingaapaa.OneN
